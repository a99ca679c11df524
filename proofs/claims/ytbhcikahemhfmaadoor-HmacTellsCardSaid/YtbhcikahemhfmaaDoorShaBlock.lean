/- mix: the 64 steps over the words of a state, as the document has them. | Block goes on by 64 bytes: the document's state, for any state and any block. -/
import Derived.Test.YtbhcikahemhfmaaDoorShaSpread
import Derived.Test.YtbhcikahemhfmaaDoorShaArr

namespace Go.Proofs.YtbhcikahemhfmaaDoor.Sha3
open Go.RowKit

theorem rot_int (x : Wd) (m : Int) (w : World) (h0 : 0 < m) (hn : m < 32) : Calls Tryd.prog 35 #[.int .u32 (uv x), .int .i64 m] w fun e w' => e = .returned (.int .u32 (uv (rotW x m.toNat))) ∧ ∃ m, w' = w.drewN m :=
  rot_at x m m.toNat (by omega) w (by omega) (by omega)
/-- The words of a state stand in eight slots; k steps are done. -/
def MixAt (w : World) (ks ws : List Wd) (s0 : St) (a b c d e f g h i : Value) (wr : World) : Prop :=
  ∃ k : Nat, ∃ s : St, k ≤ 64 ∧ i = .int .i64 k ∧ mixS ks ws s0 k = s ∧ a = .int .u32 (uv s.a) ∧ b = .int .u32 (uv s.b) ∧ c = .int .u32 (uv s.c) ∧ d = .int .u32 (uv s.d) ∧ e = .int .u32 (uv s.e) ∧ f = .int .u32 (uv s.f) ∧ g = .int .u32 (uv s.g) ∧ h = .int .u32 (uv s.h) ∧
    Row wr (w.heap.size + 1) 45 (wcells ws) ∧ Row wr (w.heap.size + 1 + 1) 38 (wcells (List.replicate 8 0#32)) ∧ Below w.heap.size w wr

theorem t1_uv (e f g h k w : Wd) : (uv h + bits .xor .u32 (bits .xor .u32 (uv (rotW e 6)) (uv (rotW e 11))) (uv (rotW e 25)) + bits .xor .u32 (bits .and .u32 (uv e) (uv f)) (bits .and .u32 (uv (~~~e)) (uv g)) + uv k + uv w) % 4294967296 = uv (t1W e f g h k w) := by
  rw [xor_uv, xor_uv, and_uv, and_uv, xor_uv, add5_mod]
  rfl
theorem t2_uv (a b c : Wd) : (bits .xor .u32 (bits .xor .u32 (uv (rotW a 2)) (uv (rotW a 13))) (uv (rotW a 22)) + bits .xor .u32 (bits .xor .u32 (bits .and .u32 (uv a) (uv b)) (bits .and .u32 (uv a) (uv c))) (bits .and .u32 (uv b) (uv c))) % 4294967296 = uv (t2W a b c) := by
  rw [xor_uv, xor_uv, and_uv, and_uv, and_uv, xor_uv, xor_uv, add_mod]
  rfl
set_option maxRecDepth 100000 in
set_option maxHeartbeats 1000000 in
theorem mix_gen (ks hs ws : List Wd) (r : St) (w : World) (hh : hs.length = 8) (hw : ws.length = 64) (h1 : 1 < w.heap.size) (hk : ∀ k, k < 64 → w.cell? ⟨1, k, none⟩ = some (.int .u32 (uv (ks.getD k 0#32)))) (s0 : St) (hs0 : St.ofL hs = s0) (hr : mixS ks ws s0 64 = r) :
    Calls Tryd.prog 29 #[.agg (wcells hs), .agg (wcells ws)] w fun e w' => e = .returned (.agg (wcells r.toL)) ∧ Below w.heap.size w w' := by
  have Hh := Lib.hid hh
  have Hw := Lib.hid hw
  have Hk := Lib.hid hk
  have HR := Lib.hid hr
  have HS := Lib.hid hs0
  clear hh hw hk hr hs0
  go_enter Tryd.func29, Tryd.ntmps29
  go_wp2_with fail
  obtain ⟨r1, r2, r3, hb⟩ := rows3 w (wcells hs) (wcells ws) (wcells (List.replicate 8 0#32)) 38 45 38
  rw [show #[Value.int IntKind.u32 0, Value.int IntKind.u32 0, Value.int IntKind.u32 0, Value.int IntKind.u32 0, Value.int IntKind.u32 0, Value.int IntKind.u32 0, Value.int IntKind.u32 0, Value.int IntKind.u32 0] = wcells (List.replicate 8 0#32) from rfl]
  generalize ((w.alloc (.cells (wcells hs) 38)).alloc (.cells (wcells ws) 45)).alloc (.cells (wcells (List.replicate 8 0#32)) 38) = w0 at *
  have c0 : w0.cell? ⟨w.heap.size, 0, none⟩ = some (.int .u32 (uv s0.a)) := by rw [← HS.out]; exact r1.cell (wcells_at hs 0 (by rw [Hh.out]; omega))
  have c1 : w0.cell? ⟨w.heap.size, 1, none⟩ = some (.int .u32 (uv s0.b)) := by rw [← HS.out]; exact r1.cell (wcells_at hs 1 (by rw [Hh.out]; omega))
  have c2 : w0.cell? ⟨w.heap.size, 2, none⟩ = some (.int .u32 (uv s0.c)) := by rw [← HS.out]; exact r1.cell (wcells_at hs 2 (by rw [Hh.out]; omega))
  have c3 : w0.cell? ⟨w.heap.size, 3, none⟩ = some (.int .u32 (uv s0.d)) := by rw [← HS.out]; exact r1.cell (wcells_at hs 3 (by rw [Hh.out]; omega))
  have c4 : w0.cell? ⟨w.heap.size, 4, none⟩ = some (.int .u32 (uv s0.e)) := by rw [← HS.out]; exact r1.cell (wcells_at hs 4 (by rw [Hh.out]; omega))
  have c5 : w0.cell? ⟨w.heap.size, 5, none⟩ = some (.int .u32 (uv s0.f)) := by rw [← HS.out]; exact r1.cell (wcells_at hs 5 (by rw [Hh.out]; omega))
  have c6 : w0.cell? ⟨w.heap.size, 6, none⟩ = some (.int .u32 (uv s0.g)) := by rw [← HS.out]; exact r1.cell (wcells_at hs 6 (by rw [Hh.out]; omega))
  have c7 : w0.cell? ⟨w.heap.size, 7, none⟩ = some (.int .u32 (uv s0.h)) := by rw [← HS.out]; exact r1.cell (wcells_at hs 7 (by rw [Hh.out]; omega))
  go_quiet (fail)
  go_wp2_with fail
  go_quiet (fail)
  go_wp2_with fail
  clear c0 c1 c2 c3 c4 c5 c6 c7
  go_loopw [5, 6, 7, 8, 9, 10, 11, 12, 32] (fun a b c d e f g h i wr => MixAt w ks ws s0 a b c d e f g h i wr) (fun _ _ _ _ _ _ _ _ i _ => 64 - (intOf i).toNat)
  case atStart => exact ⟨0, s0, Nat.zero_le _, rfl, rfl, rfl, rfl, rfl, rfl, rfl, rfl, rfl, rfl, (r2.drewN _).drewN _, (r3.drewN _).drewN _, below_drewN (below_drewN hb _) _⟩
  case round =>
    clear r1 r2 r3 hb
    obtain ⟨k, s, hk, rfl, hs, rfl, rfl, rfl, rfl, rfl, rfl, rfl, rfl, r2, r3, hb⟩ := hrel
    have HS1 := Lib.hid hs
    clear hs
    by_cases hlt : k < 64
    · have ck : wr.cell? ⟨1, k, none⟩ = _ := (hb.cell (p := ⟨1, k, none⟩) h1).trans (Hk.out k hlt)
      have cw := r2.cell (wcells_at ws k (by rw [Hw.out]; omega))
      have HW := Lib.hid (show mixS ks ws s0 (k + 1) = stepS s (ks.getD k 0#32) (ws.getD k 0#32) by rw [← HS1.out]; rfl)
      generalize ks.getD k 0#32 = kk at *
      generalize ws.getD k 0#32 = wk at *
      obtain ⟨a, b, c, d, e, f, g, h8⟩ := s
      have HT1 := Lib.hid (t1_uv e f g h8 kk wk)
      have HT2 := Lib.hid (t2_uv a b c)
      have hk64 : (k : Int) < 64 := by omega
      have hn := not_uv e
      go_wp2_with fail
      go_quiet ((go_at_call 35; refine Calls.quiet_of (rot_int _ _ _ (by omega) (by omega))))
      go_wp2_with fail
      clear hn ck cw
      refine (rot_int a 2 _ (by omega) (by omega)).mono ?_
      rintro e1 w1 ⟨rfl, m1, rfl⟩
      go_wp2_with fail
      refine (rot_int a 13 _ (by omega) (by omega)).mono ?_
      rintro e1 w1 ⟨rfl, m2, rfl⟩
      go_wp2_with fail
      refine (rot_int a 22 _ (by omega) (by omega)).mono ?_
      rintro e1 w1 ⟨rfl, m3, rfl⟩
      go_wp2_with fail
      rw [HT1.out, HT2.out, add_mod, add_mod]
      refine ⟨⟨k + 1, _, by omega, by go_num, HW.out, rfl, rfl, rfl, rfl, rfl, rfl, rfl, rfl, r2.drewN _, r3.drewN _, below_drewN hb _⟩, ?_⟩
      simp [intOf]; omega
    · obtain rfl : k = 64 := by omega
      rw [show ((64 : Nat) : Int) = (64 : Int) from rfl]
      have HE := Lib.hid (show s = r from HS1.out.symm.trans HR.out)
      clear HR HS1
      go_wp2_with (refine wpList_store_row rfl 38 (.tmp 4) (.tmp 103) rfl (w.heap.size + 1 + 1) (wcells s.toL) rfl rfl 38 (wcells (List.replicate 8 0#32)) r3 Tryd.size28 rfl (wcells_one _) ?_)
      exact bodyPost_ret (v := .agg (wcells r.toL)) (results_cell_row Tryd.results29 _ _ (w.heap.size + 1 + 1) 38 (wcells r.toL) (0, 0) _ rfl (by rw [← HE.out]; exact r3.setRow (wcells s.toL)) Tryd.underlying38 rfl Tryd.size28) rfl ⟨rfl, below_setRow hb (Nat.le_add_right_of_le (Nat.le_add_right _ _)) _⟩
theorem mix_any (ks hs ws : List Wd) (w : World) (hh : hs.length = 8) (hw : ws.length = 64) (h1 : 1 < w.heap.size) (hk : ∀ k, k < 64 → w.cell? ⟨1, k, none⟩ = some (.int .u32 (uv (ks.getD k 0#32)))) :
    Calls Tryd.prog 29 #[.agg (wcells hs), .agg (wcells ws)] w fun e w' => e = .returned (.agg (wcells (mixS ks ws (St.ofL hs) 64).toL)) ∧ Below w.heap.size w w' :=
  mix_gen ks hs ws _ w hh hw h1 hk _ rfl rfl
end Go.Proofs.YtbhcikahemhfmaaDoor.Sha3

namespace Go.Proofs.YtbhcikahemhfmaaDoor.Sha3
open Go.RowKit

/-- At a round's head: k words are added. -/
def BlAt (w : World) (l hs : List Wd) (n : Qd) (i : Value) (wr : World) : Prop :=
  ∃ k : Nat, k ≤ 8 ∧ i = .int .i64 k ∧ Row wr w.heap.size 41 (scells (over l hs k) (uq n)) ∧ Row wr (w.heap.size + 1 + 1) 41 (scells (List.replicate 8 0#32) 0) ∧ Below w.heap.size w wr

set_option maxRecDepth 100000 in
set_option maxHeartbeats 1000000 in
theorem block_gen (h0 ks hs l ms ws : List Wd) (n : Qd) (bs : List Int) (w : World) (hh : hs.length = 8) (hl : bs.length = 64) (hx : IsBytes bs) (ht : Tab w h0 ks) (hks : ks.length = 64)
    (hws : spreadW bs = ws) (hwl : ws.length = 64) (hms : (mixS ks ws (St.ofL hs) 64).toL = ms) (hml : ms.length = 8) (hll : l.length = 8) (hadd : ∀ i, i < 8 → l.getD i 0#32 = hs.getD i 0#32 + ms.getD i 0#32) :
    Calls Tryd.prog 22 #[.agg (scells hs (uq n)), .agg (bcells bs)] w fun e w' => e = .returned (.agg (scells l (uq (n + 64#64)))) ∧ Below w.heap.size w w' := by
  have Hh := Lib.hid hh
  have Hl := Lib.hid hl
  have Hks := Lib.hid hks
  have Hws := Lib.hid hws
  have Hwl := Lib.hid hwl
  have Hms := Lib.hid hms
  have Hml := Lib.hid hml
  have Hll := Lib.hid hll
  have Ha := Lib.hid hadd
  clear hh hl hks hws hwl hms hml hll hadd
  go_enter Tryd.func22, Tryd.ntmps22
  go_wp2_with fail
  obtain ⟨r1, r2, r3, hb⟩ := rows3 w (scells hs (uq n)) (bcells bs) (scells (List.replicate 8 0#32) 0) 41 43 41
  rw [show #[Value.int IntKind.u32 0, Value.int IntKind.u32 0, Value.int IntKind.u32 0, Value.int IntKind.u32 0, Value.int IntKind.u32 0, Value.int IntKind.u32 0, Value.int IntKind.u32 0, Value.int IntKind.u32 0, Value.int IntKind.u64 0] = scells (List.replicate 8 0#32) 0 from rfl]
  generalize ((w.alloc (.cells (scells hs (uq n)) 41)).alloc (.cells (bcells bs) 43)).alloc (.cells (scells (List.replicate 8 0#32) 0) 41) = w0 at *
  refine wp_region_segs [([0, 5, 1, 2], 3), ([], 4)] [] (by kernel_rfl) (by kernel_rfl) (by kernel_rfl) (by kernel_rfl) (fun _ _ d _ _ h => by cases d <;> exact h) ?_
  refine wpSegs_next (by simp [pickOps]; rfl) ?_
  repeat (go_big_quiet_step (fail))
  refine wpQuiet_load_cells rfl 38 (.tmp 7) rfl w.heap.size 0 rfl (wcells hs) _ (scells_cells r1.drew) r1.lt Tryd.underlying38 rfl (by rw [Tryd.size28, wcells_size, Hh.out]) ?_
  refine wpQuiet_load_cells rfl 43 (.tmp 3) rfl (w.heap.size + 1) 0 rfl (bcells bs) _ r2.drew.cells r2.lt Tryd.underlying43 rfl (by rw [Tryd.size32, bcells_size, Hl.out]) ?_
  refine wpQuiet_nil ?_
  refine wpOp_alone rfl rfl (fun K hK => ?_)
  go_simp
  refine (spread_any bs _ Hl.out hx).mono ?_
  rintro e w1 ⟨rfl, hb1⟩
  refine hK _ _ ⟨hb1, ?_⟩
  clear hK K
  rw [Hws.out]
  refine wpSegs_next (by simp [pickOps]; rfl) ?_
  refine wpQuiet_nil ?_
  refine wpOp_alone rfl rfl (fun K hK => ?_)
  go_simp
  have hb2 : Below w.heap.size w w1 := hb.drew.trans (hb1.mono hb.size)
  refine (mix_any ks hs ws _ Hh.out Hwl.out (ht.keep hb2).1 (fun k hk => (ht.keep hb2).key Hks.out k hk)).mono ?_
  rintro e w2 ⟨rfl, hb3⟩
  refine hK _ _ ⟨hb3, ?_⟩
  clear hK K
  rw [Hms.out]
  have hb4 : Below w.heap.size w w2 := hb2.trans (hb3.mono hb2.size)
  have q1 : Row w2 w.heap.size 41 (scells hs (uq n)) := (r1.drew.keep hb1).keep hb3
  have q3 : Row w2 (w.heap.size + 1 + 1) 41 (scells (List.replicate 8 0#32) 0) := (r3.drew.keep hb1).keep hb3
  clear r1 r2 r3 hb hb1 hb2 hb3
  refine wpSegs_last (by simp [pickOps]; rfl) ?_
  refine wpQuiet_nil ?_
  go_wp2_with fail
  go_loopw [12] (fun i wr => BlAt w l hs n i wr) (fun i _ => 8 - (intOf i).toNat)
  case atStart => exact ⟨0, Nat.zero_le _, rfl, by rw [over_none]; exact q1, q3, hb4⟩
  case round =>
    clear q1 q3 hb4
    obtain ⟨k, hk, rfl, r1, r3, hb⟩ := hrel
    by_cases hlt : k < 8
    · have ik := fun w' => run_index_array (P := Tryd.prog) w' 38 37 8 _ (wcells ms) k _ Tryd.underlying38 Tryd.underlying37 rfl Tryd.one27 hlt (wcells_at ms k (by rw [Hml.out]; omega))
      have ck := r1.cell (scells_at (over l hs k) (uq n) k (by rw [over_length l hs k (by rw [Hh.out, Hll.out]), Hll.out]; omega))
      rw [over_getD l hs 0#32 k (by rw [Hll.out]; omega)] at ck
      have fk := r1.free k
      have HA := Lib.hid (Ha.out k hlt)
      generalize ms.getD k 0#32 = m at *
      generalize hs.getD k 0#32 = h at *
      have hm := add_mod h m
      have gk : (k : Int) < 8 := by omega
      go_wp2_with fail
      refine ⟨⟨k + 1, by omega, by go_num, ?_, r3.other (by omega) _ _, hb.setCell (p := ⟨w.heap.size, k, none⟩) (Nat.le_refl _) _⟩, ?_⟩
      · rw [← HA.out, ← over_set l hs 0#32 k (by rw [Hh.out, Hll.out]) (by rw [Hll.out]; omega), ← scells_set _ _ _ _ (by rw [over_length l hs k (by rw [Hh.out, Hll.out]), Hll.out]; omega)]
        exact r1.set k _
      · simp [intOf]; omega
    · obtain rfl : k = 8 := by omega
      rw [show ((8 : Nat) : Int) = (8 : Int) from rfl]
      rw [over_all l hs 8 (by rw [Hh.out, Hll.out]) (by rw [Hll.out]; omega)] at r1
      have cb := r1.cell (scells_last l (uq n) 8 Hll.out)
      have fb := r1.free 8
      have hq := uq_add64 n
      have r4 : Row (wr.setCell ⟨w.heap.size, 8, none⟩ (.int .u64 (uq (n + 64#64)))) w.heap.size 41 (scells l (uq (n + 64#64))) := by rw [← scells_setLast l (uq n) _ 8 Hll.out]; exact r1.set 8 _
      have r5 := r3.other (b := w.heap.size) (by omega) 8 (.int .u64 (uq (n + 64#64)))
      go_wp2_with (first
        | (refine wpList_load_cells rfl 41 (.tmp 2) rfl w.heap.size 0 rfl (scells l (uq (n + 64#64))) _ r4.cells Tryd.underlying41 rfl (by rw [Tryd.size31, scells_size, Hll.out]) ?_)
        | (refine wpList_store_row rfl 41 (.tmp 4) (.tmp 29) rfl (w.heap.size + 1 + 1) (scells l (uq (n + 64#64))) rfl rfl 41 (scells (List.replicate 8 0#32) 0) r5 (by rw [Tryd.size31, scells_size, Hll.out]) (by rw [scells_size, scells_size, Hll.out]; rfl) (scells_one _ _) ?_))
      exact bodyPost_ret (v := .agg (scells l (uq (n + 64#64)))) (results_cell_row Tryd.results22 _ _ (w.heap.size + 1 + 1) 41 (scells l (uq (n + 64#64))) (0, 0) _ rfl (r5.setRow _) Tryd.underlying41 rfl (by rw [Tryd.size31, scells_size, Hll.out])) rfl ⟨rfl, below_setRow (hb.setCell (p := ⟨w.heap.size, 8, none⟩) (Nat.le_refl _) _) (Nat.le_add_right_of_le (Nat.le_add_right _ _)) _⟩
theorem block_any (h0 ks hs : List Wd) (n : Qd) (bs : List Int) (w : World) (hh : hs.length = 8) (hl : bs.length = 64) (hx : IsBytes bs) (ht : Tab w h0 ks) (hks : ks.length = 64) :
    Calls Tryd.prog 22 #[.agg (scells hs (uq n)), .agg (bcells bs)] w fun e w' => e = .returned (.agg (scells (blockW ks hs bs) (uq (n + 64#64)))) ∧ Below w.heap.size w w' :=
  block_gen h0 ks hs (blockW ks hs bs) _ _ n bs w hh hl hx ht hks rfl (spreadW_length bs) rfl (St.toL_length _) (blockW_length ks hs bs hh) (fun i hi => blockW_getD ks hs bs hh i hi)
end Go.Proofs.YtbhcikahemhfmaaDoor.Sha3

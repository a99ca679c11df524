/- mix: the 64 steps over the words of a state; Block goes on by 64 bytes: the document's state, for any state and any block. -/
import Derived.Test.YtfjkejdnbegomaaDoorMd5Step
namespace Go.Proofs.YtfjkejdnbegomaaDoor.Md5
open Go.RowKit

/-- The words of a state stand in four slots; k steps are done. -/
def MixAt (w : World) (ks xs : List Wd) (s0 : St) (a b c d i : Value) (wr : World) : Prop :=
  ∃ k : Nat, ∃ s : St, k ≤ 64 ∧ i = .int .i64 k ∧ mixS ks xs s0 k = s ∧ a = .int .u32 (uv s.a) ∧ b = .int .u32 (uv s.b) ∧ c = .int .u32 (uv s.c) ∧ d = .int .u32 (uv s.d) ∧
    Row wr (w.heap.size + 1) 43 (wcells xs) ∧ Row wr (w.heap.size + 1 + 1) 28 (wcells (List.replicate 4 0#32)) ∧ Below w.heap.size w wr
theorem quo_of (i a n : Nat) (h : i / n = a) : (i : Int) / (n : Int) = (a : Int) ∧ (i : Int).tdiv (n : Int) = (a : Int) := by
  subst h
  rw [Int.tdiv_eq_ediv_of_nonneg (by omega)]
  exact ⟨by simp, by simp⟩
theorem rem_of (i a n : Nat) (h : i % n = a) : (i : Int) % (n : Int) = (a : Int) ∧ (i : Int).tmod (n : Int) = (a : Int) := by
  subst h
  rw [Int.tmod_eq_emod_of_nonneg (by omega)]
  exact ⟨by simp, by simp⟩
set_option maxRecDepth 100000 in
set_option maxHeartbeats 1000000 in
theorem mix_gen (h0 ks hs xs : List Wd) (r : St) (w : World) (hh : hs.length = 4) (hw : xs.length = 16) (ht : Tab w h0 ks) (hks : ks.length = 64) (s0 : St) (hs0 : St.ofL hs = s0) (hr : mixS ks xs s0 64 = r) :
    Calls Tryd.prog 16 #[.agg (wcells hs), .agg (wcells xs)] w fun e w' => e = .returned (.agg (wcells r.toL)) ∧ Below w.heap.size w w' := by
  have Hh := Lib.hid hh
  have Hw := Lib.hid hw
  have Hk := Lib.hid (fun (k : Nat) (hk : k < 64) => ht.key hks k hk)
  have Hg := Lib.hid ht.1
  have Htn := Lib.hid ht.2.2.2
  have HR := Lib.hid hr
  have HS := Lib.hid hs0
  clear hh hw ht hks hr hs0
  go_enter Tryd.func16, Tryd.ntmps16
  go_wp2_with fail
  obtain ⟨r1, r2, r3, hb⟩ := rows3 w (wcells hs) (wcells xs) (wcells (List.replicate 4 0#32)) 28 43 28
  rw [show #[Value.int IntKind.u32 0, Value.int IntKind.u32 0, Value.int IntKind.u32 0, Value.int IntKind.u32 0] = wcells (List.replicate 4 0#32) from rfl]
  generalize ((w.alloc (.cells (wcells hs) 28)).alloc (.cells (wcells xs) 43)).alloc (.cells (wcells (List.replicate 4 0#32)) 28) = w0 at *
  have c0 : w0.cell? ⟨w.heap.size, 0, none⟩ = some (.int .u32 (uv s0.a)) := by rw [← HS.out]; exact r1.cell (wcells_at hs 0 (by rw [Hh.out]; omega))
  have c1 : w0.cell? ⟨w.heap.size, 1, none⟩ = some (.int .u32 (uv s0.b)) := by rw [← HS.out]; exact r1.cell (wcells_at hs 1 (by rw [Hh.out]; omega))
  have c2 : w0.cell? ⟨w.heap.size, 2, none⟩ = some (.int .u32 (uv s0.c)) := by rw [← HS.out]; exact r1.cell (wcells_at hs 2 (by rw [Hh.out]; omega))
  have c3 : w0.cell? ⟨w.heap.size, 3, none⟩ = some (.int .u32 (uv s0.d)) := by rw [← HS.out]; exact r1.cell (wcells_at hs 3 (by rw [Hh.out]; omega))
  go_quiet (fail)
  go_wp2_with fail
  clear c0 c1 c2 c3
  go_loopw [5, 6, 7, 8, 20] (fun a b c d i wr => MixAt w ks xs s0 a b c d i wr) (fun _ _ _ _ i _ => 64 - (intOf i).toNat)
  case atStart => exact ⟨0, s0, Nat.zero_le _, rfl, rfl, rfl, rfl, rfl, rfl, r2.drewN _, r3.drewN _, below_drewN hb _⟩
  case round =>
    clear r1 r2 r3 hb
    obtain ⟨k, s, hk, rfl, hs, rfl, rfl, rfl, rfl, r2, r3, hb⟩ := hrel
    have HS1 := Lib.hid hs
    clear hs
    by_cases hlt : k < 64
    · have HW := Lib.hid (show mixS ks xs s0 (k + 1) = stepS k s (ks.getD k 0#32) (xs.getD (kI k % 16) 0#32) by rw [← HS1.out]; rfl)
      obtain ⟨a, b, c, d⟩ := s
      have gk64 : (k : Int) < 64 := by omega
      go_wp2_with fail
      refine (step_any k b c d _ hlt).mono ?_
      rintro e1 w1 ⟨rfl, rfl⟩
      obtain ⟨m, hm⟩ : ∃ m, kI k = m := ⟨_, rfl⟩
      have hm2 : m < 448 := by rw [← hm]; exact kI_lt k hlt
      obtain ⟨j, hj⟩ : ∃ j, m % 16 = j := ⟨_, rfl⟩
      obtain ⟨qa, hqa⟩ : ∃ q, k / 16 = q := ⟨_, rfl⟩
      obtain ⟨qb, hqb⟩ : ∃ q, k % 4 = q := ⟨_, rfl⟩
      have m1 : (m : Int) % 16 = (j : Int) := (rem_of m j 16 hj).1
      have m2 : (m : Int).tmod 16 = (j : Int) := (rem_of m j 16 hj).2
      have m3 : (k : Int) % 4 = (qb : Int) := (rem_of k qb 4 hqb).1
      have m4 : (k : Int).tmod 4 = (qb : Int) := (rem_of k qb 4 hqb).2
      have m5 : (k : Int) / 16 = (qa : Int) := (quo_of k qa 16 hqa).1
      have m6 : (k : Int).tdiv 16 = (qa : Int) := (quo_of k qa 16 hqa).2
      have ck : wr.cell? ⟨1, k, none⟩ = _ := (hb.cell (p := ⟨1, k, none⟩) (by show 1 < _; have := Hg.out; omega)).trans (Hk.out k hlt)
      have cx := r2.cell (wcells_at xs j (by rw [Hw.out]; omega))
      have ct : wr.cell? ⟨2, qa * 4 + qb, none⟩ = _ := (hb.cell (p := ⟨2, qa * 4 + qb, none⟩) Hg.out).trans (Htn.out (qa * 4 + qb) (by omega))
      have HW2 := Lib.hid (show stepS k ⟨a, b, c, d⟩ (ks.getD k 0#32) (xs.getD (kI k % 16) 0#32) = ⟨d, b + rolW (((a + fW k b c d) + xs.getD j 0#32) + ks.getD k 0#32) (turnN (qa * 4 + qb)), b, c⟩ by unfold stepS; rw [hm, hj, hqa, hqb])
      have g1 : (j : Int) < 16 := by omega
      have g2 : (qa : Int) < 4 := by omega
      have g3 : (qb : Int) < 4 := by omega
      obtain ⟨t0, t1⟩ := turn_lo (qa * 4 + qb)
      rw [hm]
      clear hm hj hqa hqb
      rw [HW2.out] at HW
      clear HW2
      generalize ks.getD k 0#32 = kk at *
      generalize xs.getD j 0#32 = xk at *
      generalize turnN (qa * 4 + qb) = tn at *
      generalize fW k b c d = f at *
      have a1 := add_uv a f
      have a2 := add_uv (a + f) xk
      have a3 := add_uv ((a + f) + xk) kk
      have a4 := add_uv b (rolW (((a + f) + xk) + kk) tn)
      go_wp2_with fail
      go_quiet ((go_at_call 23; refine Calls.quiet_of (rol_int _ _ _ (by omega) (by omega))))
      go_wp2_with fail
      refine ⟨⟨k + 1, _, by omega, by go_num, HW.out, rfl, rfl, rfl, rfl, r2.drewN _, r3.drewN _, below_drewN hb _⟩, ?_⟩
      simp [intOf]; omega
    · obtain rfl : k = 64 := by omega
      rw [show ((64 : Nat) : Int) = (64 : Int) from rfl]
      have HE := Lib.hid (show s = r from HS1.out.symm.trans HR.out)
      clear HR HS1
      go_wp2_with (refine wpList_store_row rfl 28 (.tmp 4) (.tmp 61) rfl (w.heap.size + 1 + 1) (wcells s.toL) rfl rfl 28 (wcells (List.replicate 4 0#32)) r3 Tryd.size28 rfl (wcells_one _) ?_)
      exact bodyPost_ret (v := .agg (wcells r.toL)) (results_cell_row Tryd.results16 _ _ (w.heap.size + 1 + 1) 28 (wcells r.toL) (0, 0) _ rfl (by rw [← HE.out]; exact r3.setRow (wcells s.toL)) Tryd.underlying28 rfl Tryd.size28) rfl ⟨rfl, below_setRow hb (Nat.le_add_right_of_le (Nat.le_add_right _ _)) _⟩
/-- At a round's head: k words are added. -/
def BlAt (w : World) (l hs : List Wd) (n : Qd) (i : Value) (wr : World) : Prop :=
  ∃ k : Nat, k ≤ 4 ∧ i = .int .i64 k ∧ Row wr w.heap.size 31 (scells (over l hs k) (uq n)) ∧ Row wr (w.heap.size + 1 + 1) 31 (scells (List.replicate 4 0#32) 0) ∧ Below w.heap.size w wr

set_option maxRecDepth 100000 in
set_option maxHeartbeats 1000000 in
theorem block_gen (h0 ks hs l ms ws : List Wd) (n : Qd) (bs : List Int) (w : World) (hh : hs.length = 4) (hl : bs.length = 64) (hx : IsBytes bs) (ht : Tab w h0 ks) (hks : ks.length = 64)
    (hws : readW bs = ws) (hwl : ws.length = 16) (hms : (mixS ks ws (St.ofL hs) 64).toL = ms) (hml : ms.length = 4) (hll : l.length = 4) (hadd : ∀ i, i < 4 → l.getD i 0#32 = hs.getD i 0#32 + ms.getD i 0#32) :
    Calls Tryd.prog 10 #[.agg (scells hs (uq n)), .agg (bcells bs)] w fun e w' => e = .returned (.agg (scells l (uq (n + 64#64)))) ∧ Below w.heap.size w w' := by
  have Hh := Lib.hid hh
  have Hl := Lib.hid hl
  have Hks := Lib.hid hks
  have Hws := Lib.hid hws
  have Hwl := Lib.hid hwl
  have Hms := Lib.hid hms
  have Hml := Lib.hid hml
  have Hll := Lib.hid hll
  have Ha := Lib.hid hadd
  clear hh hl hks hws hwl hms hml hll hadd
  go_enter Tryd.func10, Tryd.ntmps10
  go_wp2_with fail
  obtain ⟨r1, r2, r3, hb⟩ := rows3 w (scells hs (uq n)) (bcells bs) (scells (List.replicate 4 0#32) 0) 31 32 31
  rw [show #[Value.int IntKind.u32 0, Value.int IntKind.u32 0, Value.int IntKind.u32 0, Value.int IntKind.u32 0, Value.int IntKind.u64 0] = scells (List.replicate 4 0#32) 0 from rfl]
  generalize ((w.alloc (.cells (scells hs (uq n)) 31)).alloc (.cells (bcells bs) 32)).alloc (.cells (scells (List.replicate 4 0#32) 0) 31) = w0 at *
  refine wp_region_segs [([0, 5, 1, 2], 3), ([], 4)] [] (by kernel_rfl) (by kernel_rfl) (by kernel_rfl) (by kernel_rfl) (fun _ _ d _ _ h => by cases d <;> exact h) ?_
  refine wpSegs_next (by simp [pickOps]; rfl) ?_
  repeat (go_big_quiet_step (fail))
  refine wpQuiet_load_cells rfl 28 (.tmp 7) rfl w.heap.size 0 rfl (wcells hs) _ (scells_cells r1.drew) r1.lt Tryd.underlying28 rfl (by rw [Tryd.size28, wcells_size, Hh.out]) ?_
  refine wpQuiet_load_cells rfl 32 (.tmp 3) rfl (w.heap.size + 1) 0 rfl (bcells bs) _ r2.drew.cells r2.lt Tryd.underlying32 rfl (by rw [Tryd.size32, bcells_size, Hl.out]) ?_
  refine wpQuiet_nil ?_
  refine wpOp_alone rfl rfl (fun K hK => ?_)
  go_simp
  refine (read_any bs _ Hl.out hx).mono ?_
  rintro e w1 ⟨rfl, hb1⟩
  refine hK _ _ ⟨hb1, ?_⟩
  clear hK K
  rw [Hws.out]
  refine wpSegs_next (by simp [pickOps]; rfl) ?_
  refine wpQuiet_nil ?_
  refine wpOp_alone rfl rfl (fun K hK => ?_)
  go_simp
  have hb2 : Below w.heap.size w w1 := hb.drew.trans (hb1.mono hb.size)
  refine (mix_gen h0 ks hs ws _ _ Hh.out Hwl.out (ht.keep hb2) Hks.out _ rfl rfl).mono ?_
  rintro e w2 ⟨rfl, hb3⟩
  refine hK _ _ ⟨hb3, ?_⟩
  clear hK K
  rw [Hms.out]
  have hb4 : Below w.heap.size w w2 := hb2.trans (hb3.mono hb2.size)
  have q1 : Row w2 w.heap.size 31 (scells hs (uq n)) := (r1.drew.keep hb1).keep hb3
  have q3 : Row w2 (w.heap.size + 1 + 1) 31 (scells (List.replicate 4 0#32) 0) := (r3.drew.keep hb1).keep hb3
  clear r1 r2 r3 hb hb1 hb2 hb3
  refine wpSegs_last (by simp [pickOps]; rfl) ?_
  refine wpQuiet_nil ?_
  go_wp2_with fail
  go_loopw [12] (fun i wr => BlAt w l hs n i wr) (fun i _ => 4 - (intOf i).toNat)
  case atStart => exact ⟨0, Nat.zero_le _, rfl, by rw [over_none]; exact q1, q3, hb4⟩
  case round =>
    clear q1 q3 hb4
    obtain ⟨k, hk, rfl, r1, r3, hb⟩ := hrel
    by_cases hlt : k < 4
    · have ik := fun w' => run_index_array (P := Tryd.prog) w' 28 27 4 _ (wcells ms) k _ Tryd.underlying28 Tryd.underlying27 rfl Tryd.one27 hlt (wcells_at ms k (by rw [Hml.out]; omega))
      have ck := r1.cell (scells_at (over l hs k) (uq n) k (by rw [over_length l hs k (by rw [Hh.out, Hll.out]), Hll.out]; omega))
      rw [over_getD l hs 0#32 k (by rw [Hll.out]; omega)] at ck
      have fk := r1.free k
      have HA := Lib.hid (Ha.out k hlt)
      generalize ms.getD k 0#32 = m at *
      generalize hs.getD k 0#32 = h at *
      have hm := add_mod h m
      have gk : (k : Int) < 4 := by omega
      go_wp2_with fail
      refine ⟨⟨k + 1, by omega, by go_num, ?_, r3.other (by omega) _ _, hb.setCell (p := ⟨w.heap.size, k, none⟩) (Nat.le_refl _) _⟩, ?_⟩
      · rw [← HA.out, ← over_set l hs 0#32 k (by rw [Hh.out, Hll.out]) (by rw [Hll.out]; omega), ← scells_set _ _ _ _ (by rw [over_length l hs k (by rw [Hh.out, Hll.out]), Hll.out]; omega)]
        exact r1.set k _
      · simp [intOf]; omega
    · obtain rfl : k = 4 := by omega
      rw [show ((4 : Nat) : Int) = (4 : Int) from rfl]
      rw [over_all l hs 4 (by rw [Hh.out, Hll.out]) (by rw [Hll.out]; omega)] at r1
      have cb := r1.cell (scells_last l (uq n) 4 Hll.out)
      have fb := r1.free 4
      have hq := uq_add64 n
      have r4 : Row (wr.setCell ⟨w.heap.size, 4, none⟩ (.int .u64 (uq (n + 64#64)))) w.heap.size 31 (scells l (uq (n + 64#64))) := by rw [← scells_setLast l (uq n) _ 4 Hll.out]; exact r1.set 4 _
      have r5 := r3.other (b := w.heap.size) (by omega) 4 (.int .u64 (uq (n + 64#64)))
      go_wp2_with (first
        | (refine wpList_load_cells rfl 31 (.tmp 2) rfl w.heap.size 0 rfl (scells l (uq (n + 64#64))) _ r4.cells Tryd.underlying31 rfl (by rw [Tryd.size31, scells_size, Hll.out]) ?_)
        | (refine wpList_store_row rfl 31 (.tmp 4) (.tmp 29) rfl (w.heap.size + 1 + 1) (scells l (uq (n + 64#64))) rfl rfl 31 (scells (List.replicate 4 0#32) 0) r5 (by rw [Tryd.size31, scells_size, Hll.out]) (by rw [scells_size, scells_size, Hll.out]; rfl) (scells_one _ _) ?_))
      exact bodyPost_ret (v := .agg (scells l (uq (n + 64#64)))) (results_cell_row Tryd.results10 _ _ (w.heap.size + 1 + 1) 31 (scells l (uq (n + 64#64))) (0, 0) _ rfl (r5.setRow _) Tryd.underlying31 rfl (by rw [Tryd.size31, scells_size, Hll.out])) rfl ⟨rfl, below_setRow (hb.setCell (p := ⟨w.heap.size, 4, none⟩) (Nat.le_refl _) _) (Nat.le_add_right_of_le (Nat.le_add_right _ _)) _⟩
theorem block_any (h0 ks hs : List Wd) (n : Qd) (bs : List Int) (w : World) (hh : hs.length = 4) (hl : bs.length = 64) (hx : IsBytes bs) (ht : Tab w h0 ks) (hks : ks.length = 64) :
    Calls Tryd.prog 10 #[.agg (scells hs (uq n)), .agg (bcells bs)] w fun e w' => e = .returned (.agg (scells (blockW ks hs bs) (uq (n + 64#64)))) ∧ Below w.heap.size w w' :=
  block_gen h0 ks hs (blockW ks hs bs) _ _ n bs w hh hl hx ht hks rfl (readW_length bs) rfl (St.toL_length _) (blockW_length ks hs bs hh) (fun i hi => blockW_getD ks hs bs hh i hi)
end Go.Proofs.YtfjkejdnbegomaaDoor.Md5

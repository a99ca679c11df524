/- The document's constants and its first state are the program's tables. -/
import Derived.Test.YtiddimfkcejfnaaDoorShaPrimes
namespace Go.Proofs.YtiddimfkcejfnaaDoor.Sha3
open Go.RowKit

theorem power_tells (p : Int) (cube : Bool) : PowerTells p cube := fun m w h0 h1 => by
  cases cube
  · exact power_sq m p w h0 h1
  · exact power_cu m p w h0 h1
/-- The row of the call's own, as a block. -/
theorem OwnQ.row {w : World} {A : Option Addr} {xs : List Int} {B c : Nat} (h : OwnQ w B A c xs) (hn : 0 < xs.length) : ∃ g cur, A = some ⟨g, 0, none⟩ ∧ B ≤ g ∧ Row w g 41 cur ∧ ∀ i, i < xs.length → cur[i]? = some (.int .u64 (xs.getD i 0)) := by
  rcases h.2 with ⟨hv, h0⟩ | ⟨g, cap, cur, hv, hB, hg, _, _, _, htake⟩
  · exact absurd h0 (by omega)
  · injection hv with h1 h2 h3
    refine ⟨g, cur, h1, hB, hg, fun i hi => ?_⟩
    have := cellsOf_at .u64 xs i hi
    rw [← htake, List.getElem?_take, if_pos (by omega)] at this
    simpa using this
theorem roots_at (ps : List Int) (ks : List Wd) (f : Int → Int) (h : ps.map f = ks.map fun x => (x.toNat : Int)) (k : Nat) (hk : k < ps.length) (hk2 : k < ks.length) : f (ps.getD k 0) = uv (ks.getD k 0#32) := by
  have h2 := congrArg (fun l : List Int => l.getD k 0) h
  simpa [List.getD_eq_getElem?_getD, List.getElem?_eq_getElem hk, List.getElem?_eq_getElem hk2, uv] using h2
def KyAt (w : World) (ks : List Wd) (g : Nat) (cur : Array Value) (i : Value) (wr : World) : Prop :=
  ∃ k : Nat, k ≤ 64 ∧ i = .int .i64 k ∧ Row wr w.heap.size 56 (wcells (List.replicate 64 0#32)) ∧ Row wr (w.heap.size + 1) 56 (wcells (partly ks 0#32 k)) ∧ Row wr g 41 cur ∧ Below w.heap.size w wr
set_option maxRecDepth 100000 in
set_option maxHeartbeats 2000000 in
theorem keys_gen (ks : List Wd) (ps : List Int) (w : World) (hks : ks.length = 64) (hps : ps.length = 64) (hpr : primesL.take 64 = ps) (hr : ∀ k, k < 64 → rootV (ps.getD k 0) true = uv (ks.getD k 0#32)) :
    Calls Tryd.prog 30 #[] w fun e w' => e = .returned (.agg (wcells ks)) ∧ Below w.heap.size w w' := by
  have Hks := Lib.hid hks
  have Hps := Lib.hid hps
  have Hpr := Lib.hid hpr
  have Hr := Lib.hid hr
  obtain ⟨r1, r2, hb⟩ := rows2 w (wcells (List.replicate 64 0#32)) (wcells (List.replicate 64 0#32)) 56 56
  clear hks hps hpr hr
  go_enter Tryd.func30, Tryd.ntmps30
  go_wp2_with (refine wpList_store_row rfl 56 (.tmp 1) (.tmp 4) rfl (w.heap.size + 1) (wcells (List.replicate 64 0#32)) rfl rfl 56 (wcells (List.replicate 64 0#32)) r2 (by rw [Tryd.size33, wcells_size, List.length_replicate]) rfl (wcells_one _) ?_; have p2 := r2.setRow (wcells (List.replicate 64 0#32)); have p1 := r1.otherRow (b := w.heap.size + 1) (by omega) (wcells (List.replicate 64 0#32)); have pb := below_setRow hb (b := w.heap.size + 1) (by omega) (wcells (List.replicate 64 0#32)); clear r1 r2 hb)
  refine (primes_any 64 64 rfl (Nat.le_refl _) _).mono ?_
  rintro e w1 ⟨A, c, rfl, hown, hb1⟩
  rw [Hpr.out] at hown ⊢
  obtain ⟨g, cur, rfl, hg, rg, hcur⟩ := OwnQ.row hown (by rw [Hps.out]; omega)
  have hg2 : w.heap.size + 1 + 1 ≤ g := by rw [setRow_size] at hg; simpa using hg
  have q1 := p1.keep hb1
  have q2 := p2.keep hb1
  have qb := pb.trans (hb1.mono pb.size)
  have Hcur := Lib.hid hcur
  rw [Hps.out]
  clear hown hg hcur p1 p2 pb hb1
  go_wp2_with fail
  go_loopw [3] (fun i wr => KyAt w ks g cur i wr) (fun i _ => 64 - (intOf i).toNat)
  case atStart => exact ⟨0, Nat.zero_le _, rfl, q1, by rw [partly_none, Hks.out]; exact q2, rg, qb⟩
  case round =>
    clear q1 q2 rg qb
    obtain ⟨k, hk, rfl, r1, r2, rg, hb⟩ := hrel
    by_cases hlt : k < 64
    · have HR := Lib.hid (Hr.out k hlt)
      have cg := rg.cell (Hcur.out k (by rw [Hps.out]; exact hlt))
      generalize ps.getD k 0 = q at *
      have gk : (k : Int) < 64 := by omega
      go_wp2_with fail
      refine (root_any q true _ (power_tells q true)).mono ?_
      rintro e w5 ⟨rfl, hb5⟩
      rw [HR.out]
      have p1 := r1.keep hb5
      have p2 := r2.keep hb5
      have pg := rg.keep hb5
      have pb := hb.trans (hb5.mono hb.size)
      have c2 := row_there (j := k) p2 (by rw [Hks.out]; exact hlt)
      have f2 := p2.free k
      clear r1 r2 rg hb hb5 cg
      go_wp2_with fail
      refine ⟨⟨k + 1, by omega, by go_num, p1.other (by omega) _ _, row_next p2 (by rw [Hks.out]; exact hlt) rfl, pg.other (by omega) _ _, pb.setCell (p := ⟨w.heap.size + 1, k, none⟩) (Nat.le_add_right _ _) _⟩, ?_⟩
      simp [intOf]; omega
    · obtain rfl : k = 64 := by omega
      rw [show ((64 : Nat) : Int) = (64 : Int) from rfl]
      rw [partly_all ks _ _ (by rw [Hks.out]; omega)] at r2
      go_wp2_with (first
        | (refine wpList_load_cells rfl 56 (.tmp 1) rfl (w.heap.size + 1) 0 rfl (wcells ks) _ r2.cells Tryd.underlying56 rfl (by rw [Tryd.size33, wcells_size, Hks.out]) ?_)
        | (refine wpList_store_row rfl 56 (.tmp 0) (.tmp 17) rfl w.heap.size (wcells ks) rfl rfl 56 (wcells (List.replicate 64 0#32)) r1 (by rw [Tryd.size33, wcells_size, Hks.out]) (by rw [wcells_size, wcells_size, Hks.out, List.length_replicate]) (wcells_one _) ?_))
      refine bodyPost_ret (v := .agg (wcells ks)) ?_ rfl ?_
      · exact results_cell_row Tryd.results30 _ _ w.heap.size 56 (wcells ks) (0, 0) _ rfl (r1.setRow _) Tryd.underlying56 rfl (by rw [Tryd.size33, wcells_size, Hks.out])
      · exact ⟨rfl, below_setRow hb (Nat.le_refl _) _⟩
theorem keys_any (w : World) : Calls Tryd.prog 30 #[] w fun e w' => e = .returned (.agg (wcells kW)) ∧ Below w.heap.size w w' :=
  keys_gen kW primesL w rfl rfl rfl (fun k hk => roots_at primesL kW (fun p => rootV p true) cubes_are k hk hk)
def BeAt (w : World) (hs : List Wd) (g : Nat) (cur : Array Value) (i : Value) (wr : World) : Prop :=
  ∃ k : Nat, k ≤ 8 ∧ i = .int .i64 k ∧ Row wr w.heap.size 58 (scells (List.replicate 8 0#32) 0) ∧ Row wr (w.heap.size + 1) 58 (scells (partly hs 0#32 k) 0) ∧ Row wr g 41 cur ∧ Below w.heap.size w wr
theorem row_nexts {w : World} {g t k : Nat} {l : List Wd} {x : Wd} (h : Row w g t (scells (partly l 0#32 k) 0)) (hk : k < l.length) (hx : l.getD k 0#32 = x) : Row (w.setCell ⟨g, k, none⟩ (.int .u32 (uv x))) g t (scells (partly l 0#32 (k + 1)) 0) := by
  subst hx
  rw [← partly_set l 0#32 0#32 k hk, ← scells_set _ _ _ _ (by rw [partly_length]; exact hk)]
  exact h.set k _
set_option maxRecDepth 100000 in
set_option maxHeartbeats 2000000 in
theorem rbegin_gen (hs : List Wd) (ps : List Int) (w : World) (hks : hs.length = 8) (hps : ps.length = 8) (hpr : primesL.take 8 = ps) (hr : ∀ k, k < 8 → rootV (ps.getD k 0) false = uv (hs.getD k 0#32)) :
    Calls Tryd.prog 31 #[] w fun e w' => e = .returned (.agg (scells hs 0)) ∧ Below w.heap.size w w' := by
  have Hks := Lib.hid hks
  have Hps := Lib.hid hps
  have Hpr := Lib.hid hpr
  have Hr := Lib.hid hr
  obtain ⟨r1, r2, hb⟩ := rows2 w (scells (List.replicate 8 0#32) 0) (scells (List.replicate 8 0#32) 0) 58 58
  clear hks hps hpr hr
  go_enter Tryd.func31, Tryd.ntmps31
  go_wp2_with (refine wpList_store_row rfl 58 (.tmp 1) (.tmp 4) rfl (w.heap.size + 1) (scells (List.replicate 8 0#32) 0) rfl rfl 58 (scells (List.replicate 8 0#32) 0) r2 (by rw [Tryd.size35, scells_size, List.length_replicate]) rfl (scells_one _ _) ?_; have p2 := r2.setRow (scells (List.replicate 8 0#32) 0); have p1 := r1.otherRow (b := w.heap.size + 1) (by omega) (scells (List.replicate 8 0#32) 0); have pb := below_setRow hb (b := w.heap.size + 1) (by omega) (scells (List.replicate 8 0#32) 0); clear r1 r2 hb)
  refine (primes_any 8 8 rfl (by omega) _).mono ?_
  rintro e w1 ⟨A, c, rfl, hown, hb1⟩
  rw [Hpr.out] at hown ⊢
  obtain ⟨g, cur, rfl, hg, rg, hcur⟩ := OwnQ.row hown (by rw [Hps.out]; omega)
  have hg2 : w.heap.size + 1 + 1 ≤ g := by rw [setRow_size] at hg; simpa using hg
  have q1 := p1.keep hb1
  have q2 := p2.keep hb1
  have qb := pb.trans (hb1.mono pb.size)
  have Hcur := Lib.hid hcur
  rw [Hps.out]
  clear hown hg hcur p1 p2 pb hb1
  go_wp2_with fail
  go_loopw [3] (fun i wr => BeAt w hs g cur i wr) (fun i _ => 8 - (intOf i).toNat)
  case atStart => exact ⟨0, Nat.zero_le _, rfl, q1, by rw [partly_none, Hks.out]; exact q2, rg, qb⟩
  case round =>
    clear q1 q2 rg qb
    obtain ⟨k, hk, rfl, r1, r2, rg, hb⟩ := hrel
    by_cases hlt : k < 8
    · have HR := Lib.hid (Hr.out k hlt)
      have cg := rg.cell (Hcur.out k (by rw [Hps.out]; exact hlt))
      generalize ps.getD k 0 = q at *
      have gk : (k : Int) < 8 := by omega
      go_wp2_with fail
      refine (root_any q false _ (power_tells q false)).mono ?_
      rintro e w5 ⟨rfl, hb5⟩
      rw [HR.out]
      have p1 := r1.keep hb5
      have p2 := r2.keep hb5
      have pg := rg.keep hb5
      have pb := hb.trans (hb5.mono hb.size)
      have c2 := p2.cell (scells_at (partly hs 0#32 k) 0 k (by rw [partly_length, Hks.out]; exact hlt))
      have f2 := p2.free k
      clear r1 r2 rg hb hb5 cg
      go_wp2_with fail
      refine ⟨⟨k + 1, by omega, by go_num, p1.other (by omega) _ _, row_nexts p2 (by rw [Hks.out]; exact hlt) rfl, pg.other (by omega) _ _, pb.setCell (p := ⟨w.heap.size + 1, k, none⟩) (Nat.le_add_right _ _) _⟩, ?_⟩
      simp [intOf]; omega
    · obtain rfl : k = 8 := by omega
      rw [show ((8 : Nat) : Int) = (8 : Int) from rfl]
      rw [partly_all hs _ _ (by rw [Hks.out]; omega)] at r2
      go_wp2_with (first
        | (refine wpList_load_cells rfl 58 (.tmp 1) rfl (w.heap.size + 1) 0 rfl (scells hs 0) _ r2.cells Tryd.underlying58 rfl (by rw [Tryd.size35, scells_size, Hks.out]) ?_)
        | (refine wpList_store_row rfl 58 (.tmp 0) (.tmp 18) rfl w.heap.size (scells hs 0) rfl rfl 58 (scells (List.replicate 8 0#32) 0) r1 (by rw [Tryd.size35, scells_size, Hks.out]) (by rw [scells_size, scells_size, Hks.out, List.length_replicate]) (scells_one _ _) ?_))
      refine bodyPost_ret (v := .agg (scells hs 0)) ?_ rfl ?_
      · exact results_cell_row Tryd.results31 _ _ w.heap.size 58 (scells hs 0) (0, 0) _ rfl (r1.setRow _) Tryd.underlying58 rfl (by rw [Tryd.size35, scells_size, Hks.out])
      · exact ⟨rfl, below_setRow hb (Nat.le_refl _) _⟩
theorem rbegin_any (w : World) : Calls Tryd.prog 31 #[] w fun e w' => e = .returned (.agg (scells h0W 0)) ∧ Below w.heap.size w w' :=
  rbegin_gen h0W (primesL.take 8) w rfl rfl rfl (fun k hk => roots_at (primesL.take 8) h0W (fun p => rootV p false) squares_are k hk hk)
end Go.Proofs.YtiddimfkcejfnaaDoor.Sha3

/- laid answers words as bytes, the highest of each first; Begin tells the first state. -/
import Derived.Test.YtbhcikahemhfmaaDoorShaSpread
import Derived.Test.YtbhcikahemhfmaaDoorShaArr
namespace Go.Proofs.YtbhcikahemhfmaaDoor.Sha3
open Go.RowKit

def LaAt (w : World) (l : List Int) (i : Value) (wr : World) : Prop :=
  ∃ k : Nat, k ≤ 8 ∧ i = .int .i64 k ∧ Row wr (w.heap.size + 1) 23 (bcells (List.replicate 32 0)) ∧ Row wr (w.heap.size + 1 + 1) 23 (bcells (partly l 0 (4 * k))) ∧ Below w.heap.size w wr
theorem brow_next {w : World} {g t k : Nat} {l : List Int} {x : Int} (h : Row w g t (bcells (partly l 0 k))) (hk : k < l.length) (hx : l.getD k 0 = x) : Row (w.setCell ⟨g, k, none⟩ (.int .u8 x)) g t (bcells (partly l 0 (k + 1))) := by
  subst hx
  rw [← partly_set l 0 0 k hk, ← bcells_set]
  exact h.set k _
theorem brow_there {w : World} {g t k j : Nat} {l : List Int} (h : Row w g t (bcells (partly l 0 k))) (hj : j < l.length) : w.cell? ⟨g, j, none⟩ = some (.int .u8 ((partly l 0 k).getD j 0)) :=
  h.cell (bcells_at _ j (by rw [partly_length]; exact hj))

set_option maxRecDepth 100000 in
set_option maxHeartbeats 1000000 in
theorem laid_gen (hs : List Wd) (l : List Int) (w : World) (hh : hs.length = 8) (hll : l.length = 32)
    (hb : ∀ k, k < 8 → l.getD (4 * k) 0 = uv (hs.getD k 0#32) / 16777216 % 256 ∧ l.getD (4 * k + 1) 0 = uv (hs.getD k 0#32) / 65536 % 256 ∧ l.getD (4 * k + 2) 0 = uv (hs.getD k 0#32) / 256 % 256 ∧ l.getD (4 * k + 3) 0 = uv (hs.getD k 0#32) % 256) :
    Calls Tryd.prog 31 #[.agg (wcells hs)] w fun e w' => e = .returned (.agg (bcells l)) ∧ Below w.heap.size w w' := by
  have Hh := Lib.hid hh
  have Hll := Lib.hid hll
  have Hb := Lib.hid hb
  clear hh hll hb
  obtain ⟨r1, r2, r3, hb⟩ := rows3 w (wcells hs) (bcells (List.replicate 32 0)) (bcells (List.replicate 32 0)) 38 23 23
  go_enter Tryd.func31, Tryd.ntmps31
  go_wp2_with (refine wpList_load_cells rfl 38 (.tmp 1) rfl w.heap.size 0 rfl (wcells hs) _ r1.cells Tryd.underlying38 rfl (by rw [Tryd.size28, wcells_size, Hh.out]) ?_)
  go_loopw [7] (fun i wr => LaAt w l i wr) (fun i _ => 8 - (intOf i).toNat)
  case atStart => exact ⟨0, Nat.zero_le _, rfl, r2, by rw [Nat.mul_zero, partly_none, Hll.out]; exact r3, hb⟩
  case round =>
    clear r1 r2 r3 hb
    obtain ⟨k, hk, rfl, r2, r3, hb⟩ := hrel
    by_cases hlt : k < 8
    · obtain ⟨j0, e0⟩ : ∃ j : Nat, 4 * k = j := ⟨_, rfl⟩
      have ik := fun w' => run_index_array (P := Tryd.prog) w' 38 37 8 _ (wcells hs) k _ Tryd.underlying38 Tryd.underlying37 rfl Tryd.one27 hlt (wcells_at hs k (by rw [Hh.out]; omega))
      have HB := Lib.hid (Hb.out k hlt)
      rw [e0] at HB r3
      have e4 : 4 * (k + 1) = j0 + 1 + 1 + 1 + 1 := by omega
      have H4 := Lib.hid e4
      have g0 : j0 + 3 < 32 := by omega
      have s0 : 4 * (k : Int) = (j0 : Int) := by omega
      clear e4 e0
      generalize hs.getD k 0#32 = x at *
      have c0 := brow_there (j := j0) r3 (by rw [Hll.out]; omega)
      have c1 := brow_there (j := j0 + 1) r3 (by rw [Hll.out]; omega)
      have c2 := brow_there (j := j0 + 2) r3 (by rw [Hll.out]; omega)
      have c3 := brow_there (j := j0 + 3) r3 (by rw [Hll.out]; omega)
      have f0 := r3.free j0
      have f1 := r3.free (j0 + 1)
      have f2 := r3.free (j0 + 2)
      have f3 := r3.free (j0 + 3)
      go_wp2_with fail
      refine ⟨⟨k + 1, by omega, by go_num, (((r2.other (by omega) _ _).other (by omega) _ _).other (by omega) _ _).other (by omega) _ _, ?_, (((hb.setCell (p := ⟨w.heap.size + 1 + 1, j0, none⟩) (Nat.le_add_right_of_le (Nat.le_add_right _ _)) _).setCell (p := ⟨w.heap.size + 1 + 1, j0 + 1, none⟩) (Nat.le_add_right_of_le (Nat.le_add_right _ _)) _).setCell (p := ⟨w.heap.size + 1 + 1, j0 + 2, none⟩) (Nat.le_add_right_of_le (Nat.le_add_right _ _)) _).setCell (p := ⟨w.heap.size + 1 + 1, j0 + 3, none⟩) (Nat.le_add_right_of_le (Nat.le_add_right _ _)) _⟩, ?_⟩
      · rw [H4.out]
        exact brow_next (brow_next (brow_next (brow_next r3 (by rw [Hll.out]; omega) HB.out.1) (by rw [Hll.out]; omega) HB.out.2.1) (by rw [Hll.out]; omega) HB.out.2.2.1) (by rw [Hll.out]; omega) HB.out.2.2.2
      · simp [intOf]; omega
    · obtain rfl : k = 8 := by omega
      rw [show ((8 : Nat) : Int) = (8 : Int) from rfl]
      rw [partly_all l _ _ (by rw [Hll.out]; omega)] at r3
      go_wp2_with (first
        | (refine wpList_load_cells rfl 23 (.tmp 3) rfl (w.heap.size + 1 + 1) 0 rfl (bcells l) _ r3.cells Tryd.underlying23 rfl (by rw [Tryd.size23, bcells_size, Hll.out]) ?_)
        | (refine wpList_store_row rfl 23 (.tmp 2) (.tmp 38) rfl (w.heap.size + 1) (bcells l) rfl rfl 23 (bcells (List.replicate 32 0)) r2 (by rw [Tryd.size23, bcells_size, Hll.out]) (by rw [bcells_size, bcells_size, Hll.out, List.length_replicate]) (bcells_one l) ?_))
      exact bodyPost_ret (v := .agg (bcells l)) (results_cell_row Tryd.results31 _ _ (w.heap.size + 1) 23 (bcells l) (0, 0) _ rfl (r2.setRow (bcells l)) Tryd.underlying23 rfl (by rw [Tryd.size23, bcells_size, Hll.out])) rfl ⟨rfl, below_setRow hb (Nat.le_add_right _ _) _⟩
theorem byteAt_part (hs : List Wd) (k j m : Nat) (hj : j < 4) (hm : 2 ^ (24 - 8 * j) = m) : byteAt hs (4 * k + j) = uv (hs.getD k 0#32) / (m : Int) % 256 := by
  unfold byteAt
  rw [show (4 * k + j) / 4 = k by omega, show (4 * k + j) % 4 = j by omega, BitVec.toNat_ushiftRight, Nat.shiftRight_eq_div_pow, hm]
  unfold uv
  omega
theorem laid_any (hs : List Wd) (w : World) (hh : hs.length = 8) :
    Calls Tryd.prog 31 #[.agg (wcells hs)] w fun e w' => e = .returned (.agg (bcells (laidW hs))) ∧ Below w.heap.size w w' :=
  laid_gen hs (laidW hs) w hh (laidW_length hs) (fun k hk => ⟨by
    rw [laidW_getD hs _ (by omega)]; exact byteAt_part hs k 0 16777216 (by omega) rfl, by
    rw [laidW_getD hs _ (by omega)]; exact byteAt_part hs k 1 65536 (by omega) rfl, by
    rw [laidW_getD hs _ (by omega)]; exact byteAt_part hs k 2 256 (by omega) rfl, by
    rw [laidW_getD hs _ (by omega)]; have := byteAt_part hs k 3 1 (by omega) rfl; rw [this]; simp⟩)
theorem wpList_build_eq {P : Program} {ops : Array Oper} {rest : List Oper} {o : Oper} {a : Act} {w : World} {Q : Exit → Act → World → Prop} (hg : o.guard = none) (t : TypeId) (parts : Array (Nat × Operand)) (ho : o.op = .build t parts)
    (vs : List (Nat × Value)) (hv : (parts.map fun (i, x) => (i, a.eval x)).toList = vs) (cells : Array Value) (hb : P.built t vs = some cells)
    (h : wpList P ops Q rest (a.put o.dst (.agg cells)) w) : wpList P ops Q (o :: rest) a w :=
  wpList_build hg t parts ho (by rw [hv, hb]; rfl) (by rw [hv, hb]; exact h)
theorem built_state (a b c d e f g h : Wd) : Tryd.prog.built 41 [(0, .agg (wcells [a, b, c, d, e, f, g, h]))] = some (scells [a, b, c, d, e, f, g, h] 0) := by kernel_rfl
set_option maxHeartbeats 1000000 in
theorem begin_any (ks : List Wd) (a b c d e f g h : Wd) (w : World) (ht : Tab w [a, b, c, d, e, f, g, h] ks) :
    Calls Tryd.prog 21 #[] w fun r w' => r = .returned (.agg (scells [a, b, c, d, e, f, g, h] 0)) ∧ Below w.heap.size w w' := by
  have hb : Below w.heap.size w (w.alloc (.cells (scells (List.replicate 8 0#32) 0) 41)) := (Below.refl _ _).alloc (Nat.le_refl _) _
  have r1 := Row.new w 41 (scells (List.replicate 8 0#32) 0)
  have Ht := Lib.hid (ht.keep hb).2.1
  have Hbd := Lib.hid (built_state a b c d e f g h)
  clear ht
  generalize hl : [a, b, c, d, e, f, g, h] = l at *
  have HL := Lib.hid (show l.length = 8 by rw [← hl]; rfl)
  clear hl
  go_enter Tryd.func21, Tryd.ntmps21
  go_wp2_with (first
    | (refine wpList_load_cells rfl 38 (.global 0) rfl 0 0 rfl (wcells l) _ Ht.out Tryd.underlying38 rfl (by rw [Tryd.size28, wcells_size, HL.out]) ?_)
    | (refine wpList_build_eq rfl 41 #[(0, .tmp 1)] rfl [(0, .agg (wcells l))] (by simp; rfl) (scells l 0) Hbd.out ?_)
    | (refine wpList_store_row rfl 41 (.tmp 0) (.tmp 2) rfl w.heap.size (scells l 0) rfl rfl 41 (scells (List.replicate 8 0#32) 0) r1 (by rw [Tryd.size31, scells_size, HL.out]) (by rw [scells_size, scells_size, HL.out]; rfl) (scells_one _ _) ?_))
  refine bodyPost_ret (v := .agg (scells l 0)) ?_ rfl ?_
  · exact results_cell_row Tryd.results21 _ _ w.heap.size 41 (scells l 0) (0, 0) _ rfl (r1.setRow _) Tryd.underlying41 rfl (by rw [Tryd.size31, scells_size, HL.out])
  · exact ⟨rfl, below_setRow hb (Nat.le_refl _) _⟩
end Go.Proofs.YtbhcikahemhfmaaDoor.Sha3

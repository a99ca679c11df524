/- The document's digit. -/
import Derived.Test.YtbhcikahemhfmaaDoorHexNums
namespace Go.Proofs.YtbhcikahemhfmaaDoor
open Go.RowKit

theorem digit_cut : ∀ m : Fin 16, digitsB.extract m.val (m.val + 1) = strOfNums [digI (m.val : Int)] := by decide
theorem run_bound {P : Program} (w : World) (k : IntKind) (n : Int) (j y : Nat) (c : BoundsCode) (hn : n = (j : Int)) (h : j ≤ y) : (Instr.sliceBound (.int k n) y c).run P w = .ok j w := by
  subst hn
  unfold Instr.sliceBound
  have ha : (asIntOf (.int k (j : Int))).run P w = .ok (k, (j : Int)) w := by simp [asIntOf]
  simp only [Sem.run_bind, ha, Result.andThen_ok]
  rw [if_pos (by omega)]
  rfl
theorem run_cut_digit {P : Program} (w : World) (t : TypeId) (k : IntKind) (d e : Int) (hu : P.underlying t = some .string) (h0 : 0 ≤ d) (h1 : d < 16) (he : d + 1 = e) :
    (Instr.sliceAt t (.string digitsB) (some (.int k d)) (some (.int k e)) none).run P w = .ok (.string (strOfNums [digI d])) w := by
  subst he
  obtain ⟨m, rfl⟩ := Int.eq_ofNat_of_zero_le h0
  have hm : m < 16 := by omega
  have hd := digit_cut ⟨m, hm⟩
  have hs : digitsB.size = 16 := rfl
  unfold Instr.sliceAt
  simp only [Sem.run_bind, run_underlying hu w, Result.andThen_ok]
  unfold Instr.slice Instr.sliceBounds
  simp only [Sem.run_bind, run_underlying hu w, hs, Result.andThen_ok, Sem.run_pure, Option.isSome_none, Bool.false_eq_true, if_false, run_bound w k ((m : Int) + 1) (m + 1) 16 _ rfl (by omega), run_bound w k (m : Int) m (m + 1) _ rfl (by omega)]
  rw [hd]
theorem digit_any (d : Int) (w : World) (h0 : 0 ≤ d) (h1 : d < 16) : Calls Tryd.prog 28 #[.int .i64 d] w fun e w' => e = .returned (.string (strOfNums [digI d])) ∧ w' = w := by
  have hc := fun w' => run_cut_digit (P := Tryd.prog) w' 9 .i64 d (d + 1) Tryd.underlying9 h0 h1 rfl
  unfold digitsB at hc
  go_enter Tryd.func28, Tryd.ntmps28
  go_wp2_with fail
  go_ret
  exact ⟨rfl, rfl⟩
end Go.Proofs.YtbhcikahemhfmaaDoor

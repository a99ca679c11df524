/- Is a span right: the program's way and the document's. No conditions but those that stand in each lemma. -/
import Derived.Test.YtnlkljmboifnkaaSpn
import Derived.Test.YtnlkljmboifnkaaSpNums
namespace Go.Proofs.Ytnlkljmboifnkaa
open Go.RowKit

theorem rightB_of {a b : Int} (t : Bool) (h : decide (0 ≤ a ∧ a < b ∧ b ≤ 1099511627776) = t) : Ending.returned (.bool t) = .returned (.bool (Spans.rightB (a, b))) := by rw [← h]; rfl
set_option maxHeartbeats 1000000 in
theorem right_any (a b : Int) (w : World) : Calls Try.prog 33 #[.agg #[.int .i64 a, .int .i64 b]] w fun e w' => e = .returned (.bool (Spans.rightB (a, b))) ∧ Below w.heap.size w w' := by
  by_cases h1 : 0 ≤ a <;> by_cases h2 : a < b <;> by_cases h3 : b ≤ 1099511627776
  all_goals try (exfalso; omega)
  all_goals
    go_enter Try.func33, Try.ntmps33
    go_wp2
    go_ret
    exact ⟨rightB_of _ (by first | exact decide_eq_true (by omega) | exact decide_eq_false (by omega)), (Below.refl _ _).alloc (Nat.le_refl _) _⟩
end Go.Proofs.Ytnlkljmboifnkaa

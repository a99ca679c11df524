/- Kind, the document's and the program's, for any byte: the kind; nothing is written. -/
import Derived.Test.YtfbgcjpakahocaaDoorHexNums
namespace Go.Proofs.YtfbgcjpakahocaaDoor
open Go.RowKit

theorem kind_cases (c : Int) : (c < 48 ∧ kindI c = 0) ∨ ((48 ≤ c ∧ c ≤ 57) ∧ kindI c = 1) ∨ ((57 < c ∧ c < 65) ∧ kindI c = 0) ∨ ((65 ≤ c ∧ c ≤ 90) ∧ kindI c = 4) ∨ ((90 < c ∧ c < 97) ∧ kindI c = 0) ∨ ((97 ≤ c ∧ c ≤ 102) ∧ kindI c = 2) ∨ ((102 < c ∧ c ≤ 122) ∧ kindI c = 3) ∨ (122 < c ∧ kindI c = 0) := by
  unfold kindI
  omega
theorem kind_any (c : Int) (w : World) (hc : 0 ≤ c ∧ c < 256) : Calls Tryd.prog 64 #[.int .u8 c] w fun e w' => e = .returned (.int .i64 (kindI c)) ∧ w' = w := by
  obtain ⟨h0, h9⟩ := hc
  rcases kind_cases c with ⟨h, e⟩ | ⟨⟨h, h'⟩, e⟩ | ⟨⟨h, h'⟩, e⟩ | ⟨⟨h, h'⟩, e⟩ | ⟨⟨h, h'⟩, e⟩ | ⟨⟨h, h'⟩, e⟩ | ⟨⟨h, h'⟩, e⟩ | ⟨h, e⟩
  all_goals
    rw [e]
    clear e
    go_enter Tryd.func64, Tryd.ntmps64
    go_wp2_with fail
    go_ret
    exact ⟨rfl, rfl⟩
end Go.Proofs.YtfbgcjpakahocaaDoor

/- A block that is known whole; a disk as its four cells; a disk that no call made. No conditions but those that stand in each lemma. -/
import Derived.Test.YtnllladoipcfkaaDoorCells
import Derived.Test.YtnllladoipcfkaaDoorDrawTail
import Derived.LoopTactic
import Derived.BigQuiet
import Derived.Deep.QuietTactic
import Derived.Laws.MakeOwn
import Derived.Laws.CopyOwn
import Derived.OneCell
namespace Go.Proofs.YtnllladoipcfkaaDoor
open Go.RowKit

/-- A disk's four cells. -/
def dcells (A : Option Addr) (n c : Nat) (M : Option Nat) (f : Bool) (l : Int) : Array Value := #[.slice A n c, .map M, .bool f, .int .i64 l]
/-- A disk that no call made. -/
def NoDisk (w : World) (v : Value) : Prop := v = .pointer none ∨ ∃ g, v = .pointer (some ⟨g, 0, none⟩) ∧ Row w g 45 (dcells none 0 0 none false 0)
theorem NoDisk.keep {w w' : World} {v : Value} (h : NoDisk w v) (hb : Below w.heap.size w w') : NoDisk w' v := by
  rcases h with rfl | ⟨g, rfl, hr⟩
  · exact .inl rfl
  · exact .inr ⟨g, rfl, hr.keep hb⟩

theorem nodisk_any (w : World) (d : Value) (h : NoDisk w d) : Calls Tryd.prog 25 #[d] w fun e w' => e = .returned (.bool true) ∧ Below w.heap.size w w' := by
  rcases h with rfl | ⟨g, rfl, hr⟩
  · go_enter Tryd.func25, Tryd.ntmps25
    go_wp2_with fail
    go_ret
    exact ⟨rfl, Below.refl _ _⟩
  · have c0 : w.cell? ⟨g, 0, none⟩ = some (.slice none 0 0) := hr.cell (j := 0) rfl
    go_enter Tryd.func25, Tryd.ntmps25
    go_wp2_with fail
    go_ret
    exact ⟨rfl, Below.refl _ _⟩

theorem none_has (w : World) (d : Value) (at_ : Int) (h : NoDisk w d) : Calls Tryd.prog 26 #[d, .int .i64 at_] w fun e w' => e = .returned (.int .i64 1) ∧ Below w.heap.size w w' := by
  go_enter Tryd.func26, Tryd.ntmps26
  go_wp2_with fail
  refine (nodisk_any _ _ h).mono ?_
  rintro e w1 ⟨rfl, hb1⟩
  go_wp2_with fail
  go_ret
  exact ⟨rfl, hb1⟩
theorem none_len (w : World) (d : Value) (h : NoDisk w d) : Calls Tryd.prog 31 #[d] w fun e w' => e = .returned (.int .i64 0) ∧ Below w.heap.size w w' := by
  go_enter Tryd.func31, Tryd.ntmps31
  go_wp2_with fail
  refine (nodisk_any _ _ h).mono ?_
  rintro e w1 ⟨rfl, hb1⟩
  go_wp2_with fail
  go_ret
  exact ⟨rfl, hb1⟩
theorem none_waiting (w : World) (d : Value) (h : NoDisk w d) : Calls Tryd.prog 12 #[d] w fun e w' => e = .returned (.int .i64 0) ∧ Below w.heap.size w w' := by
  go_enter Tryd.func12, Tryd.ntmps12
  go_wp2_with fail
  refine (nodisk_any _ _ h).mono ?_
  rintro e w1 ⟨rfl, hb1⟩
  go_wp2_with fail
  go_ret
  exact ⟨rfl, hb1⟩
theorem none_read (w : World) (d : Value) (at_ : Int) (h : NoDisk w d) : Calls Tryd.prog 13 #[d, .int .i64 at_] w fun e w' => e = .returned (.tuple #[.slice none 0 0, .int .i64 1]) ∧ Below w.heap.size w w' := by
  go_enter Tryd.func13, Tryd.ntmps13
  go_wp2_with fail
  refine (none_has _ _ _ h).mono ?_
  rintro e w1 ⟨rfl, hb1⟩
  go_wp2_with fail
  go_ret2
  exact ⟨rfl, hb1⟩
theorem none_write (w : World) (d : Value) (at_ : Int) (b : Value) (h : NoDisk w d) : Calls Tryd.prog 19 #[d, .int .i64 at_, b] w fun e w' => e = .returned (.int .i64 1) ∧ Below w.heap.size w w' := by
  go_enter Tryd.func19, Tryd.ntmps19
  go_wp2_with fail
  refine (none_has _ _ _ h).mono ?_
  rintro e w1 ⟨rfl, hb1⟩
  go_wp2_with fail
  go_ret
  exact ⟨rfl, hb1⟩
theorem none_flush (w : World) (d : Value) (h : NoDisk w d) : Calls Tryd.prog 14 #[d] w fun e w' => e = .returned (.int .i64 1) ∧ Below w.heap.size w w' := by
  go_enter Tryd.func14, Tryd.ntmps14
  go_wp2_with fail
  refine (nodisk_any _ _ h).mono ?_
  rintro e w1 ⟨rfl, hb1⟩
  go_wp2_with fail
  go_ret
  exact ⟨rfl, hb1⟩
theorem none_crash (w : World) (d : Value) (k : Value) (h : NoDisk w d) : Calls Tryd.prog 15 #[d, k] w fun e w' => e = .returned (.tuple #[.pointer none, .int .i64 1]) ∧ Below w.heap.size w w' := by
  go_enter Tryd.func15, Tryd.ntmps15
  go_wp2_with fail
  refine (nodisk_any _ _ h).mono ?_
  rintro e w1 ⟨rfl, hb1⟩
  go_wp2_with fail
  go_ret2
  exact ⟨rfl, hb1⟩
end Go.Proofs.YtnllladoipcfkaaDoor

/- A block that is known whole; a disk as its four cells; a disk that no call made. No conditions but those that stand in each lemma. -/
import Derived.Test.YtehanjhgjbclhaaMem
import Derived.Test.YtehanjhgjbclhaaDrawTail
import Derived.LoopTactic
import Derived.BigQuiet
import Derived.Deep.QuietTactic
import Derived.Laws.MakeOwn
import Derived.Laws.CopyOwn
import Derived.OneCell
namespace Go.Proofs.Ytehanjhgjbclhaa
open Go.RowKit

/-- Bytes as cells. -/
def bcells (xs : List Int) : Array Value := (xs.map (Value.int .u8)).toArray
theorem bcells_size (xs : List Int) : (bcells xs).size = xs.length := by simp [bcells]
theorem bcells_at (xs : List Int) (j : Nat) (h : j < xs.length) : (bcells xs)[j]? = some (.int .u8 (xs.getD j 0)) := by
  simp [bcells, List.getD_eq_getElem?_getD, List.getElem?_eq_getElem h]
theorem bcells_one (xs : List Int) : (bcells xs).all (·.oneCell') = true := by
  simp [bcells, List.all_map, Value.oneCell']
theorem bcells_inj {xs ys : List Int} (h : bcells xs = bcells ys) : xs = ys := by
  have h1 : xs.map (Value.int .u8) = ys.map (Value.int .u8) := by simpa [bcells] using h
  have h2 := congrArg (List.map fun v => match v with | .int _ x => x | _ => (0 : Int)) h1
  simpa [List.map_map, Function.comp_def] using h2

/-- The block g, known whole; its cells may be written. -/
def Row (w : World) (g : Nat) (t : TypeId) (cs : Array Value) : Prop := w.heap[g]? = some (.cells cs t (0, 0))
section
variable {w w' : World} {g : Nat} {t : TypeId} {cs : Array Value}
theorem Row.lt (h : Row w g t cs) : g < w.heap.size := by
  rcases Nat.lt_or_ge g w.heap.size with h' | h'
  · exact h'
  · unfold Row at h
    rw [Array.getElem?_eq_none h'] at h
    cases h
theorem Row.cell (h : Row w g t cs) {j : Nat} {v : Value} (hv : cs[j]? = some v) : w.cell? ⟨g, j, none⟩ = some v := (cell_of_row w g j cs t (0, 0) h).trans hv
theorem Row.free (h : Row w g t cs) (j : Nat) : w.frozen? ⟨g, j, none⟩ = false := frozen_of_row w g j cs t h
theorem Row.keepB {B : Nat} (h : Row w g t cs) (hb : Below B w w') (hg : g < B) : Row w' g t cs := (hb.block g hg).trans h
theorem Row.keep (h : Row w g t cs) (hb : Below w.heap.size w w') : Row w' g t cs := h.keepB hb h.lt
theorem Row.set (h : Row w g t cs) (j : Nat) (v : Value) : Row (w.setCell ⟨g, j, none⟩ v) g t (cs.setIfInBounds j v) := heap_setCell_same w g j cs t v h
theorem Row.other (h : Row w g t cs) {b : Nat} (hb : g ≠ b) (j : Nat) (v : Value) : Row (w.setCell ⟨b, j, none⟩ v) g t cs := (heap_setCell_other w ⟨b, j, none⟩ g v hb).trans h
theorem Row.setRow (h : Row w g t cs) (c : Array Value) : Row (w.setRow g c) g t c := setRow_heap w g cs c t (0, 0) h
theorem Row.otherRow (h : Row w g t cs) {b : Nat} (hb : g ≠ b) (c : Array Value) : Row (w.setRow b c) g t cs := (setRow_other w b g c hb).trans h
theorem Row.drew (h : Row w g t cs) : Row w.drew g t cs := h
theorem Row.drewN (h : Row w g t cs) (n : Nat) : Row (w.drewN n) g t cs := h
theorem Row.new (w : World) (t : TypeId) (cs : Array Value) : Row (w.alloc (.cells cs t)) w.heap.size t cs := heap_alloc_new w _
theorem Row.old (h : Row w g t cs) (o : Obj) : Row (w.alloc o) g t cs := (heap_alloc_old w o h.lt).trans h
theorem below_drewN {B : Nat} {a : World} (h : Below B a w) (n : Nat) : Below B a (w.drewN n) := ⟨h.os, h.tape, h.output, h.size, h.block⟩
end

/-- A disk's four cells. -/
def dcells (A : Option Addr) (n c : Nat) (M : Option Nat) (f : Bool) (l : Int) : Array Value := #[.slice A n c, .map M, .bool f, .int .i64 l]
/-- A disk that no call made. -/
def NoDisk (w : World) (v : Value) : Prop := v = .pointer none ∨ ∃ g, v = .pointer (some ⟨g, 0, none⟩) ∧ Row w g 27 (dcells none 0 0 none false 0)
theorem NoDisk.keep {w w' : World} {v : Value} (h : NoDisk w v) (hb : Below w.heap.size w w') : NoDisk w' v := by
  rcases h with rfl | ⟨g, rfl, hr⟩
  · exact .inl rfl
  · exact .inr ⟨g, rfl, hr.keep hb⟩

theorem none_any (w : World) (d : Value) (h : NoDisk w d) : Calls Try.prog 15 #[d] w fun e w' => e = .returned (.bool true) ∧ Below w.heap.size w w' := by
  rcases h with rfl | ⟨g, rfl, hr⟩
  · go_enter Try.func15, Try.ntmps15
    go_wp2_with fail
    go_ret
    exact ⟨rfl, Below.refl _ _⟩
  · have c0 : w.cell? ⟨g, 0, none⟩ = some (.slice none 0 0) := hr.cell (j := 0) rfl
    go_enter Try.func15, Try.ntmps15
    go_wp2_with fail
    go_ret
    exact ⟨rfl, Below.refl _ _⟩

theorem none_has (w : World) (d : Value) (at_ : Int) (h : NoDisk w d) : Calls Try.prog 14 #[d, .int .i64 at_] w fun e w' => e = .returned (.int .i64 1) ∧ Below w.heap.size w w' := by
  go_enter Try.func14, Try.ntmps14
  go_wp2_with fail
  refine (none_any _ _ h).mono ?_
  rintro e w1 ⟨rfl, hb1⟩
  go_wp2_with fail
  go_ret
  exact ⟨rfl, hb1⟩
theorem none_len (w : World) (d : Value) (h : NoDisk w d) : Calls Try.prog 11 #[d] w fun e w' => e = .returned (.int .i64 0) ∧ Below w.heap.size w w' := by
  go_enter Try.func11, Try.ntmps11
  go_wp2_with fail
  refine (none_any _ _ h).mono ?_
  rintro e w1 ⟨rfl, hb1⟩
  go_wp2_with fail
  go_ret
  exact ⟨rfl, hb1⟩
theorem none_waiting (w : World) (d : Value) (h : NoDisk w d) : Calls Try.prog 12 #[d] w fun e w' => e = .returned (.int .i64 0) ∧ Below w.heap.size w w' := by
  go_enter Try.func12, Try.ntmps12
  go_wp2_with fail
  refine (none_any _ _ h).mono ?_
  rintro e w1 ⟨rfl, hb1⟩
  go_wp2_with fail
  go_ret
  exact ⟨rfl, hb1⟩
theorem none_read (w : World) (d : Value) (at_ : Int) (h : NoDisk w d) : Calls Try.prog 6 #[d, .int .i64 at_] w fun e w' => e = .returned (.tuple #[.slice none 0 0, .int .i64 1]) ∧ Below w.heap.size w w' := by
  go_enter Try.func6, Try.ntmps6
  go_wp2_with fail
  refine (none_has _ _ _ h).mono ?_
  rintro e w1 ⟨rfl, hb1⟩
  go_wp2_with fail
  go_ret2
  exact ⟨rfl, hb1⟩
theorem none_write (w : World) (d : Value) (at_ : Int) (b : Value) (h : NoDisk w d) : Calls Try.prog 9 #[d, .int .i64 at_, b] w fun e w' => e = .returned (.int .i64 1) ∧ Below w.heap.size w w' := by
  go_enter Try.func9, Try.ntmps9
  go_wp2_with fail
  refine (none_has _ _ _ h).mono ?_
  rintro e w1 ⟨rfl, hb1⟩
  go_wp2_with fail
  go_ret
  exact ⟨rfl, hb1⟩
theorem none_flush (w : World) (d : Value) (h : NoDisk w d) : Calls Try.prog 10 #[d] w fun e w' => e = .returned (.int .i64 1) ∧ Below w.heap.size w w' := by
  go_enter Try.func10, Try.ntmps10
  go_wp2_with fail
  refine (none_any _ _ h).mono ?_
  rintro e w1 ⟨rfl, hb1⟩
  go_wp2_with fail
  go_ret
  exact ⟨rfl, hb1⟩
theorem none_fuse (w : World) (d : Value) (n : Int) (h : NoDisk w d) : Calls Try.prog 8 #[d, .int .i64 n] w fun e w' => (∃ v, e = .returned v) ∧ Below w.heap.size w w' := by
  go_enter Try.func8, Try.ntmps8
  go_wp2_with fail
  refine (none_any _ _ h).mono ?_
  rintro e w1 ⟨rfl, hb1⟩
  go_wp2_with fail
  first | (refine bodyPost_ret (results_none rfl _ _ _) rfl ?_) | (refine bodyPost_end (results_none rfl _ _ _) rfl ?_)
  exact ⟨⟨_, rfl⟩, hb1⟩
theorem none_crash (w : World) (d : Value) (k : Value) (h : NoDisk w d) : Calls Try.prog 7 #[d, k] w fun e w' => e = .returned (.tuple #[.pointer none, .int .i64 1]) ∧ Below w.heap.size w w' := by
  go_enter Try.func7, Try.ntmps7
  go_wp2_with fail
  refine (none_any _ _ h).mono ?_
  rintro e w1 ⟨rfl, hb1⟩
  go_wp2_with fail
  go_ret2
  exact ⟨rfl, hb1⟩
end Go.Proofs.Ytehanjhgjbclhaa

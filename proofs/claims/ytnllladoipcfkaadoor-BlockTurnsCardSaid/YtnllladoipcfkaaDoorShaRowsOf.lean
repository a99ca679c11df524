/- Rows of words and of bytes as the cells of a block that is known whole. No conditions but those that stand in each lemma. -/
import Derived.Test.YtnllladoipcfkaaDoorShaWords
import Derived.LoopTactic
namespace Go.Proofs.YtnllladoipcfkaaDoor.Sha3
open Go.RowKit

/-- Words as cells. -/
def wcells (xs : List Wd) : Array Value := (xs.map fun x => Value.int .u32 (uv x)).toArray
/-- Bytes as cells. -/
def bcells (xs : List Int) : Array Value := (xs.map (Value.int .u8)).toArray
/-- A state as cells. -/
def scells (hs : List Wd) (n : Int) : Array Value := (hs.map (fun x => Value.int .u32 (uv x)) ++ [Value.int .u64 n]).toArray
theorem wcells_size (xs : List Wd) : (wcells xs).size = xs.length := by simp [wcells]
theorem bcells_size (xs : List Int) : (bcells xs).size = xs.length := by simp [bcells]
theorem scells_size (hs : List Wd) (n : Int) : (scells hs n).size = hs.length + 1 := by simp [scells]
theorem wcells_at (xs : List Wd) (j : Nat) (h : j < xs.length) : (wcells xs)[j]? = some (.int .u32 (uv (xs.getD j 0#32))) := by
  simp [wcells, List.getD_eq_getElem?_getD, List.getElem?_eq_getElem h]
theorem bcells_at (xs : List Int) (j : Nat) (h : j < xs.length) : (bcells xs)[j]? = some (.int .u8 (xs.getD j 0)) := by
  simp [bcells, List.getD_eq_getElem?_getD, List.getElem?_eq_getElem h]
theorem scells_at (hs : List Wd) (n : Int) (j : Nat) (h : j < hs.length) : (scells hs n)[j]? = some (.int .u32 (uv (hs.getD j 0#32))) := by
  simp [scells, List.getD_eq_getElem?_getD, List.getElem?_append_left, h]
theorem scells_last (hs : List Wd) (n : Int) (j : Nat) (h : hs.length = j) : (scells hs n)[j]? = some (.int .u64 n) := by
  subst h
  simp [scells]
theorem wcells_set (xs : List Wd) (j : Nat) (x : Wd) : (wcells xs).setIfInBounds j (.int .u32 (uv x)) = wcells (xs.set j x) := by
  simp [wcells, List.map_set]
theorem bcells_set (xs : List Int) (j : Nat) (x : Int) : (bcells xs).setIfInBounds j (.int .u8 x) = bcells (xs.set j x) := by
  simp [bcells, List.map_set]
theorem scells_set (hs : List Wd) (n : Int) (j : Nat) (x : Wd) (h : j < hs.length) : (scells hs n).setIfInBounds j (.int .u32 (uv x)) = scells (hs.set j x) n := by
  simp [scells, List.map_set, List.set_append_left, h]
theorem scells_setLast (hs : List Wd) (n m : Int) (j : Nat) (h : hs.length = j) : (scells hs n).setIfInBounds j (.int .u64 m) = scells hs m := by
  subst h
  simp [scells, List.set_append_right]
theorem wcells_one (xs : List Wd) : (wcells xs).all (·.oneCell') = true := by
  simp [wcells, List.all_map, Value.oneCell']
theorem bcells_one (xs : List Int) : (bcells xs).all (·.oneCell') = true := by
  simp [bcells, List.all_map, Value.oneCell']
theorem scells_one (hs : List Wd) (n : Int) : (scells hs n).all (·.oneCell') = true := by
  simp [scells, List.all_map, List.all_append, Value.oneCell']

/-- The block g, known whole; its cells may be written. -/
def Row (w : World) (g : Nat) (t : TypeId) (cs : Array Value) : Prop := w.heap[g]? = some (.cells cs t (0, 0))
section
variable {w w' : World} {g : Nat} {t : TypeId} {cs : Array Value}
theorem Row.lt (h : Row w g t cs) : g < w.heap.size := by
  rcases Nat.lt_or_ge g w.heap.size with h' | h'
  · exact h'
  · unfold Row at h
    rw [Array.getElem?_eq_none h'] at h
    cases h
theorem Row.cell (h : Row w g t cs) {j : Nat} {v : Value} (hv : cs[j]? = some v) : w.cell? ⟨g, j, none⟩ = some v := (cell_of_row w g j cs t (0, 0) h).trans hv
theorem Row.free (h : Row w g t cs) (j : Nat) : w.frozen? ⟨g, j, none⟩ = false := frozen_of_row w g j cs t h
theorem Row.keepB {B : Nat} (h : Row w g t cs) (hb : Below B w w') (hg : g < B) : Row w' g t cs := (hb.block g hg).trans h
theorem Row.keep (h : Row w g t cs) (hb : Below w.heap.size w w') : Row w' g t cs := h.keepB hb h.lt
theorem Row.set (h : Row w g t cs) (j : Nat) (v : Value) : Row (w.setCell ⟨g, j, none⟩ v) g t (cs.setIfInBounds j v) := heap_setCell_same w g j cs t v h
theorem Row.other (h : Row w g t cs) {b : Nat} (hb : g ≠ b) (j : Nat) (v : Value) : Row (w.setCell ⟨b, j, none⟩ v) g t cs := (heap_setCell_other w ⟨b, j, none⟩ g v hb).trans h
theorem Row.setRow (h : Row w g t cs) (c : Array Value) : Row (w.setRow g c) g t c := setRow_heap w g cs c t (0, 0) h
theorem Row.otherRow (h : Row w g t cs) {b : Nat} (hb : g ≠ b) (c : Array Value) : Row (w.setRow b c) g t cs := (setRow_other w b g c hb).trans h
theorem Row.drew (h : Row w g t cs) : Row w.drew g t cs := h
theorem Row.drewN (h : Row w g t cs) (n : Nat) : Row (w.drewN n) g t cs := h
theorem Row.new (w : World) (t : TypeId) (cs : Array Value) : Row (w.alloc (.cells cs t)) w.heap.size t cs := heap_alloc_new w _
theorem Row.old (h : Row w g t cs) (o : Obj) : Row (w.alloc o) g t cs := (heap_alloc_old w o h.lt).trans h
theorem below_setRow {B : Nat} {a : World} (h : Below B a w) {b : Nat} (hb : B ≤ b) (c : Array Value) : Below B a (w.setRow b c) :=
  ⟨h.os, h.tape, h.output, by rw [setRow_size]; exact h.size, fun k hk => (setRow_other w b k c (by omega)).trans (h.block k hk)⟩
theorem below_drewN {B : Nat} {a : World} (h : Below B a w) (n : Nat) : Below B a (w.drewN n) := ⟨h.os, h.tape, h.output, h.size, h.block⟩
end
theorem Tryd.size33 : (Tryd.prog.info? 73).map (·.size) = some 64 := by kernel_rfl
theorem Tryd.size32 : (Tryd.prog.info? 86).map (·.size) = some 64 := by kernel_rfl
theorem Tryd.size28 : (Tryd.prog.info? 75).map (·.size) = some 8 := by kernel_rfl
theorem Tryd.size31 : (Tryd.prog.info? 84).map (·.size) = some 9 := by kernel_rfl
theorem Tryd.size35 : (Tryd.prog.info? 78).map (·.size) = some 9 := by kernel_rfl
theorem Tryd.size23 : (Tryd.prog.info? 29).map (·.size) = some 32 := by kernel_rfl
end Go.Proofs.YtnllladoipcfkaaDoor.Sha3

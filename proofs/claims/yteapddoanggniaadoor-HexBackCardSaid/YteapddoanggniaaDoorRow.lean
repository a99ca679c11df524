/- A block that is known whole, and rows of bytes in it; a byte of a text. No conditions but those that stand in each lemma. -/
import Derived.Test.YteapddoanggniaaDoorHexNums
import Derived.LoopTactic
import Derived.Laws.MakeOwn
import Derived.OneCell
namespace Go.Proofs.YteapddoanggniaaDoor
open Go.RowKit

/-- Bytes as cells. -/
def bcells (xs : List Int) : Array Value := (xs.map (Value.int .u8)).toArray
theorem bcells_size (xs : List Int) : (bcells xs).size = xs.length := by simp [bcells]
theorem bcells_at (xs : List Int) (j : Nat) (h : j < xs.length) : (bcells xs)[j]? = some (.int .u8 (xs.getD j 0)) := by
  simp [bcells, List.getD_eq_getElem?_getD, List.getElem?_eq_getElem h]
theorem bcells_set (xs : List Int) (j : Nat) (x : Int) : (bcells xs).setIfInBounds j (.int .u8 x) = bcells (xs.set j x) := by
  simp [bcells, List.map_set]
/-- The block g, known whole; its cells may be written. -/
def Row (w : World) (g : Nat) (t : TypeId) (cs : Array Value) : Prop := w.heap[g]? = some (.cells cs t (0, 0))
section
variable {w w' : World} {g : Nat} {t : TypeId} {cs : Array Value}
theorem Row.lt (h : Row w g t cs) : g < w.heap.size := by
  rcases Nat.lt_or_ge g w.heap.size with h' | h'
  · exact h'
  · unfold Row at h
    rw [Array.getElem?_eq_none h'] at h
    cases h
theorem Row.cell (h : Row w g t cs) {j : Nat} {v : Value} (hv : cs[j]? = some v) : w.cell? ⟨g, j, none⟩ = some v := (cell_of_row w g j cs t (0, 0) h).trans hv
theorem Row.free (h : Row w g t cs) (j : Nat) : w.frozen? ⟨g, j, none⟩ = false := frozen_of_row w g j cs t h
theorem Row.keepB {B : Nat} (h : Row w g t cs) (hb : Below B w w') (hg : g < B) : Row w' g t cs := (hb.block g hg).trans h
theorem Row.keep (h : Row w g t cs) (hb : Below w.heap.size w w') : Row w' g t cs := h.keepB hb h.lt
theorem Row.set (h : Row w g t cs) (j : Nat) (v : Value) : Row (w.setCell ⟨g, j, none⟩ v) g t (cs.setIfInBounds j v) := heap_setCell_same w g j cs t v h
theorem Row.other (h : Row w g t cs) {b : Nat} (hb : g ≠ b) (j : Nat) (v : Value) : Row (w.setCell ⟨b, j, none⟩ v) g t cs := (heap_setCell_other w ⟨b, j, none⟩ g v hb).trans h
theorem Row.drew (h : Row w g t cs) : Row w.drew g t cs := h
theorem Row.new (w : World) (t : TypeId) (cs : Array Value) : Row (w.alloc (.cells cs t)) w.heap.size t cs := heap_alloc_new w _
theorem Row.old (h : Row w g t cs) (o : Obj) : Row (w.alloc o) g t cs := (heap_alloc_old w o h.lt).trans h
theorem row_bytes {l : List Int} (h : Row w g t (bcells l)) : Src .u8 w (some ⟨g, 0, none⟩) l := fun _ =>
  ⟨g, 0, rfl, h.lt, fun i hi => by rw [Nat.zero_add]; exact h.cell (bcells_at l i hi)⟩
end
theorem made_bytes (n : Nat) : madeCells (Value.cells (.int .u8 0)) n = bcells (List.replicate n 0) := by
  apply Array.ext
  · simp [size_madeCells, bcells]
  · intro i h1 h2
    have hz : ∀ k : Nat, (Value.cells (.int .u8 0))[k % (Value.cells (.int .u8 0)).size]! = .int .u8 0 := by
      intro k
      show (#[Value.int .u8 0])[k % 1]! = .int .u8 0
      rw [Nat.mod_one]
      rfl
    simp [madeCells, bcells, hz]
theorem make_full (n : Nat) (h : n ≤ 1000000) (w : World) : (Instr.makeSlice 27 (.int .i64 (n : Int)) (.int .i64 (n : Int))).run Tryd.prog w = .ok (.slice (some ⟨w.heap.size, 0, none⟩) n n) (w.alloc (.cells (bcells (List.replicate n 0)) 5)) := by
  obtain ⟨i, hi, hz, hz1, hz2⟩ := info_parts Tryd.info5
  have := run_make (P := Tryd.prog) w 27 5 i _ Tryd.underlying27 hi hz .i64 .i64 (n : Int) (n : Int) (by omega) (by omega) (by rw [hz2]; omega) (by omega)
  simpa [hz1, made_bytes] using this
theorem run_index_str {P : Program} (w : World) (t : TypeId) (s : ByteArray) (d : Int) (j : Nat) (hd : d = (j : Int)) (hu : P.underlying t = some .string) (h1 : j < s.size) :
    (Instr.index t (.string s) (.int .i64 d)).run P w = .ok (.int .u8 ((numsOf s).getD j 0)) w := by
  subst hd
  have ha : (asIntOf (.int .i64 (j : Int))).run P w = .ok (.i64, (j : Int)) w := by simp [asIntOf]
  have hs : s[j]? = some s[j] := getElem?_pos s j h1
  have hv : ((s[j]).toNat : Int) = (numsOf s).getD j 0 := by
    have hl : j < s.data.toList.length := h1
    unfold numsOf
    rw [List.getD_eq_getElem?_getD, List.getElem?_map, List.getElem?_eq_getElem hl]
    rfl
  unfold Instr.index
  simp only [Sem.run_bind, ha, Result.andThen_ok, run_underlying hu w]
  rw [if_pos (by omega), Int.toNat_natCast, hs]
  simp only [Sem.run_pure]
  rw [← hv]
end Go.Proofs.YteapddoanggniaaDoor

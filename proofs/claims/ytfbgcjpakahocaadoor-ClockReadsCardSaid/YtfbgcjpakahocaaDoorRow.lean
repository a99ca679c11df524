/- New rows of zero bytes; a byte of a text. No conditions but those that stand in each lemma. -/
import Derived.Test.YtfbgcjpakahocaaDoorHexNums
import Derived.Test.YtfbgcjpakahocaaDoorCells
import Derived.LoopTactic
import Derived.Laws.MakeOwn
import Derived.OneCell
namespace Go.Proofs.YtfbgcjpakahocaaDoor
open Go.RowKit

theorem made_bytes0 (n : Nat) : madeCells (Value.cells (.int .u8 0)) n = bcells (List.replicate n 0) := by
  apply Array.ext
  · simp [size_madeCells, bcells]
  · intro i h1 h2
    have hz : ∀ k : Nat, (Value.cells (.int .u8 0))[k % (Value.cells (.int .u8 0)).size]! = .int .u8 0 := by
      intro k
      show (#[Value.int .u8 0])[k % 1]! = .int .u8 0
      rw [Nat.mod_one]
      rfl
    simp [madeCells, bcells, hz]
theorem make_full (n : Nat) (h : n ≤ 1000000) (w : World) : (Instr.makeSlice 64 (.int .i64 (n : Int)) (.int .i64 (n : Int))).run Tryd.prog w = .ok (.slice (some ⟨w.heap.size, 0, none⟩) n n) (w.alloc (.cells (bcells (List.replicate n 0)) 5)) := by
  obtain ⟨i, hi, hz, hz1, hz2⟩ := info_parts Tryd.info5
  have := run_make (P := Tryd.prog) w 64 5 i _ Tryd.underlying64 hi hz .i64 .i64 (n : Int) (n : Int) (by omega) (by omega) (by rw [hz2]; omega) (by omega)
  simpa [hz1, made_bytes0] using this
theorem run_index_str {P : Program} (w : World) (t : TypeId) (s : ByteArray) (d : Int) (j : Nat) (hd : d = (j : Int)) (hu : P.underlying t = some .string) (h1 : j < s.size) :
    (Instr.index t (.string s) (.int .i64 d)).run P w = .ok (.int .u8 ((numsOf s).getD j 0)) w := by
  subst hd
  have ha : (asIntOf (.int .i64 (j : Int))).run P w = .ok (.i64, (j : Int)) w := by simp [asIntOf]
  have hs : s[j]? = some s[j] := getElem?_pos s j h1
  have hv : ((s[j]).toNat : Int) = (numsOf s).getD j 0 := by
    have hl : j < s.data.toList.length := h1
    unfold numsOf
    rw [List.getD_eq_getElem?_getD, List.getElem?_map, List.getElem?_eq_getElem hl]
    rfl
  unfold Instr.index
  simp only [Sem.run_bind, ha, Result.andThen_ok, run_underlying hu w]
  rw [if_pos (by omega), Int.toNat_natCast, hs]
  simp only [Sem.run_pure]
  rw [← hv]
end Go.Proofs.YtfbgcjpakahocaaDoor

/- A time as an argument by value: its six numbers. No conditions. -/
import Derived.Test.YtfbgcjpakahocaaDoorClkVar
import Derived.ChangeArms
namespace Go.Proofs.YtfbgcjpakahocaaDoor
open Go.RowKit
namespace Clk

/-- What the law asks of a struct of six numbers. -/
structure SixNums (P : Program) (T I : TypeId) : Prop where
  struct : P.underlying T = some (.struct (P.fieldsOf T))
  fields : (P.fieldsOf T).toList.map (fun f => (f.type, f.offset)) = [(I, 0), (I, 1), (I, 2), (I, 3), (I, 4), (I, 5)]
  cells : P.cellsOf T = 6
  int : P.underlying I = some (.int .i64)
  one : P.cellsOf I = 1
theorem Tryd.sixTm : SixNums Tryd.prog 23 3 where
  struct := by kernel_rfl
  fields := by kernel_rfl
  cells := by kernel_rfl
  int := Tryd.underlying3
  one := by kernel_rfl
theorem six_in {P : Program} {T I : TypeId} (hT : SixNums P T I) {H : Type} {enc : TypeId × Value → H} {w : World} {base : Nat} {spare : Nat → Bool} {held : Bool} {d : DataW H} {p : List MemPlace} {cs : Array Value} (h : DataW.Trod enc P w base spare held T (.agg cs) d p) : ∃ q : Tm, cs = tmC q := by
  obtain ⟨fuel, hf⟩ := h
  obtain ⟨xs, n, _, _, hl, hxl, hf⟩ := DataW.trod_struct hT.struct hf
  rw [hT.cells] at hl
  have hl : cs.toList.length = 6 := hl
  have hF := hT.fields
  have hsz : (P.fieldsOf T).size = 6 := by have := congrArg List.length hF; simpa using this
  have get : ∀ j : Nat, j < 6 → ∃ v : Int, (cs.toList.drop j).take 1 = [.int .i64 v] := fun j hj => by
    have hj2 : j < (P.fieldsOf T).size := by omega
    have hx : j < xs.length := by omega
    have h1 := hf j _ (Array.getElem?_eq_getElem hj2)
    have e : (((P.fieldsOf T)[j]).type, ((P.fieldsOf T)[j]).offset) = (I, j) := by
      have h2 := congrArg (fun l => l[j]?) hF
      simp only [List.getElem?_map, Array.getElem?_toList, Array.getElem?_eq_getElem hj2, Option.map_some] at h2
      match j, hj with
      | 0, _ => simpa using h2
      | 1, _ => simpa using h2
      | 2, _ => simpa using h2
      | 3, _ => simpa using h2
      | 4, _ => simpa using h2
      | 5, _ => simpa using h2
    injection e with e1 e2
    rw [e1, e2, hT.one, List.getElem?_eq_getElem hx] at h1
    obtain ⟨v, hv, _⟩ := DataW.trod_int hT.int h1
    exact ⟨v, hv⟩
  obtain ⟨v0, h0⟩ := get 0 (by omega)
  obtain ⟨v1, h1⟩ := get 1 (by omega)
  obtain ⟨v2, h2⟩ := get 2 (by omega)
  obtain ⟨v3, h3⟩ := get 3 (by omega)
  obtain ⟨v4, h4⟩ := get 4 (by omega)
  obtain ⟨v5, h5⟩ := get 5 (by omega)
  refine ⟨⟨v0, v1, v2, v3, v4, v5⟩, ?_⟩
  apply Array.ext'
  show cs.toList = [.int .i64 v0, .int .i64 v1, .int .i64 v2, .int .i64 v3, .int .i64 v4, .int .i64 v5]
  match hcs : cs.toList, hl with
  | [a, b, c, d, e, f], _ =>
    rw [hcs] at h0 h1 h2 h3 h4 h5
    simp at h0 h1 h2 h3 h4 h5
    rw [h0, h1, h2, h3, h4, h5]
theorem tm_in {H : Type} {enc : TypeId × Value → H} {w : World} {base : Nat} {spare : Nat → Bool} {held : Bool} {d : DataW H} {p : List MemPlace} {cs : Array Value} (h : DataW.Trod enc Tryd.prog w base spare held 23 (.agg cs) d p) : ∃ q : Tm, cs = tmC q := six_in Tryd.sixTm h
end Clk
end Go.Proofs.YtfbgcjpakahocaaDoor

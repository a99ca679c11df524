/- Arguments that came in: a struct of numbers by value, a slice of structs of two numbers, a slice of arrays of numbers. Of whatever types. No conditions but those that stand in each lemma. -/
import Derived.Test.YtejcpfplmlpilaaSpn
import Derived.Test.YtejcpfplmlpilaaElems
import Derived.OpenShut
import Derived.ChangeSame
import Derived.Deep.Slices
namespace Go.Proofs.Ytejcpfplmlpilaa
open Go.RowKit Go.ChangeShapes Go.WideShapes

section
variable {P : Program} {w : World} {base : Nat} {H : Type} {enc : TypeId × Value → H} {spare : Nat → Bool} {held : Bool}
/-- One value that is a number. -/
theorem part_num {I : TypeId} {k : IntKind} {fuel : Nat} {cs : List Value} {y : DataW H × List MemPlace} {j : Nat} {v : Value} (hI : P.underlying I = some (.int k)) (hv : cs[j]? = some v)
    (h : DataW.trod enc P w base spare held fuel I ((cs.drop j).take 1) = some y) : ∃ n : Int, v = .int k n ∧ (Lit.int k n).wf = true := by
  obtain ⟨n, e, _, hw⟩ := DataW.trod_int hI h
  refine ⟨n, ?_, hw⟩
  have e2 := congrArg (fun l => l[0]?) e
  simp only [List.getElem?_take, List.getElem?_drop] at e2
  rw [Nat.add_zero, hv] at e2
  simpa using e2
/-- What the laws ask of a struct of two numbers. -/
structure TwoNums (P : Program) (T I : TypeId) : Prop where
  struct : P.underlying T = some (.struct (P.fieldsOf T))
  fields : (P.fieldsOf T).toList.map (fun f => (f.type, f.offset)) = [(I, 0), (I, 1)]
  cells : P.cellsOf T = 2
  int : P.underlying I = some (.int .i64)
  one : P.cellsOf I = 1
theorem two_nums {T I : TypeId} {fuel : Nat} {cs : List Value} {y : DataW H × List MemPlace} (hT : TwoNums P T I) (h : DataW.trod enc P w base spare held fuel T cs = some y) :
    ∃ s : Sp, cs = [.int .i64 s.1, .int .i64 s.2] ∧ spOk s := by
  obtain ⟨xs, n, _, _, hl, hxl, hf⟩ := DataW.trod_struct hT.struct h
  rw [hT.cells] at hl
  have hF := hT.fields
  have hsz : (P.fieldsOf T).size = 2 := by have := congrArg List.length hF; simpa using this
  match cs, hl with
  | [a, b], _ =>
    have get : ∀ j : Nat, j < 2 → ∃ z, DataW.trod enc P w base spare held n I (([a, b].drop j).take 1) = some z := fun j hj => by
      have hj2 : j < (P.fieldsOf T).size := by omega
      have hx : j < xs.length := by omega
      have h1 := hf j _ (Array.getElem?_eq_getElem hj2)
      have e : (((P.fieldsOf T)[j]).type, ((P.fieldsOf T)[j]).offset) = (I, j) := by
        have h2 := congrArg (fun l => l[j]?) hF
        simp only [List.getElem?_map, Array.getElem?_toList, Array.getElem?_eq_getElem hj2, Option.map_some] at h2
        match j, hj with
        | 0, _ => simpa using h2
        | 1, _ => simpa using h2
      injection e with e1 e2
      rw [e1, e2, hT.one] at h1
      exact ⟨_, h1.trans (List.getElem?_eq_getElem hx)⟩
    obtain ⟨z0, h0⟩ := get 0 (by omega)
    obtain ⟨z1, h1⟩ := get 1 (by omega)
    obtain ⟨x, rfl, hx⟩ := part_num (j := 0) hT.int rfl h0
    obtain ⟨y, rfl, hy⟩ := part_num (cs := [.int .i64 x, b]) (j := 1) hT.int rfl h1
    exact ⟨(x, y), rfl, hx, hy⟩
/-- A struct of two numbers by value. -/
theorem span_in {T I : TypeId} {cs : Array Value} {d : DataW H} {p : List MemPlace} (hT : TwoNums P T I) (h : DataW.Trod enc P w base spare held T (.agg cs) d p) :
    ∃ x y : Int, cs = #[.int .i64 x, .int .i64 y] ∧ (Lit.int .i64 x).wf = true ∧ (Lit.int .i64 y).wf = true := by
  obtain ⟨fuel, hf⟩ := h
  obtain ⟨s, e, h1, h2⟩ := two_nums hT hf
  refine ⟨s.1, s.2, ?_, h1, h2⟩
  apply Array.ext'
  exact e
/-- A slice of spans. -/
theorem spans_in {ST T I : TypeId} (hT : TwoNums P T I) (hS : P.underlying ST = some (.slice T)) {A : Option Addr} {len cap : Nat} {d : DataW H} {p : List MemPlace} (h : DataW.Trod enc P w base spare held ST (.slice A len cap) d p) :
    ∃ l : List Sp, len = l.length ∧ SpSrc w A l ∧ len ≤ cap ∧ cap ≤ maxLen := by
  obtain ⟨l, h1, h2, h3, h4⟩ := elems_in spZ (fun s : Sp => [.int .i64 s.1, .int .i64 s.2]) (k := 2) (fun _ => rfl) (by omega) hS hT.cells (fun fuel cs y hy => by
    obtain ⟨s, hs, _⟩ := two_nums hT hy
    exact ⟨s, hs⟩) h
  refine ⟨l, h1, fun hpos => ?_, h2, h3⟩
  obtain ⟨b, o, hA, hlt, hc⟩ := h4 (by omega)
  exact ⟨b, o, hA, hlt, fun i hi => ⟨hc i (by omega) 0 _ rfl, hc i (by omega) 1 _ rfl⟩⟩
end
end Go.Proofs.Ytejcpfplmlpilaa

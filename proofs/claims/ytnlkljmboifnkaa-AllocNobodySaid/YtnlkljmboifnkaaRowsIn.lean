/- Arguments that came in: a struct of numbers by value, a slice of structs of two numbers, a slice of arrays of numbers. Of whatever types. No conditions but those that stand in each lemma. -/
import Derived.Test.YtnlkljmboifnkaaSpn
import Derived.OpenShut
import Derived.ChangeSame
import Derived.Deep.Slices
namespace Go.Proofs.Ytnlkljmboifnkaa
open Go.RowKit Go.ChangeShapes Go.WideShapes

section
variable {P : Program} {w : World} {base : Nat} {H : Type} {enc : TypeId × Value → H} {spare : Nat → Bool} {held : Bool}
/-- One value that is a number. -/
theorem part_num {I : TypeId} {k : IntKind} {fuel : Nat} {cs : List Value} {y : DataW H × List MemPlace} {j : Nat} {v : Value} (hI : P.underlying I = some (.int k)) (hv : cs[j]? = some v)
    (h : DataW.trod enc P w base spare held fuel I ((cs.drop j).take 1) = some y) : ∃ n : Int, v = .int k n ∧ (Lit.int k n).wf = true := by
  obtain ⟨n, e, _, hw⟩ := DataW.trod_int hI h
  refine ⟨n, ?_, hw⟩
  have e2 := congrArg (fun l => l[0]?) e
  simp only [List.getElem?_take, List.getElem?_drop] at e2
  rw [Nat.add_zero, hv] at e2
  simpa using e2
/-- What the laws ask of a struct of two numbers. -/
structure TwoNums (P : Program) (T I : TypeId) : Prop where
  struct : P.underlying T = some (.struct (P.fieldsOf T))
  fields : (P.fieldsOf T).toList.map (fun f => (f.type, f.offset)) = [(I, 0), (I, 1)]
  cells : P.cellsOf T = 2
  int : P.underlying I = some (.int .i64)
  one : P.cellsOf I = 1
theorem two_nums {T I : TypeId} {fuel : Nat} {cs : List Value} {y : DataW H × List MemPlace} (hT : TwoNums P T I) (h : DataW.trod enc P w base spare held fuel T cs = some y) :
    ∃ s : Sp, cs = [.int .i64 s.1, .int .i64 s.2] ∧ spOk s := by
  obtain ⟨xs, n, _, _, hl, hxl, hf⟩ := DataW.trod_struct hT.struct h
  rw [hT.cells] at hl
  have hF := hT.fields
  have hsz : (P.fieldsOf T).size = 2 := by have := congrArg List.length hF; simpa using this
  match cs, hl with
  | [a, b], _ =>
    have get : ∀ j : Nat, j < 2 → ∃ z, DataW.trod enc P w base spare held n I (([a, b].drop j).take 1) = some z := fun j hj => by
      have hj2 : j < (P.fieldsOf T).size := by omega
      have hx : j < xs.length := by omega
      have h1 := hf j _ (Array.getElem?_eq_getElem hj2)
      have e : (((P.fieldsOf T)[j]).type, ((P.fieldsOf T)[j]).offset) = (I, j) := by
        have h2 := congrArg (fun l => l[j]?) hF
        simp only [List.getElem?_map, Array.getElem?_toList, Array.getElem?_eq_getElem hj2, Option.map_some] at h2
        match j, hj with
        | 0, _ => simpa using h2
        | 1, _ => simpa using h2
      injection e with e1 e2
      rw [e1, e2, hT.one] at h1
      exact ⟨_, h1.trans (List.getElem?_eq_getElem hx)⟩
    obtain ⟨z0, h0⟩ := get 0 (by omega)
    obtain ⟨z1, h1⟩ := get 1 (by omega)
    obtain ⟨x, rfl, hx⟩ := part_num (j := 0) hT.int rfl h0
    obtain ⟨y, rfl, hy⟩ := part_num (cs := [.int .i64 x, b]) (j := 1) hT.int rfl h1
    exact ⟨(x, y), rfl, hx, hy⟩
/-- A struct of two numbers by value. -/
theorem span_in {T I : TypeId} {cs : Array Value} {d : DataW H} {p : List MemPlace} (hT : TwoNums P T I) (h : DataW.Trod enc P w base spare held T (.agg cs) d p) :
    ∃ x y : Int, cs = #[.int .i64 x, .int .i64 y] ∧ (Lit.int .i64 x).wf = true ∧ (Lit.int .i64 y).wf = true := by
  obtain ⟨fuel, hf⟩ := h
  obtain ⟨s, e, h1, h2⟩ := two_nums hT hf
  refine ⟨s.1, s.2, ?_, h1, h2⟩
  apply Array.ext'
  exact e
/-- A choice for each of the first n. -/
theorem choice_list {α : Type} (n : Nat) (Q : Nat → α → Prop) (d : α) (h : ∀ i, i < n → ∃ a, Q i a) : ∃ l : List α, n = l.length ∧ ∀ i, i < n → Q i (l.getD i d) := by
  induction n with
  | zero => exact ⟨[], rfl, fun i hi => absurd hi (by omega)⟩
  | succ n ih =>
    obtain ⟨l, hl, hq⟩ := ih fun i hi => h i (by omega)
    obtain ⟨a, ha⟩ := h n (by omega)
    refine ⟨l ++ [a], by simp [hl], fun i hi => ?_⟩
    rcases Nat.lt_or_ge i n with h' | h'
    · have e : (l ++ [a]).getD i d = l.getD i d := by rw [List.getD_eq_getElem?_getD, List.getD_eq_getElem?_getD, List.getElem?_append_left (by omega)]
      rw [e]; exact hq i h'
    · obtain rfl : i = n := by omega
      have e : (l ++ [a]).getD i d = a := by rw [List.getD_eq_getElem?_getD, hl, List.getElem?_concat_length]; rfl
      rw [e]; exact ha
/-- A slice whose elements take k cells, all numbers: its elements, one by one. -/
theorem elems_in {ST E : TypeId} {k : Nat} {α : Type} (dflt : α) (cellsOf : α → List Value) (hlen : ∀ a, (cellsOf a).length = k) (hk : 0 < k) (hS : P.underlying ST = some (.slice E)) (hE : P.cellsOf E = k)
    (hel : ∀ (fuel : Nat) (cs : List Value) (y : DataW H × List MemPlace), DataW.trod enc P w base spare held fuel E cs = some y → ∃ a : α, cs = cellsOf a)
    {A : Option Addr} {len cap : Nat} {d : DataW H} {p : List MemPlace} (h : DataW.Trod enc P w base spare held ST (.slice A len cap) d p) :
    ∃ l : List α, len = l.length ∧ len ≤ cap ∧ cap ≤ maxLen ∧ (0 < len → ∃ b o, A = some ⟨b, o, none⟩ ∧ b < w.heap.size ∧ ∀ i, i < len → ∀ j v, (cellsOf (l.getD i dflt))[j]? = some v → w.cell? ⟨b, o + i * k + j, none⟩ = some v) := by
  obtain ⟨fuel, hf⟩ := h
  rcases Go.Deep.open_slice hS hf with ⟨hcs, _⟩ | ⟨a, len', cap', m, n, D, Pl, hcs, hb, hl, hm, hmm, hx, hi⟩
  · simp [Value.cells] at hcs
    obtain ⟨rfl, rfl, rfl⟩ := hcs
    exact ⟨[], rfl, Nat.le_refl _, by unfold maxLen; omega, fun h => absurd h (by omega)⟩
  · simp [Value.cells] at hcs
    obtain ⟨rfl, rfl, rfl⟩ := hcs
    rw [hE] at hi
    have hlm : len ≤ m := by rw [hmm]; split <;> omega
    have H1 : ∀ i, i < len → ∃ e : α, ∀ j v, (cellsOf e)[j]? = some v → w.cell? ((a.add (i * k)).add j) = some v := fun i hil => by
      obtain ⟨cs', hc, ht⟩ := hi i (by omega)
      obtain ⟨e, rfl⟩ := hel _ _ _ ht
      obtain ⟨_, hcl, hat⟩ := World.cells?_some hc
      refine ⟨e, fun j v hj => ?_⟩
      have hjk : j < k := by
        rcases Nat.lt_or_ge j k with h' | h'
        · exact h'
        · rw [List.getElem?_eq_none (by rw [hlen]; exact h')] at hj; cases hj
      rw [hat j hjk, hj]
    obtain ⟨l, hll, hq⟩ := choice_list len _ dflt H1
    refine ⟨l, hll, hl, hm, fun hpos => ?_⟩
    obtain ⟨b, off, spot⟩ := a
    have h0 : (cellsOf (l.getD 0 dflt))[0]? = some ((cellsOf (l.getD 0 dflt))[0]'(by rw [hlen]; exact hk)) := List.getElem?_eq_getElem _
    have hc0 := hq 0 hpos 0 _ h0
    have hspot : spot = none := by simpa [Addr.add] using World.cell?_spot hc0
    subst hspot
    refine ⟨b, off, rfl, by simpa [Addr.add] using World.block_lt_of_cell? w _ hc0, fun i hil j v hj => ?_⟩
    have := hq i hil j v hj
    rw [add_addr, add_addr] at this
    exact this
/-- A slice of spans. -/
theorem spans_in {ST T I : TypeId} (hT : TwoNums P T I) (hS : P.underlying ST = some (.slice T)) {A : Option Addr} {len cap : Nat} {d : DataW H} {p : List MemPlace} (h : DataW.Trod enc P w base spare held ST (.slice A len cap) d p) :
    ∃ l : List Sp, len = l.length ∧ SpSrc w A l ∧ len ≤ cap ∧ cap ≤ maxLen := by
  obtain ⟨l, h1, h2, h3, h4⟩ := elems_in spZ (fun s : Sp => [.int .i64 s.1, .int .i64 s.2]) (k := 2) (fun _ => rfl) (by omega) hS hT.cells (fun fuel cs y hy => by
    obtain ⟨s, hs, _⟩ := two_nums hT hy
    exact ⟨s, hs⟩) h
  refine ⟨l, h1, fun hpos => ?_, h2, h3⟩
  obtain ⟨b, o, hA, hlt, hc⟩ := h4 (by omega)
  exact ⟨b, o, hA, hlt, fun i hi => ⟨hc i (by omega) 0 _ rfl, hc i (by omega) 1 _ rfl⟩⟩
end
end Go.Proofs.Ytnlkljmboifnkaa

/- A slice as an argument that came in, of elements whose cells are known: its elements, one by one. No conditions but those that stand in each lemma. -/
import Derived.Test.YtejcpfplmlpilaaRows
import Derived.OpenShut
import Derived.ChangeSame
import Derived.Deep.Slices
import Derived.Below
namespace Go.Proofs.Ytejcpfplmlpilaa
open Go.RowKit Go.ChangeShapes Go.WideShapes

section
variable {P : Program} {w : World} {base : Nat} {H : Type} {enc : TypeId × Value → H} {spare : Nat → Bool} {held : Bool}
theorem elem_addr (b o i : Nat) : (⟨b, o, none⟩ : Addr).add i = ⟨b, o + i, none⟩ := by unfold Addr.add; split <;> simp_all
/-- A choice for each of the first n. -/
theorem choice_list {α : Type} (n : Nat) (Q : Nat → α → Prop) (d : α) (h : ∀ i, i < n → ∃ a, Q i a) : ∃ l : List α, n = l.length ∧ ∀ i, i < n → Q i (l.getD i d) := by
  induction n with
  | zero => exact ⟨[], rfl, fun i hi => absurd hi (by omega)⟩
  | succ n ih =>
    obtain ⟨l, hl, hq⟩ := ih fun i hi => h i (by omega)
    obtain ⟨a, ha⟩ := h n (by omega)
    refine ⟨l ++ [a], by simp [hl], fun i hi => ?_⟩
    rcases Nat.lt_or_ge i n with h' | h'
    · have e : (l ++ [a]).getD i d = l.getD i d := by rw [List.getD_eq_getElem?_getD, List.getD_eq_getElem?_getD, List.getElem?_append_left (by omega)]
      rw [e]; exact hq i h'
    · obtain rfl : i = n := by omega
      have e : (l ++ [a]).getD i d = a := by rw [List.getD_eq_getElem?_getD, hl, List.getElem?_concat_length]; rfl
      rw [e]; exact ha
/-- A slice whose elements take k cells, all numbers: its elements, one by one. -/
theorem elems_in {ST E : TypeId} {k : Nat} {α : Type} (dflt : α) (cellsOf : α → List Value) (hlen : ∀ a, (cellsOf a).length = k) (hk : 0 < k) (hS : P.underlying ST = some (.slice E)) (hE : P.cellsOf E = k)
    (hel : ∀ (fuel : Nat) (cs : List Value) (y : DataW H × List MemPlace), DataW.trod enc P w base spare held fuel E cs = some y → ∃ a : α, cs = cellsOf a)
    {A : Option Addr} {len cap : Nat} {d : DataW H} {p : List MemPlace} (h : DataW.Trod enc P w base spare held ST (.slice A len cap) d p) :
    ∃ l : List α, len = l.length ∧ len ≤ cap ∧ cap ≤ maxLen ∧ (0 < len → ∃ b o, A = some ⟨b, o, none⟩ ∧ b < w.heap.size ∧ ∀ i, i < len → ∀ j v, (cellsOf (l.getD i dflt))[j]? = some v → w.cell? ⟨b, o + i * k + j, none⟩ = some v) := by
  obtain ⟨fuel, hf⟩ := h
  rcases Go.Deep.open_slice hS hf with ⟨hcs, _⟩ | ⟨a, len', cap', m, n, D, Pl, hcs, hb, hl, hm, hmm, hx, hi⟩
  · simp [Value.cells] at hcs
    obtain ⟨rfl, rfl, rfl⟩ := hcs
    exact ⟨[], rfl, Nat.le_refl _, by unfold maxLen; omega, fun h => absurd h (by omega)⟩
  · simp [Value.cells] at hcs
    obtain ⟨rfl, rfl, rfl⟩ := hcs
    rw [hE] at hi
    have hlm : len ≤ m := by rw [hmm]; split <;> omega
    have H1 : ∀ i, i < len → ∃ e : α, ∀ j v, (cellsOf e)[j]? = some v → w.cell? ((a.add (i * k)).add j) = some v := fun i hil => by
      obtain ⟨cs', hc, ht⟩ := hi i (by omega)
      obtain ⟨e, rfl⟩ := hel _ _ _ ht
      obtain ⟨_, hcl, hat⟩ := World.cells?_some hc
      refine ⟨e, fun j v hj => ?_⟩
      have hjk : j < k := by
        rcases Nat.lt_or_ge j k with h' | h'
        · exact h'
        · rw [List.getElem?_eq_none (by rw [hlen]; exact h')] at hj; cases hj
      rw [hat j hjk, hj]
    obtain ⟨l, hll, hq⟩ := choice_list len _ dflt H1
    refine ⟨l, hll, hl, hm, fun hpos => ?_⟩
    obtain ⟨b, off, spot⟩ := a
    have h0 : (cellsOf (l.getD 0 dflt))[0]? = some ((cellsOf (l.getD 0 dflt))[0]'(by rw [hlen]; exact hk)) := List.getElem?_eq_getElem _
    have hc0 := hq 0 hpos 0 _ h0
    have hspot : spot = none := by simpa [Addr.add] using World.cell?_spot hc0
    subst hspot
    refine ⟨b, off, rfl, by simpa [Addr.add] using World.block_lt_of_cell? w _ hc0, fun i hil j v hj => ?_⟩
    have := hq i hil j v hj
    rw [elem_addr, elem_addr] at this
    exact this
end
end Go.Proofs.Ytejcpfplmlpilaa

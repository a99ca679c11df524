/- A slice of arrays of two bytes that came in, as a list of numbers. No conditions but those that stand in each lemma. -/
import Derived.Test.YtehanjhgjbclhaaDisk
import Derived.OpenShut
import Derived.ChangeSame
import Derived.ProofKit
import Derived.Deep.Slices
namespace Go.Proofs.Ytehanjhgjbclhaa
open Go.RowKit Go.ChangeShapes Go.WideShapes

section
variable {P : Program} {w : World} {base : Nat} {H : Type} {enc : TypeId × Value → H} {spare : Nat → Bool} {held : Bool}
theorem trod_ints {t : TypeId} {n : Nat} {e : TypeId} {k : IntKind} {fuel : Nat} {cs : List Value} {x : DataW H × List MemPlace} (ht : P.underlying t = some (.array n e)) (he : P.underlying e = some (.int k)) (hc : P.cellsOf e = 1) (hn : P.cellsOf t = n)
    (h : DataW.trod enc P w base spare held fuel t cs = some x) : ∃ xs : List Int, xs.length = n ∧ cs = xs.map (Value.int k) ∧ ∀ y ∈ xs, (Lit.int k y).wf = true := by
  obtain ⟨ys, m, rfl, rfl, hlen, hn2, hel⟩ := DataW.trod_array ht h
  have hi : ∀ i, i < n → ∃ y, cs[i]? = some (.int k y) ∧ (Lit.int k y).wf = true := fun i hi => by
    have h1 := hel i hi
    have hys : i < ys.length := by omega
    rw [List.getElem?_eq_getElem hys, hc, Nat.mul_one] at h1
    obtain ⟨y, e1, _, e3⟩ := DataW.trod_int he h1
    refine ⟨y, ?_, e3⟩
    have e4 := congrArg (fun l => l[0]?) e1
    simpa [List.getElem?_take] using e4
  refine ⟨cs.map intOf, by rw [List.length_map, hlen, hn], ?_, fun y hy => ?_⟩
  · apply List.ext_getElem?
    intro i
    rw [List.getElem?_map, List.getElem?_map]
    rcases Nat.lt_or_ge i n with h' | h'
    · obtain ⟨y, hy, _⟩ := hi i h'
      rw [hy]
      rfl
    · rw [List.getElem?_eq_none (by omega)]
      rfl
  · obtain ⟨z, hz, rfl⟩ := List.mem_map.1 hy
    obtain ⟨i, hi2, rfl⟩ := List.getElem_of_mem hz
    obtain ⟨y, hy2, hw⟩ := hi i (by omega)
    rw [List.getElem?_eq_getElem hi2] at hy2
    rw [Option.some.inj hy2]
    exact hw
end
theorem Try.cells42 : Try.prog.cellsOf 42 = 2 := by kernel_rfl
theorem Try.cells5 : Try.prog.cellsOf 5 = 1 := by kernel_rfl
/-- The arrays' bytes, one behind the other. -/
theorem pairs_in {H : Type} {enc : TypeId × Value → H} {w : World} {base : Nat} {spare : Nat → Bool} {held : Bool} {d : DataW H} {p : List MemPlace} {A : Option Addr} {len cap : Nat} (h : DataW.Trod enc Try.prog w base spare held 40 (.slice A len cap) d p) :
    ∃ xs : List Int, xs.length = len * 2 ∧ Src .u8 w A xs ∧ len ≤ cap ∧ cap ≤ maxLen := by
  obtain ⟨fuel, hf⟩ := h
  rcases Deep.open_slice Try.underlying40 hf with ⟨hcs, _⟩ | ⟨a, l, c, m, n, D, Pl, hcs, _, hl, hm, hmm, _, hel⟩
  · simp [Value.cells] at hcs
    obtain ⟨rfl, rfl, rfl⟩ := hcs
    exact ⟨[], rfl, Src.none_, Nat.le_refl _, by unfold maxLen; omega⟩
  · simp [Value.cells] at hcs
    obtain ⟨rfl, rfl, rfl⟩ := hcs
    have hlm : len ≤ m := by rw [hmm]; split <;> omega
    have hc : ∀ i, i < len → ∀ j, j < 2 → ∃ x, w.cell? (a.add (i * 2 + j)) = some (.int .u8 x) := by
      intro i hi j hj
      obtain ⟨cs', h1, h2⟩ := hel i (by omega)
      rw [Try.cells42] at h1
      obtain ⟨xs, hx, hxc, _⟩ := trod_ints Try.underlying42 Try.underlying5 Try.cells5 Try.cells42 h2
      unfold World.cells? at h1
      split at h1
      · obtain ⟨x0, x1, rfl⟩ : ∃ x0 x1, xs = [x0, x1] := by
          match xs, hx with
          | [x0, x1], _ => exact ⟨x0, x1, rfl⟩
        subst hxc
        rw [show List.range 2 = [0, 1] from rfl] at h1
        simp only [List.mapM_cons, List.mapM_nil, bind, Option.bind_eq_some_iff, pure] at h1
        obtain ⟨v0, e0, r, ⟨v1, e1, r1, er1, er⟩, ee⟩ := h1
        rw [Deep.add_add] at e0 e1
        have ee' := ee
        injection ee' with ee'
        injection er with er
        injection er1 with er1
        subst er1
        subst er
        injection ee' with a1 a2
        injection a2 with a2 _
        subst a1
        subst a2
        have : j = 0 ∨ j = 1 := by omega
        rcases this with rfl | rfl
        · exact ⟨_, e0⟩
        · exact ⟨_, e1⟩
      · cases h1
    refine ⟨(List.range (len * 2)).map fun q => (match w.cell? (a.add q) with | some (.int _ x) => x | _ => 0), by rw [List.length_map, List.length_range], fun hp => ?_, hl, hm⟩
    rw [List.length_map, List.length_range] at hp
    obtain ⟨b, off, spot⟩ := a
    obtain ⟨x0, hx0⟩ := hc 0 (by omega) 0 (by decide)
    have hspot : spot = none := by simpa [Addr.add] using World.cell?_spot hx0
    subst hspot
    refine ⟨b, off, rfl, by simpa [Addr.add] using World.block_lt_of_cell? w _ hx0, fun i hi => ?_⟩
    rw [List.length_map, List.length_range] at hi
    have hadd : (⟨b, off, none⟩ : Addr).add i = ⟨b, off + i, none⟩ := by unfold Addr.add; split <;> simp_all
    obtain ⟨x, hx⟩ := hc (i / 2) (by omega) (i % 2) (by omega)
    rw [show i / 2 * 2 + i % 2 = i by omega, hadd] at hx
    rw [List.getD_eq_getElem?_getD, List.getElem?_map, List.getElem?_range hi]
    simp only [Option.map_some, Option.getD_some, hadd, hx]
end Go.Proofs.Ytehanjhgjbclhaa

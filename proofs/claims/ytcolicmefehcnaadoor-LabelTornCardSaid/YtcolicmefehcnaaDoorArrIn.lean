/- An array of numbers as an argument by value, as it came in. No conditions but those that stand in each lemma. -/
import Derived.Test.YtcolicmefehcnaaDoorPtrOpen
namespace Go.Proofs.YtcolicmefehcnaaDoor
open Go.RowKit Go.ChangeShapes Go.WideShapes

section
variable {P : Program} {w : World} {r : Reach} {base : Nat} {t : TypeId} {v : Value}
theorem okWide_array {n : Nat} {e : TypeId} (ht : P.underlying t = some (.array n e)) (h : Value.okWide P w r base t v) : ∃ cs, v = .agg cs ∧ cs.size = P.cellsOf t := by
  simp only [Value.okWide, ht] at h
  obtain ⟨cs, h1, h2, _⟩ := h
  exact ⟨cs, h1, h2⟩
variable {H : Type} {enc : TypeId × Value → H} {spare : Nat → Bool} {held : Bool} {d : DataW H} {p : List MemPlace} {cs : Array Value}
theorem ints_in {n : Nat} {e : TypeId} {k : IntKind} (ht : P.underlying t = some (.array n e)) (he : P.underlying e = some (.int k)) (hc : P.cellsOf e = 1) (hn : P.cellsOf t = n) (h : DataW.Trod enc P w base spare held t (.agg cs) d p) :
    ∃ xs : List Int, xs.length = n ∧ cs = (xs.map (Value.int k)).toArray ∧ ∀ y ∈ xs, (Lit.int k y).wf = true := by
  obtain ⟨fuel, hf⟩ := h
  obtain ⟨xs, hl, hx, hw⟩ := trod_ints ht he hc hn hf
  refine ⟨xs, hl, ?_, hw⟩
  apply Array.ext'
  exact hx
/-- Two of them. -/
theorem two_in {e : TypeId} {k : IntKind} (ht : P.underlying t = some (.array 2 e)) (he : P.underlying e = some (.int k)) (hc : P.cellsOf e = 1) (hn : P.cellsOf t = 2) (h : DataW.Trod enc P w base spare held t (.agg cs) d p) :
    ∃ x y : Int, cs = #[.int k x, .int k y] ∧ (Lit.int k x).wf = true ∧ (Lit.int k y).wf = true := by
  obtain ⟨xs, hl, hx, hw⟩ := ints_in ht he hc hn h
  match xs, hl with
  | [x, y], _ => exact ⟨x, y, hx, hw x (by simp), hw y (by simp)⟩
end
end Go.Proofs.YtcolicmefehcnaaDoor

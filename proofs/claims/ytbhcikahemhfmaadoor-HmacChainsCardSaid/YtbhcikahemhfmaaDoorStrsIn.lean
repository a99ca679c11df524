/- A slice of texts as an argument that came in. No conditions but those that stand in each lemma. -/
import Derived.Test.YtbhcikahemhfmaaDoorElems
import Derived.Test.YtbhcikahemhfmaaDoorHmChain
namespace Go.Proofs.YtbhcikahemhfmaaDoor.Sha3.Hm
open Go.RowKit Go.ChangeShapes Go.WideShapes

section
variable {P : Program} {w : World} {base : Nat} {H : Type} {enc : TypeId × Value → H} {spare : Nat → Bool} {held : Bool}
theorem strs_in {ST S : TypeId} (hI : P.underlying S = some .string) (hc : P.cellsOf S = 1) (hS : P.underlying ST = some (.slice S)) {A : Option Addr} {len cap : Nat} {d : DataW H} {p : List MemPlace} (h : DataW.Trod enc P w base spare held ST (.slice A len cap) d p) :
    ∃ l : List ByteArray, len = l.length ∧ StrSrc w A l ∧ len ≤ cap ∧ cap ≤ maxLen := by
  obtain ⟨l, h1, h2, h3, h4⟩ := elems_in (⟨#[]⟩ : ByteArray) (fun x : ByteArray => [.string x]) (k := 1) (fun _ => rfl) (by omega) hS hc (fun fuel cs y hy => by
    obtain ⟨n, e, _, _⟩ := DataW.trod_string hI hy
    exact ⟨n, e⟩) h
  refine ⟨l, h1, fun hpos => ?_, h2, h3⟩
  obtain ⟨b, o, hA, hlt, hcell⟩ := h4 (by omega)
  refine ⟨b, o, hA, hlt, fun i hi => ?_⟩
  have := hcell i (by omega) 0 _ rfl
  simpa using this
end
end Go.Proofs.YtbhcikahemhfmaaDoor.Sha3.Hm

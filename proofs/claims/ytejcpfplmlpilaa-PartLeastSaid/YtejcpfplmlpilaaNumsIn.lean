/- A slice of ints as an argument, as it came in. No conditions but those that stand in each lemma. -/
import Derived.Test.YtejcpfplmlpilaaRowsIn
namespace Go.Proofs.Ytejcpfplmlpilaa
open Go.RowKit Go.ChangeShapes Go.WideShapes

/-- The slice with address A holds the numbers l; where there are none, nothing is said of A. -/
def NumSrc (w : World) (A : Option Addr) (l : List Int) : Prop :=
  0 < l.length → ∃ b o, A = some ⟨b, o, none⟩ ∧ b < w.heap.size ∧ ∀ i, i < l.length → w.cell? ⟨b, o + i, none⟩ = some (.int .i64 (l.getD i 0))
theorem NumSrc.keepB {w w' : World} {A : Option Addr} {l : List Int} (h : NumSrc w A l) (hb : Below w.heap.size w w') : NumSrc w' A l := fun hn => by
  obtain ⟨b, o, rfl, hlt, hc⟩ := h hn
  exact ⟨b, o, rfl, by have := hb.size; omega, fun i hi => (hb.cell (p := ⟨b, o + i, none⟩) hlt).trans (hc i hi)⟩
section
variable {P : Program} {w : World} {base : Nat} {H : Type} {enc : TypeId × Value → H} {spare : Nat → Bool} {held : Bool}
theorem nums_in {ST I : TypeId} (hI : P.underlying I = some (.int .i64)) (hc : P.cellsOf I = 1) (hS : P.underlying ST = some (.slice I)) {A : Option Addr} {len cap : Nat} {d : DataW H} {p : List MemPlace} (h : DataW.Trod enc P w base spare held ST (.slice A len cap) d p) :
    ∃ l : List Int, len = l.length ∧ NumSrc w A l ∧ len ≤ cap ∧ cap ≤ maxLen := by
  obtain ⟨l, h1, h2, h3, h4⟩ := elems_in (0 : Int) (fun x : Int => [.int .i64 x]) (k := 1) (fun _ => rfl) (by omega) hS hc (fun fuel cs y hy => by
    obtain ⟨n, e, _, _⟩ := DataW.trod_int hI hy
    exact ⟨n, e⟩) h
  refine ⟨l, h1, fun hpos => ?_, h2, h3⟩
  obtain ⟨b, o, hA, hlt, hcell⟩ := h4 (by omega)
  refine ⟨b, o, hA, hlt, fun i hi => ?_⟩
  have := hcell i (by omega) 0 _ rfl
  simpa using this
end
end Go.Proofs.Ytejcpfplmlpilaa

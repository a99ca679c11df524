/- Slices of slices of bytes, and of pointers, as arguments that came in. No conditions but those that stand in each lemma. -/
import Derived.Test.YtnoofmdhhlcbkaaElems
import Derived.Test.YtnoofmdhhlcbkaaPtsSrc
import Derived.Test.YtnoofmdhhlcbkaaPtrOpen
namespace Go.Proofs.Ytnoofmdhhlcbkaa
open Go.RowKit Go.ChangeShapes Go.WideShapes
namespace Els

section
variable {P : Program} {w : World} {base : Nat} {H : Type} {enc : TypeId × Value → H} {spare : Nat → Bool} {held : Bool}
/-- What the laws ask of a slice of bytes. -/
structure ByteRow (P : Program) (BT U : TypeId) : Prop where
  slice : P.underlying BT = some (.slice U)
  int : P.underlying U = some (.int .u8)
  one : P.cellsOf U = 1
theorem bytes_in {BT U : TypeId} (hB : ByteRow P BT U) {A : Option Addr} {len cap : Nat} {d : DataW H} {p : List MemPlace} (h : DataW.Trod enc P w base spare held BT (.slice A len cap) d p) :
    ∃ xs : List Int, len = xs.length ∧ Src .u8 w A xs ∧ len ≤ cap ∧ cap ≤ maxLen ∧ IsBytes xs := by
  obtain ⟨l, h1, h2, h3, h4⟩ := elems_in (α := { x : Int // 0 ≤ x ∧ x < 256 }) ⟨0, by omega, by omega⟩ (fun x => [.int .u8 x.1]) (k := 1) (fun _ => rfl) (by omega) hB.slice hB.one (fun fuel cs y hy => by
    obtain ⟨n, e, _, hw⟩ := DataW.trod_int hB.int hy
    exact ⟨⟨n, by have := bounds_u8 hw; omega⟩, e⟩) h
  refine ⟨l.map Subtype.val, by simpa using h1, fun hpos => ?_, h2, h3, fun x hx => ?_⟩
  · obtain ⟨b, o, hA, hlt, hcell⟩ := h4 (by simpa [h1] using hpos)
    refine ⟨b, o, hA, hlt, fun i hi => ?_⟩
    have hi' : i < len := by simpa [h1] using hi
    have e : (l.map Subtype.val).getD i 0 = (l.getD i ⟨0, by omega, by omega⟩).1 := by
      rw [List.getD_eq_getElem?_getD, List.getD_eq_getElem?_getD, List.getElem?_map, List.getElem?_eq_getElem (by omega)]; rfl
    rw [e]
    simpa using hcell i hi' 0 _ rfl
  · obtain ⟨s, _, rfl⟩ := List.mem_map.1 hx
    exact s.2
/-- One slice of bytes among others. -/
theorem bb_in {BT U : TypeId} (hB : ByteRow P BT U) {fuel : Nat} {cs : List Value} {y : DataW H × List MemPlace} (h : DataW.trod enc P w base spare held fuel BT cs = some y) : ∃ v xs, cs = [v] ∧ BB w v xs ∧ IsBytes xs := by
  obtain ⟨d, p⟩ := y
  rcases Go.Deep.open_slice hB.slice h with ⟨hcs, _⟩ | ⟨a, len, cap, m, n, D, Pl, hcs, _⟩
  · exact ⟨_, [], hcs, BB.nil w, fun x hx => by cases hx⟩
  · subst hcs
    obtain ⟨xs, e1, e2, e3, e4, e5⟩ := bytes_in hB (A := some a) (len := len) (cap := cap) ⟨fuel, h⟩
    subst e1
    exact ⟨_, xs, rfl, ⟨_, _, rfl, e2, e3, e4⟩, e5⟩
/-- A slice of slices of bytes. -/
theorem bbs_in {ST BT U : TypeId} (hB : ByteRow P BT U) (hS : P.underlying ST = some (.slice BT)) (hc : P.cellsOf BT = 1) {A : Option Addr} {len cap : Nat} {d : DataW H} {p : List MemPlace} (h : DataW.Trod enc P w base spare held ST (.slice A len cap) d p) :
    ∃ (cs : List Value) (ls : List (List Int)), len = ls.length ∧ CSrc w A cs ∧ BBs w cs ls ∧ len ≤ cap ∧ cap ≤ maxLen ∧ ∀ l ∈ ls, IsBytes l := by
  obtain ⟨l, h1, h2, h3, h4⟩ := elems_in (α := { x : Value × List Int // BB w x.1 x.2 ∧ IsBytes x.2 }) ⟨(.slice none 0 0, []), BB.nil w, fun x hx => by cases hx⟩ (fun x => [x.1.1]) (k := 1) (fun _ => rfl) (by omega) hS hc (fun fuel cs y hy => by
    obtain ⟨v, xs, e, hb, hx⟩ := bb_in hB hy
    exact ⟨⟨(v, xs), hb, hx⟩, e⟩) h
  refine ⟨l.map (fun x => x.1.1), l.map (fun x => x.1.2), by simpa using h1, fun hpos => ?_, ⟨by simp, fun i hi => ?_⟩, h2, h3, fun x hx => ?_⟩
  · obtain ⟨b, o, hA, hlt, hcell⟩ := h4 (by simpa [h1] using hpos)
    refine ⟨b, o, hA, hlt, fun j u hu => ?_⟩
    rw [List.getElem?_map] at hu
    have hj : j < l.length := by
      rcases Nat.lt_or_ge j l.length with h' | h'
      · exact h'
      · rw [List.getElem?_eq_none h'] at hu; cases hu
    rw [List.getElem?_eq_getElem hj] at hu
    have := hcell j (by omega) 0 _ rfl
    rw [List.getD_eq_getElem?_getD, List.getElem?_eq_getElem hj] at this
    simp only [Option.map_some, Option.some.injEq] at hu
    subst hu
    simpa using this
  · have hi' : i < l.length := by simpa using hi
    refine ⟨(l[i]).1.1, by rw [List.getElem?_map, List.getElem?_eq_getElem hi']; rfl, ?_⟩
    rw [List.getD_eq_getElem?_getD, List.getElem?_map, List.getElem?_eq_getElem hi']
    exact (l[i]).2.1
  · obtain ⟨s, _, rfl⟩ := List.mem_map.1 hx
    exact s.2.2
end
section
variable {w : World} {base : Nat} {H : Type} {enc : TypeId × Value → H} {spare : Nat → Bool} {held : Bool}
/-- A slice of pointers. -/
theorem pts_in {ST : TypeId} (hS : Try.prog.underlying ST = some (.slice 43)) {A : Option Addr} {len cap : Nat} {d : DataW H} {p : List MemPlace} (h : DataW.Trod enc Try.prog w base spare held ST (.slice A len cap) d p) :
    ∃ ps : List Pt, len = ps.length ∧ PSrc w A ps ∧ len ≤ cap ∧ cap ≤ maxLen ∧ ∀ q ∈ ps, q.Ok := by
  obtain ⟨l, h1, h2, h3, h4⟩ := elems_in (α := { q : Pt // q.Ok }) ⟨Pt.zero, Pt.zero_ok⟩ (fun x => (pcells x.1).toList) (k := 36) (fun x => pcells_36 x.2.shaL) (by omega) hS Try.cellsP (fun fuel cs y hy => by
    obtain ⟨d, p⟩ := y
    obtain ⟨q, hq, e⟩ := pt_in (cs := cs.toArray) ⟨fuel, hy⟩
    exact ⟨⟨q, hq⟩, by show cs = (pcells q).toList; rw [← e]⟩) h
  refine ⟨l.map Subtype.val, by simpa using h1, fun hpos => ?_, h2, h3, fun x hx => ?_⟩
  · obtain ⟨b, o, hA, hlt, hcell⟩ := h4 (by simpa [h1] using hpos)
    refine ⟨b, o, hA, hlt, fun i hi j v hv => hcell i (by simpa [h1] using hi) j v ?_⟩
    have hi' : i < l.length := by simpa using hi
    have e : (l.map Subtype.val).getD i Pt.zero = (l.getD i ⟨Pt.zero, Pt.zero_ok⟩).1 := by
      rw [List.getD_eq_getElem?_getD, List.getD_eq_getElem?_getD, List.getElem?_map, List.getElem?_eq_getElem hi']; rfl
    rw [e] at hv
    rw [Array.getElem?_toList]
    exact hv
  · obtain ⟨s, _, rfl⟩ := List.mem_map.1 hx
    exact s.2
end
end Els
end Go.Proofs.Ytnoofmdhhlcbkaa

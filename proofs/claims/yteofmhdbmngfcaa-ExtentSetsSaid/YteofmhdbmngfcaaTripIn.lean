/- A slice of arrays of three numbers as an argument, as it came in. No conditions but those that stand in each lemma. -/
import Derived.Test.YteofmhdbmngfcaaRowsIn
namespace Go.Proofs.Yteofmhdbmngfcaa
open Go.RowKit Go.ChangeShapes Go.WideShapes

abbrev T3 := Int × Int × Int
def t3Z : T3 := (0, 0, 0)
def t3Ok (t : T3) : Prop := (Lit.int .i64 t.1).wf = true ∧ (Lit.int .i64 t.2.1).wf = true ∧ (Lit.int .i64 t.2.2).wf = true
/-- The slice with address A holds the threes l; where there are none, nothing is said of A. -/
def T3Src (w : World) (A : Option Addr) (l : List T3) : Prop :=
  0 < l.length → ∃ b o, A = some ⟨b, o, none⟩ ∧ b < w.heap.size ∧ ∀ i, i < l.length →
    w.cell? ⟨b, o + i * 3, none⟩ = some (.int .i64 (l.getD i t3Z).1) ∧ w.cell? ⟨b, o + i * 3 + 1, none⟩ = some (.int .i64 (l.getD i t3Z).2.1) ∧ w.cell? ⟨b, o + i * 3 + 2, none⟩ = some (.int .i64 (l.getD i t3Z).2.2)
theorem T3Src.keep {w w' : World} {A : Option Addr} {l : List T3} (h : T3Src w A l) (hb : Below w.heap.size w w') : T3Src w' A l := fun hn => by
  obtain ⟨b, o, rfl, hlt, hc⟩ := h hn
  exact ⟨b, o, rfl, by have := hb.size; omega, fun i hi => ⟨(hb.cell (p := ⟨b, o + i * 3, none⟩) hlt).trans (hc i hi).1, (hb.cell (p := ⟨b, o + i * 3 + 1, none⟩) hlt).trans (hc i hi).2.1, (hb.cell (p := ⟨b, o + i * 3 + 2, none⟩) hlt).trans (hc i hi).2.2⟩⟩

section
variable {P : Program} {w : World} {base : Nat} {H : Type} {enc : TypeId × Value → H} {spare : Nat → Bool} {held : Bool}
/-- One array of three numbers. -/
theorem t3_nums {E I : TypeId} {fuel : Nat} {cs : List Value} {y : DataW H × List MemPlace} (hE : P.underlying E = some (.array 3 I)) (hI : P.underlying I = some (.int .i64)) (hc : P.cellsOf I = 1) (hn : P.cellsOf E = 3)
    (h : DataW.trod enc P w base spare held fuel E cs = some y) : ∃ t : { t : T3 // t3Ok t }, cs = [.int .i64 t.1.1, .int .i64 t.1.2.1, .int .i64 t.1.2.2] := by
  obtain ⟨ys, m, rfl, rfl, hlen, hn2, hel⟩ := DataW.trod_array hE h
  rw [hn] at hlen
  match cs, hlen with
  | [a, b, c], _ =>
    have get : ∀ j : Nat, j < 3 → ∃ z, DataW.trod enc P w base spare held m I (([a, b, c].drop j).take 1) = some z := fun j hj => by
      have h1 := hel j hj
      rw [List.getElem?_eq_getElem (show j < ys.length by omega), hc, Nat.mul_one] at h1
      exact ⟨_, h1⟩
    obtain ⟨z0, h0⟩ := get 0 (by omega)
    obtain ⟨z1, h1⟩ := get 1 (by omega)
    obtain ⟨z2, h2⟩ := get 2 (by omega)
    obtain ⟨x, rfl, hx⟩ := part_num (j := 0) hI rfl h0
    obtain ⟨y, rfl, hy⟩ := part_num (cs := [.int .i64 x, b, c]) (j := 1) hI rfl h1
    obtain ⟨z, rfl, hz⟩ := part_num (cs := [.int .i64 x, .int .i64 y, c]) (j := 2) hI rfl h2
    exact ⟨⟨(x, y, z), hx, hy, hz⟩, rfl⟩
theorem t3_in {ST E I : TypeId} (hE : P.underlying E = some (.array 3 I)) (hI : P.underlying I = some (.int .i64)) (hc : P.cellsOf I = 1) (hn : P.cellsOf E = 3) (hS : P.underlying ST = some (.slice E))
    {A : Option Addr} {len cap : Nat} {d : DataW H} {p : List MemPlace} (h : DataW.Trod enc P w base spare held ST (.slice A len cap) d p) :
    ∃ l : List T3, len = l.length ∧ T3Src w A l ∧ len ≤ cap ∧ cap ≤ maxLen ∧ ∀ t ∈ l, t3Ok t := by
  obtain ⟨l, h1, h2, h3, h4⟩ := elems_in (α := { t : T3 // t3Ok t }) ⟨t3Z, rfl, rfl, rfl⟩ (fun s => [.int .i64 s.1.1, .int .i64 s.1.2.1, .int .i64 s.1.2.2]) (k := 3) (fun _ => rfl) (by omega) hS hn (fun fuel cs y hy => t3_nums hE hI hc hn hy) h
  have hget : ∀ i, i < l.length → (l.map Subtype.val).getD i t3Z = (l.getD i ⟨t3Z, rfl, rfl, rfl⟩).1 := fun i hi => by
    rw [List.getD_eq_getElem?_getD, List.getD_eq_getElem?_getD, List.getElem?_map, List.getElem?_eq_getElem hi]; rfl
  refine ⟨l.map Subtype.val, by simpa using h1, fun hpos => ?_, h2, h3, fun t ht => ?_⟩
  · obtain ⟨b, o, hA, hlt, hcell⟩ := h4 (by simpa [h1] using hpos)
    refine ⟨b, o, hA, hlt, fun i hi => ?_⟩
    have hi' : i < len := by simpa [h1] using hi
    rw [hget i (by omega)]
    exact ⟨hcell i hi' 0 _ rfl, hcell i hi' 1 _ rfl, hcell i hi' 2 _ rfl⟩
  · obtain ⟨s, _, rfl⟩ := List.mem_map.1 ht
    exact s.2
end
end Go.Proofs.Yteofmhdbmngfcaa

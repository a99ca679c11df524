/- A literal row as a source; Cut of a row of one size. No conditions but those that stand in each lemma. -/
import Derived.Test.YtejcpfplmlpilaaPartCut
namespace Go.Proofs.Ytejcpfplmlpilaa
open Go.RowKit
namespace Part

theorem getD_all {P : Int → Prop} (h0 : P 0) (l : List Int) (h : ∀ x ∈ l, P x) (i : Nat) : P (l.getD i 0) := by
  rw [List.getD_eq_getElem?_getD]
  cases e : l[i]? with
  | none => exact h0
  | some x => exact h x (List.mem_of_getElem? e)
/-- A row of one size. -/
theorem cut_one {r : List Int} (h : CutIs [1] 1 r) : r.length = 1 := by
  rcases h with ⟨h, _⟩ | ⟨_, b, _, rfl⟩
  · exact absurd ⟨by decide, by decide, by decide, by decide, fun i => getD_all (P := fun x => 0 ≤ x ∧ x ≤ 1) (by decide) _ (by decide) i⟩ h
  · rfl
theorem row_nums {w : World} {g : Nat} {cs : Array Value} {l : List Int} (h : Row w g 3 cs) (hc : cs.toList = iCells l) : NumSrc w (some ⟨g, 0, none⟩) l := fun _ => ⟨g, 0, rfl, h.lt, fun i hi => by
  rw [Nat.zero_add]
  refine h.cell ?_
  rw [← Array.getElem?_toList, hc]
  exact iCells_at l i hi⟩
theorem ends_le (b : Int) (l : List Int) (m : Nat) : (natI (ends b l m)).length ≤ m + 1 := by
  have h5 := (st_gst b l m).1
  have h6 := st_few (gcut b l) l m
  rw [ends_count]; omega
theorem CutIs.short {l r : List Int} {most : Int} (h : CutIs l most r) : r.length ≤ 65536 := by
  rcases h with ⟨_, rfl⟩ | ⟨hf, b, _, rfl⟩
  · exact Nat.zero_le _
  · have := ends_le b l (l.length - 1)
    have := hf.len
    omega

end Part
end Go.Proofs.Ytejcpfplmlpilaa

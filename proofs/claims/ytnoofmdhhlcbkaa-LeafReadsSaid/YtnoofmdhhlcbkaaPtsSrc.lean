/- A slice of pointers in memory, as a list of pointers; as cells one behind the other. No conditions but those that stand in each lemma. -/
import Derived.Test.YtnoofmdhhlcbkaaPtr
import Derived.Test.YtnoofmdhhlcbkaaEls
namespace Go.Proofs.Ytnoofmdhhlcbkaa
open Go.RowKit
namespace Els

/-- The slice with address A holds these pointers. -/
def PSrc (w : World) (A : Option Addr) (ps : List Pt) : Prop :=
  0 < ps.length → ∃ b o, A = some ⟨b, o, none⟩ ∧ b < w.heap.size ∧ ∀ i, i < ps.length → ∀ j v, (pcells (ps.getD i Pt.zero))[j]? = some v → w.cell? ⟨b, o + i * 36 + j, none⟩ = some v
theorem PSrc.keep {w w' : World} {A : Option Addr} {ps : List Pt} (h : PSrc w A ps) (hb : Below w.heap.size w w') : PSrc w' A ps := fun hn => by
  obtain ⟨b, o, hA, hlt, hc⟩ := h hn
  exact ⟨b, o, hA, Nat.lt_of_lt_of_le hlt hb.size, fun i hi j v hv => (hb.cell (p := ⟨b, o + i * 36 + j, none⟩) hlt).trans (hc i hi j v hv)⟩
theorem PSrc.none_ {w : World} {A : Option Addr} : PSrc w A [] := fun h => absurd h (by simp)
/-- Pointers' cells, one behind the other. -/
def pflat (ps : List Pt) : List Value := ps.flatMap fun p => (pcells p).toList
theorem pflat_snoc (ps : List Pt) (p : Pt) : pflat (ps ++ [p]) = pflat ps ++ (pcells p).toList := by unfold pflat; rw [List.flatMap_append]; simp
theorem pcells_36 {p : Pt} (h : p.sha.length = 32) : (pcells p).toList.length = 36 := by show (pcells p).size = 36; rw [pcells_size, h]
theorem pflat_length : ∀ (ps : List Pt), (∀ p ∈ ps, p.sha.length = 32) → (pflat ps).length = ps.length * 36
  | [], _ => rfl
  | p :: ps, h => by
    have := pflat_length ps fun q hq => h q (List.mem_cons_of_mem _ hq)
    show ((pcells p).toList ++ pflat ps).length = _
    rw [List.length_append, pcells_36 (h p (List.mem_cons_self ..)), this, List.length_cons]
    omega
theorem pflat_at : ∀ (ps : List Pt), (∀ p ∈ ps, p.sha.length = 32) → ∀ i, i < ps.length → ∀ j v, (pcells (ps.getD i Pt.zero))[j]? = some v → (pflat ps)[i * 36 + j]? = some v
  | [], _, i, hi, _, _, _ => absurd hi (by simp)
  | p :: ps, h, 0, _, j, v, hv => by
    have e : (pcells p).toList[j]? = some v := by rw [Array.getElem?_toList]; exact hv
    have hj : j < (pcells p).toList.length := (List.getElem?_eq_some_iff.1 e).1
    show ((pcells p).toList ++ pflat ps)[0 * 36 + j]? = _
    rw [Nat.zero_mul, Nat.zero_add, List.getElem?_append_left hj]
    exact e
  | p :: ps, h, i + 1, hi, j, v, hv => by
    have e := pcells_36 (h p (List.mem_cons_self ..))
    show ((pcells p).toList ++ pflat ps)[(i + 1) * 36 + j]? = _
    rw [List.getElem?_append_right (by rw [e]; omega), e, show (i + 1) * 36 + j - 36 = i * 36 + j by omega]
    exact pflat_at ps (fun q hq => h q (List.mem_cons_of_mem _ hq)) i (by simpa using hi) j v hv
theorem PSrc.ofCells {w : World} {A : Option Addr} {ps : List Pt} (h : CSrc w A (pflat ps)) (hp : ∀ p ∈ ps, p.sha.length = 32) : PSrc w A ps := fun hn => by
  obtain ⟨b, o, hA, hlt, hc⟩ := h (by rw [pflat_length ps hp]; omega)
  refine ⟨b, o, hA, hlt, fun i hi j v hv => ?_⟩
  rw [Nat.add_assoc]
  exact hc _ _ (pflat_at ps hp i hi j v hv)
theorem pcells_ones (p : Pt) : ∀ u ∈ (pcells p).toList, u.oneCell' = true := fun u hu => by
  have := pcells_one p
  rw [Array.all_eq_true'] at this
  exact this u (by simpa using hu)
end Els
end Go.Proofs.Ytnoofmdhhlcbkaa

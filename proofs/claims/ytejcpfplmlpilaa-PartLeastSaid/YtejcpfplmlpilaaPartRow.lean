/- What the laws of part share: a cut's ends rise, its greatest piece is the least bound, a row is made number by number. No conditions but those that stand in each lemma. -/
import Derived.Test.YtejcpfplmlpilaaPartOnes
import Derived.Test.YtejcpfplmlpilaaPartGreat
import Derived.Test.YtejcpfplmlpilaaMask
namespace Go.Proofs.Ytejcpfplmlpilaa
open Go.RowKit
namespace Part

/-- The ends of the greedy way rise to the last one. -/
theorem prev_nat (es : List Nat) (k : Nat) : prevE (natI es) k = (prev es k : Nat) := by
  unfold prevE prev
  split
  · rfl
  · rw [natI_at]
theorem rise_ends {b : Int} {l : List Int} (h : Sized l b) (m : Nat) : RiseP (natI (ends b l m)) (m + 1) := by
  refine ⟨fun i hi => ?_, ?_⟩
  · rw [natI_length] at hi
    rw [prev_nat, natI_at]
    have := (ends_pieces b l h.top m i hi).1
    omega
  · rw [natI_length, prev_nat]
    have hpos : 0 < (ends b l m).length := by unfold ends; rw [List.length_append]; simp
    have := (ends_pieces b l h.top m ((ends b l m).length - 1) (by omega)).2.2.2.2 (by omega)
    unfold prev
    rw [if_neg (by omega), this]
/-- A cut's greatest piece is the least bound. -/
theorem top_cut {l : List Int} {m : Nat} {most b t : Int} (hm : l.length = m + 1) (hz : Sized l 1073741824) (hb : Least l m most b) (hT : TopIs l (natI (ends b l m)) t) : t = b := by
  have hs : Sized l b := fun i => ⟨(hz i).1, hb.each i⟩
  have hr : RiseP (natI (ends b l m)) l.length := by rw [hm]; exact rise_ends hs m
  rcases hT with ⟨h, _⟩ | ⟨_, _, rfl⟩
  · exact absurd ⟨hr, hz⟩ h
  · rw [hm, top_nat, hb.topOf hs.pos hm]
/-- At a round's head, of the loop that makes the row: numbers from 0 to so much. -/
def RowAt (w : World) (n : Nat) (mo : Int) (lv iv : Value) (wr : World) : Prop :=
  ∃ (k : Nat) (L : List Int) (A2 : Option Addr) (c2 : Nat), k ≤ n ∧ iv = .int .i64 (k : Int) ∧ lv = .slice A2 k c2 ∧ IOwn wr w.heap.size A2 c2 k L ∧ (∀ x ∈ L, 0 ≤ x ∧ x ≤ mo) ∧ Below w.heap.size w wr
theorem NumSrc.take {w : World} {A : Option Addr} {l : List Int} (h : NumSrc w A l) (j : Nat) : NumSrc w A (l.take j) := fun hn => by
  rw [List.length_take] at hn
  obtain ⟨b, o, hA, hlt, hc⟩ := h (by omega)
  refine ⟨b, o, hA, hlt, fun i hi => ?_⟩
  rw [List.length_take] at hi
  rw [hc i (by omega), List.getD_eq_getElem?_getD, List.getD_eq_getElem?_getD, List.getElem?_take, if_pos (by omega)]
theorem row_more {L : List Int} {mo v : Int} (h : ∀ x ∈ L, 0 ≤ x ∧ x ≤ mo) (h0 : 0 ≤ v) (h1 : v ≤ mo) : ∀ x ∈ L ++ [v], 0 ≤ x ∧ x ≤ mo := fun x hx => by
  rcases List.mem_append.1 hx with h' | h'
  · exact h x h'
  · obtain rfl := List.mem_singleton.1 h'
    exact ⟨h0, h1⟩
theorem sized_mem {L : List Int} {mo : Int} (h : ∀ x ∈ L, 0 ≤ x ∧ x ≤ mo) (h0 : 0 ≤ mo) : Sized L mo := fun i => getD_all (P := fun x => 0 ≤ x ∧ x ≤ mo) ⟨Int.le_refl _, h0⟩ L h i
end Part
end Go.Proofs.Ytejcpfplmlpilaa

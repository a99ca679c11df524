/- What an alloc says of a span: is it of its sectors. No conditions but those that stand in each lemma. -/
import Derived.Test.YtnlkljmboifnkaaAlRow
namespace Go.Proofs.Ytnlkljmboifnkaa
open Go.RowKit Go.Maps

def alWithin (s : AlS) (t : Sp) : Bool := decide (s.lo ≤ t.1 ∧ t.1 < t.2 ∧ t.2 ≤ s.hi)
/-- The error that a span of sectors has. -/
def alWithinE (s : AlS) (t : Sp) : Int := if alWithin s t then 0 else 2
theorem alWithinE_yes {s : AlS} {t : Sp} (h : alWithin s t = true) : alWithinE s t = 0 := by unfold alWithinE; rw [if_pos h]
theorem alWithinE_no {s : AlS} {t : Sp} (h : alWithin s t = false) : alWithinE s t = 2 := by unfold alWithinE; rw [if_neg (by rw [h]; simp)]
set_option maxHeartbeats 4000000 in
theorem alloc_within {w : World} {p m k : Nat} {s : AlS} {F S : SlV} {o : Option SlV} (h : AlAt w p m k s F S o) (x y : Int) :
    Calls Try.prog 25 #[.pointer (some ⟨p, 0, none⟩), .agg #[.int .i64 x, .int .i64 y]] w fun e w' => e = .returned (.int .i64 (alWithinE s (x, y))) ∧ Below w.heap.size w w' := by
  have hk : Below w.heap.size w (w.alloc (.cells #[.int .i64 x, .int .i64 y] 23)) := (Below.refl _ _).alloc (Nat.le_refl _) _
  have HA := Lib.hid (h.keep hk)
  have hlt := h.ltP
  have c0 := (h.keep hk).c0
  have c1 := (h.keep hk).c1
  have HE := Lib.hid (show (alWithin s (x, y) = true → alWithinE s (x, y) = 0) ∧ (alWithin s (x, y) = false → alWithinE s (x, y) = 2) from ⟨alWithinE_yes, alWithinE_no⟩)
  have HD : Hid (alWithin s (x, y) = decide (s.lo ≤ x ∧ x < y ∧ y ≤ s.hi)) := Lib.hid rfl
  generalize alWithinE s (x, y) = E at *
  generalize alWithin s (x, y) = D at *
  generalize s.lo = lo at *
  generalize s.hi = hi at *
  clear hk h
  obtain h1 | ⟨h1, h2⟩ | ⟨h1, h2, h3⟩ | ⟨h1, h2, h3⟩ : x < lo ∨ (¬ x < lo ∧ y ≤ x) ∨ (¬ x < lo ∧ ¬ y ≤ x ∧ hi < y) ∨ (¬ x < lo ∧ ¬ y ≤ x ∧ ¬ hi < y) := by omega
  all_goals
    go_enter Try.func25, Try.ntmps25
    go_wp2_with fail
    refine (alloc_made HA.out).mono ?_
    rintro e w1 ⟨rfl, rfl⟩
    go_wp2_with fail
    go_quiet (fail)
    go_wp2_with fail
    go_ret
    have hd := HD.out
    have he := HE.out
    refine ⟨ret_i64 ?_, below_drewN ((Below.refl _ _).alloc (Nat.le_refl _) _) _⟩
    first
      | exact (he.1 (hd.trans (decide_eq_true (by omega)))).symm
      | exact (he.2 (hd.trans (decide_eq_false (by omega)))).symm
end Go.Proofs.Ytnlkljmboifnkaa

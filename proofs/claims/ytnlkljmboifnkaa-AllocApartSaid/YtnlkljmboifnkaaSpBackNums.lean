/- Plain mathematics: what is added is there, is counted, and removed again leaves the list as it was. No program, no conditions but those that stand in each lemma. -/
import Derived.Test.YtnlkljmboifnkaaSpNums
namespace Go.Proofs.Ytnlkljmboifnkaa
namespace Spans
theorem addL_fit {l : List P} {s : P} (hv : VL l) (hs : R s) : addL l s = addR l s false := by
  unfold addL
  rw [if_pos ((fitB_iff l s).2 ⟨hv, hs⟩), addR_addV l s hv hs]
theorem remL_fit {l : List P} {s : P} (hv : VL l) (hs : R s) : remL l s = l.flatMap (rem1 s) := by
  unfold remL
  rw [if_pos ((fitB_iff l s).2 ⟨hv, hs⟩), remV_eq hv hs]
theorem addL_valid {l : List P} {s : P} (hv : VL l) (hs : R s) : VL (addL l s) := by rw [addL_fit hv hs]; exact addR_valid l s hv hs
theorem remL_valid {l : List P} {s : P} (hv : VL l) (hs : R s) : VL (remL l s) := by rw [remL_fit hv hs]; exact rem_valid l s hv hs
theorem addL_in {l : List P} {s : P} (hv : VL l) (hs : R s) (n : Int) : In (addL l s) n ↔ In l n ∨ has1 s n := by rw [addL_fit hv hs]; exact addR_in l s n hv hs
theorem remL_in {l : List P} {s : P} (hv : VL l) (hs : R s) (n : Int) : In (remL l s) n ↔ In l n ∧ ¬ has1 s n := by rw [remL_fit hv hs]; exact rem_in n
/-- One span of the answer has all that was added. -/
theorem addR_has : ∀ (l : List P) (s : P), R s → ∃ x ∈ addR l s false, x.1 ≤ s.1 ∧ s.2 ≤ x.2
  | [], s, _ => ⟨s, by simp [addR], Int.le_refl _, Int.le_refl _⟩
  | x :: l, s, hs => by
    rw [addR]
    split
    · obtain ⟨y, hy, h⟩ := addR_has l s hs
      exact ⟨y, by simp [hy], h⟩
    · split
      · rw [if_neg (by simp)]
        exact ⟨s, by simp, Int.le_refl _, Int.le_refl _⟩
      · rename_i h1 h2
        rw [← merge_eq]
        have hR : (merge s x).1 ≤ s.1 ∧ s.2 ≤ (merge s x).2 := by unfold merge; simp only; omega
        obtain ⟨y, hy, h⟩ := addR_has' l (merge s x)
        exact ⟨y, hy, by omega, by omega⟩
where addR_has' : ∀ (l : List P) (s : P), ∃ x ∈ addR l s false, x.1 ≤ s.1 ∧ s.2 ≤ x.2
  | [], s => ⟨s, by simp [addR], Int.le_refl _, Int.le_refl _⟩
  | x :: l, s => by
    rw [addR]
    split
    · obtain ⟨y, hy, h⟩ := addR_has' l s
      exact ⟨y, by simp [hy], h⟩
    · split
      · rw [if_neg (by simp)]
        exact ⟨s, by simp, Int.le_refl _, Int.le_refl _⟩
      · rw [← merge_eq]
        have hR : (merge s x).1 ≤ s.1 ∧ s.2 ≤ (merge s x).2 := by unfold merge; simp only; omega
        obtain ⟨y, hy, h⟩ := addR_has' l (merge s x)
        exact ⟨y, hy, by omega, by omega⟩
theorem has_added {l : List P} {s : P} (hv : VL l) (hs : R s) : hasB (addL l s) s = true := by
  unfold hasB
  rw [Bool.and_eq_true, fitB_iff, List.any_eq_true]
  refine ⟨⟨addL_valid hv hs, hs⟩, ?_⟩
  rw [addL_fit hv hs]
  obtain ⟨x, hx, h1, h2⟩ := addR_has l s hs
  exact ⟨x, hx, by simp [hasP, h1, h2]⟩
/-- No span of the list has a number of s. -/
def Apart (l : List P) (s : P) : Prop := ∀ x ∈ l, x.2 ≤ s.1 ∨ s.2 ≤ x.1
theorem apart_of {l : List P} {s : P} (hv : VL l) (hs : R s) (h : meetsB l s = false) : Apart l s := fun x hx => by
  have h1 : ¬ (meetsP s x = true) := fun h2 => by
    have : meetsB l s = true := by
      unfold meetsB
      rw [Bool.and_eq_true, fitB_iff, List.any_eq_true]
      exact ⟨⟨hv, hs⟩, x, hx, h2⟩
    rw [h] at this
    cases this
  simp [meetsP] at h1
  omega
theorem addR_sum : ∀ (l : List P) (s : P), VL l → R s → Apart l s → sum (addR l s false) = sum l + (s.2 - s.1)
  | [], s, _, _, _ => by simp [addR, sum]
  | x :: l, s, hv, hs, ha => by
    obtain ⟨hx, hall, hv'⟩ := VL.cons.1 hv
    have hx0 := hx
    have hs0 := hs
    unfold R at hx hs
    have hax := ha x (by simp)
    have hal : Apart l s := fun y hy => ha y (by simp [hy])
    by_cases h1 : x.2 < s.1
    · rw [addR, if_pos h1, sum_cons, sum_cons, addR_sum l s hv' hs0 hal]; omega
    · by_cases h2 : s.2 < x.1
      · rw [addR, if_neg h1, if_pos h2, if_neg (by simp), addR_behind l s (fun y hy => by have := hall y hy; omega) hs0 hv'.1, sum_cons, sum_cons]; omega
      · have hm : Apart l (merge s x) := fun y hy => by
          have h3 := hall y hy
          have h4 := hal y hy
          have h5 := hv'.1 y hy
          unfold R at h5
          unfold merge
          simp only
          omega
        rw [addR, if_neg h1, if_neg h2, ← merge_eq, addR_sum l _ hv' (R_merge hs0 hx0) hm, sum_cons]
        unfold merge
        simp only
        omega
theorem total_added {l : List P} {s : P} (hv : VL l) (hs : R s) (h : meetsB l s = false) : totalL (addL l s) = totalL l + (s.2 - s.1) := by
  unfold totalL
  rw [if_pos ((validB_iff _).2 (addL_valid hv hs)), if_pos ((validB_iff _).2 hv), addL_fit hv hs]
  exact addR_sum l s hv hs (apart_of hv hs h)
theorem back {l : List P} {s : P} (hv : VL l) (hs : R s) (h : meetsB l s = false) : remL (addL l s) s = l := by
  refine one_list _ _ (remL_valid (addL_valid hv hs) hs) hv fun n => ?_
  rw [remL_in (addL_valid hv hs) hs, addL_in hv hs]
  have ha := apart_of hv hs h
  constructor
  · rintro ⟨h1 | h1, h2⟩
    · exact h1
    · exact absurd h1 h2
  · intro h1
    refine ⟨.inl h1, fun h2 => ?_⟩
    obtain ⟨x, hx, h3⟩ := h1
    have := ha x hx
    unfold has1 at h2 h3
    omega
theorem total_bounds {l : List P} : 0 ≤ totalL l ∧ totalL l ≤ 1099511627776 := by
  unfold totalL
  split
  · rename_i hv
    have hv' := (validB_iff l).1 hv
    refine ⟨sum_lo l hv'.1, ?_⟩
    have := sum_hi l 0 hv' (fun x hx => (hv'.1 x hx).1) (by unfold top; omega)
    unfold top at this
    omega
  · exact ⟨Int.le_refl _, by omega⟩
end Spans
end Go.Proofs.Ytnlkljmboifnkaa

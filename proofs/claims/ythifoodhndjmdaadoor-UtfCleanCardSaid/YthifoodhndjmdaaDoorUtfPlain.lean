/- UTF-8, plain: what is put is next; a clean text is right, and clean. No conditions but those that stand in each lemma. -/
import Derived.Test.YthifoodhndjmdaaDoorUtfNums
namespace Go.Proofs.YthifoodhndjmdaaDoor
open Go.RowKit
namespace Utf

theorem next_yes {xs : List Int} {k : Nat} (h0 : xs ≠ []) (hm : moreI (xs.getD 0 0) = k) (hg : goesB xs k = true) (hs : sizeI (valK xs k) = k + 1) : nextI xs = (valK xs k, k + 1) := by
  unfold nextI
  simp only [hm]
  rw [if_pos ⟨h0, hg, hs⟩]
theorem next_no {xs : List Int} (h : ¬ (xs ≠ [] ∧ goesB xs (moreI (xs.getD 0 0)) = true ∧ sizeI (valK xs (moreI (xs.getD 0 0))) = moreI (xs.getD 0 0) + 1)) : nextI xs = (0, 0) := by
  unfold nextI
  simp only [if_neg h]
theorem next_nil : nextI [] = (0, 0) := next_no fun h => h.1 rfl
theorem goes_len {xs : List Int} {k : Nat} (h0 : xs ≠ []) (hg : goesB xs k = true) : k + 1 ≤ xs.length := by
  rw [goes_iff] at hg
  rcases Nat.eq_zero_or_pos k with rfl | h
  · exact List.length_pos_iff.2 h0
  · have := (hg (k - 1) (by omega)).1
    omega
/-- What is next: a character, whose bytes these are; or none. -/
theorem next_spec (xs : List Int) (hx : IsBytes xs) :
    (nextI xs = (0, 0) ∧ ∀ k, k < 4 → k + 1 ≤ xs.length → formI (valK xs k) ≠ xs.take (k + 1)) ∨
    ∃ k, k < 4 ∧ k + 1 ≤ xs.length ∧ nextI xs = (valK xs k, k + 1) ∧ formI (valK xs k) = xs.take (k + 1) ∧ ∀ j, j < 4 → j + 1 ≤ xs.length → j ≠ k → formI (valK xs j) ≠ xs.take (j + 1) := by
  have hle := more_le (xs.getD 0 0)
  obtain ⟨m, hm⟩ : ∃ m, moreI (xs.getD 0 0) = m := ⟨_, rfl⟩
  by_cases h : xs ≠ [] ∧ goesB xs m = true ∧ sizeI (valK xs m) = m + 1
  · obtain ⟨h0, hg, hs⟩ := h
    have hl := goes_len h0 hg
    refine .inr ⟨m, by omega, hl, next_yes h0 hm hg hs, (form_take xs hx m (by omega) hl).2 ⟨hm, hg, hs⟩, fun j hj hjl hne he => ?_⟩
    exact hne (((form_take xs hx j hj hjl).1 he).1.symm.trans hm)
  · refine .inl ⟨next_no (by rw [hm]; exact h), fun k hk hl he => ?_⟩
    obtain ⟨e, hg, hs⟩ := (form_take xs hx k hk hl).1 he
    obtain rfl : k = m := e.symm.trans hm
    exact h ⟨by rintro rfl; simp at hl, hg, hs⟩
/-- .. by its number of bytes. -/
theorem next_take (xs : List Int) (hx : IsBytes xs) (h : (nextI xs).2 ≠ 0) : (nextI xs).2 ≤ xs.length ∧ formI (nextI xs).1 = xs.take (nextI xs).2 ∧ sizeI (nextI xs).1 = (nextI xs).2 ∧ (nextI xs).2 ≤ 4 := by
  rcases next_spec xs hx with ⟨e, _⟩ | ⟨k, hk, hl, e, hf, _⟩
  · rw [e] at h; exact absurd rfl h
  · rw [e]
    refine ⟨hl, hf, ?_, by show k + 1 ≤ 4; omega⟩
    rw [← form_length, hf, List.length_take]
    show min (k + 1) xs.length = k + 1
    omega
theorem next_none {xs : List Int} (h : (nextI xs).2 = 0) : nextI xs = (0, 0) := by
  unfold nextI at h ⊢
  simp only at h ⊢
  split at h
  · simp at h
  · rename_i hh
    rw [if_neg hh]
theorem next_fst_le (xs : List Int) (hx : IsBytes xs) : 0 ≤ (nextI xs).1 ∧ (nextI xs).1 ≤ 1114111 := by
  by_cases h : (nextI xs).2 = 0
  · rw [next_none h]; exact ⟨by decide, by decide⟩
  · have := (next_take xs hx h).2.2.1
    rcases form_cases (nextI xs).1 with ⟨a, b, c⟩ | ⟨a, b, c⟩ | ⟨a, b, c⟩ | ⟨a, b, c⟩ | ⟨a, b, c⟩ <;> omega
/-- What is put is next, whatever stands behind it. -/
theorem next_form (c : Int) (ys : List Int) (hy : IsBytes ys) (h : sizeI c ≠ 0) : nextI (formI c ++ ys) = (c, sizeI c) := by
  have hx : IsBytes (formI c ++ ys) := (form_bytes c).append hy
  have hl := form_length c
  have h4 := size_le c
  obtain ⟨k, hk⟩ : ∃ k, sizeI c = k + 1 := ⟨sizeI c - 1, by omega⟩
  have ht : (formI c ++ ys).take (k + 1) = formI c := by rw [List.take_append_of_le_length (by omega), List.take_of_length_le (by omega)]
  have hv : valK (formI c ++ ys) k = c := by
    rcases form_cases c with ⟨a, b, d⟩ | ⟨a, b, d⟩ | ⟨a, b, d⟩ | ⟨a, b, d⟩ | ⟨a, b, d⟩
    · exact absurd a h
    · obtain rfl : k = 0 := by omega
      rw [b]
      simp only [List.cons_append, List.nil_append, valK, List.getD_cons_zero]
      rw [show moreI c = 0 by unfold moreI; rw [if_pos (by omega)]]
      simp [markI]
    · obtain rfl : k = 1 := by omega
      rw [b]
      simp only [List.cons_append, List.nil_append, valK, List.getD_cons_zero, List.getD_cons_succ]
      rcases more_cases (192 + c / 64) with ⟨e, f⟩ | ⟨e, f⟩ | ⟨e, f⟩ | ⟨e, f⟩ <;> rw [e] <;> simp only [markI] <;> omega
    · obtain rfl : k = 2 := by omega
      rw [b]
      simp only [List.cons_append, List.nil_append, valK, List.getD_cons_zero, List.getD_cons_succ]
      rcases more_cases (224 + c / 4096) with ⟨e, f⟩ | ⟨e, f⟩ | ⟨e, f⟩ | ⟨e, f⟩ <;> rw [e] <;> simp only [markI] <;> omega
    · obtain rfl : k = 3 := by omega
      rw [b]
      simp only [List.cons_append, List.nil_append, valK, List.getD_cons_zero, List.getD_cons_succ]
      rcases more_cases (240 + c / 262144) with ⟨e, f⟩ | ⟨e, f⟩ | ⟨e, f⟩ | ⟨e, f⟩ <;> rw [e] <;> simp only [markI] <;> omega
  have hkl : k + 1 ≤ (formI c ++ ys).length := by rw [List.length_append]; omega
  obtain ⟨hm, hg, hs⟩ := (form_take _ hx k (by omega) hkl).1 (by rw [hv, ht])
  rw [next_yes (by intro e; rw [e] at hkl; simp at hkl) hm hg hs, hv, hk]
/-- .. its bytes without the last one are none. -/
theorem next_short (c : Int) (h : sizeI c ≠ 0) : nextI ((formI c).take (sizeI c - 1)) = (0, 0) := by
  refine next_no fun ⟨h0, hg, hs⟩ => ?_
  have hl := goes_len h0 hg
  rw [List.length_take] at hl
  rcases form_cases c with ⟨a, b, d⟩ | ⟨a, b, d⟩ | ⟨a, b, d⟩ | ⟨a, b, d⟩ | ⟨a, b, d⟩
  · exact h a
  · rw [a] at h0; exact h0 rfl
  · rw [a, b] at hl
    simp only [List.take_succ_cons, List.getD_cons_zero, Nat.add_one_sub_one] at hl
    rcases more_cases (192 + c / 64) with ⟨e, f⟩ | ⟨e, f⟩ | ⟨e, f⟩ | ⟨e, f⟩ <;> omega
  · rw [a, b] at hl
    simp only [List.take_succ_cons, List.getD_cons_zero, Nat.add_one_sub_one] at hl
    rcases more_cases (224 + c / 4096) with ⟨e, f⟩ | ⟨e, f⟩ | ⟨e, f⟩ | ⟨e, f⟩ <;> omega
  · rw [a, b] at hl
    simp only [List.take_succ_cons, List.getD_cons_zero, Nat.add_one_sub_one] at hl
    rcases more_cases (240 + c / 262144) with ⟨e, f⟩ | ⟨e, f⟩ | ⟨e, f⟩ | ⟨e, f⟩ <;> omega

/-- How many characters; none: the bytes are not right. -/
def countO (xs : List Int) : Option Nat :=
  if _h : xs = [] then some 0 else if _h2 : (nextI xs).2 = 0 then none else (countO (xs.drop (nextI xs).2)).map (· + 1)
termination_by xs.length
decreasing_by
  rw [List.length_drop]
  have := List.length_pos_iff.2 _h
  omega
/-- The bytes of U+FFFD. -/
def gapW : List Int := [239, 191, 189]
/-- The bytes, cleaned. -/
def cleanI (xs : List Int) : List Int :=
  if _h : xs = [] then [] else if _h2 : (nextI xs).2 = 0 then gapW ++ cleanI (xs.drop 1) else xs.take (nextI xs).2 ++ cleanI (xs.drop (nextI xs).2)
termination_by xs.length
decreasing_by
  all_goals
    rw [List.length_drop]
    have := List.length_pos_iff.2 _h
    omega
theorem count_nil : countO [] = some 0 := by rw [countO]; rfl
theorem count_none {xs : List Int} (h : xs ≠ []) (h2 : (nextI xs).2 = 0) : countO xs = none := by rw [countO, dif_neg h, dif_pos h2]
theorem count_next {xs : List Int} (h : xs ≠ []) (h2 : (nextI xs).2 ≠ 0) : countO xs = (countO (xs.drop (nextI xs).2)).map (· + 1) := by rw [countO, dif_neg h, dif_neg h2]
theorem clean_nil : cleanI [] = [] := by rw [cleanI]; rfl
theorem clean_none {xs : List Int} (h : xs ≠ []) (h2 : (nextI xs).2 = 0) : cleanI xs = gapW ++ cleanI (xs.drop 1) := by rw [cleanI, dif_neg h, dif_pos h2]
theorem clean_next {xs : List Int} (h : xs ≠ []) (h2 : (nextI xs).2 ≠ 0) : cleanI xs = xs.take (nextI xs).2 ++ cleanI (xs.drop (nextI xs).2) := by rw [cleanI, dif_neg h, dif_neg h2]
theorem gap_form : formI 65533 = gapW := by decide
theorem gap_bytes : IsBytes gapW := by rw [← gap_form]; exact form_bytes _
/-- What is cleaned begins with a character, and goes on with what is cleaned. -/
theorem clean_cons (xs : List Int) (hx : IsBytes xs) (h : xs ≠ []) : ∃ c n, sizeI c ≠ 0 ∧ n ≠ 0 ∧ n ≤ xs.length ∧ cleanI xs = formI c ++ cleanI (xs.drop n) ∧ ((nextI xs).2 = 0 ∧ n = 1 ∨ (nextI xs).2 = n ∧ formI c = xs.take n) := by
  by_cases h2 : (nextI xs).2 = 0
  · exact ⟨65533, 1, by decide, by decide, List.length_pos_iff.2 h, by rw [clean_none h h2, gap_form], .inl ⟨h2, rfl⟩⟩
  · obtain ⟨a, b, c, _⟩ := next_take xs hx h2
    exact ⟨(nextI xs).1, (nextI xs).2, by rw [c]; exact h2, h2, a, by rw [clean_next h h2, b], .inr ⟨rfl, b⟩⟩
theorem clean_all (n : Nat) : ∀ xs : List Int, xs.length ≤ n → IsBytes xs → IsBytes (cleanI xs) ∧ (cleanI xs).length ≤ 4 * xs.length ∧ (∃ m, countO (cleanI xs) = some m ∧ m ≤ xs.length) ∧ cleanI (cleanI xs) = cleanI xs ∧ (countO xs ≠ none → cleanI xs = xs) := by
  induction n with
  | zero =>
    intro xs hl _
    obtain rfl : xs = [] := List.eq_nil_of_length_eq_zero (by omega)
    rw [clean_nil]
    exact ⟨IsBytes.nil, by simp, ⟨0, count_nil, by simp⟩, clean_nil, fun _ => rfl⟩
  | succ n ih =>
    intro xs hl hx
    by_cases h : xs = []
    · subst h
      rw [clean_nil]
      exact ⟨IsBytes.nil, by simp, ⟨0, count_nil, by simp⟩, clean_nil, fun _ => rfl⟩
    obtain ⟨c, k, hc, hk, hkl, he, hor⟩ := clean_cons xs hx h
    have hd : (xs.drop k).length = xs.length - k := List.length_drop
    obtain ⟨i1, i2, ⟨m, i3, i4⟩, i5, i6⟩ := ih (xs.drop k) (by omega) (hx.drop k)
    have hlen := form_length c
    have h4 := size_le c
    have hnx := next_form c (cleanI (xs.drop k)) i1 hc
    have hne : formI c ++ cleanI (xs.drop k) ≠ [] := by
      intro e
      have := congrArg List.length e
      rw [List.length_append, List.length_nil] at this
      omega
    have hn2 : (nextI (formI c ++ cleanI (xs.drop k))).2 ≠ 0 := by rw [hnx]; exact hc
    have ht : (formI c ++ cleanI (xs.drop k)).take (sizeI c) = formI c := by rw [List.take_append_of_le_length (by omega), List.take_of_length_le (by omega)]
    have hdr : (formI c ++ cleanI (xs.drop k)).drop (sizeI c) = cleanI (xs.drop k) := by rw [← hlen, List.drop_left]
    refine ⟨by rw [he]; exact (form_bytes c).append i1, by rw [he, List.length_append]; omega, ⟨m + 1, ?_, by omega⟩, ?_, ?_⟩
    · rw [he, count_next hne hn2, hnx]
      simp only [hdr, i3, Option.map_some]
    · rw [he, clean_next hne hn2, hnx]
      simp only [ht, hdr, i5]
    · intro hcn
      rcases hor with ⟨h0, _⟩ | ⟨h1, h2⟩
      · exact absurd (count_none h h0) hcn
      · rw [he, h2, i6 (fun hh => hcn (by rw [count_next h (by rw [h1]; exact hk), h1, hh]; rfl)), List.take_append_drop]
theorem clean_bytes (xs : List Int) (hx : IsBytes xs) : IsBytes (cleanI xs) := (clean_all _ xs (Nat.le_refl _) hx).1
theorem clean_length (xs : List Int) (hx : IsBytes xs) : (cleanI xs).length ≤ 4 * xs.length := (clean_all _ xs (Nat.le_refl _) hx).2.1
theorem clean_right (xs : List Int) (hx : IsBytes xs) : ∃ m, countO (cleanI xs) = some m ∧ m ≤ xs.length := (clean_all _ xs (Nat.le_refl _) hx).2.2.1
theorem clean_clean (xs : List Int) (hx : IsBytes xs) : cleanI (cleanI xs) = cleanI xs := (clean_all _ xs (Nat.le_refl _) hx).2.2.2.1
/-- A text is right just where it is clean. -/
theorem right_iff (xs : List Int) (hx : IsBytes xs) : (countO xs).isSome = true ↔ cleanI xs = xs := by
  constructor
  · intro h
    exact (clean_all _ xs (Nat.le_refl _) hx).2.2.2.2 (by intro e; rw [e] at h; cases h)
  · intro h
    obtain ⟨m, hm, _⟩ := clean_right xs hx
    rw [h] at hm
    rw [hm]
    rfl
/-- How many, as the programs have it. -/
def countV (xs : List Int) : Int := match countO xs with
  | some n => (n : Int)
  | none => -1
theorem countV_right (xs : List Int) : decide (0 ≤ countV xs) = (countO xs).isSome := by
  unfold countV
  cases countO xs with
  | none => rfl
  | some n => simp
theorem count_le (n : Nat) : ∀ xs : List Int, xs.length ≤ n → ∀ m, countO xs = some m → m ≤ xs.length := by
  induction n with
  | zero =>
    intro xs hl m hm
    obtain rfl : xs = [] := List.eq_nil_of_length_eq_zero (by omega)
    rw [count_nil] at hm
    injection hm with hm
    omega
  | succ n ih =>
    intro xs hl m hm
    by_cases h : xs = []
    · subst h
      rw [count_nil] at hm
      injection hm with hm
      omega
    by_cases h2 : (nextI xs).2 = 0
    · rw [count_none h h2] at hm; cases hm
    · rw [count_next h h2] at hm
      obtain ⟨q, hq, rfl⟩ := Option.map_eq_some_iff.1 hm
      have hp := List.length_pos_iff.2 h
      have hd : (xs.drop (nextI xs).2).length = xs.length - (nextI xs).2 := List.length_drop
      have := ih _ (by omega) q hq
      omega
end Utf
end Go.Proofs.YthifoodhndjmdaaDoor

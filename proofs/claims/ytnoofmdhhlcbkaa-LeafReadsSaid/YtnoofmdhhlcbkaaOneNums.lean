/- Plain facts on short numbers: what is read is laid again as it was; with a byte less it is none; what is laid is read. No Go text. -/
import Derived.Test.YtnoofmdhhlcbkaaNums
namespace Go.Proofs.Ytnoofmdhhlcbkaa

/-- Bytes that are a number in as few bytes as it needs are laid again as they were. -/
theorem short_val (l : List Int) (hb : ∀ x ∈ l, 0 ≤ x ∧ x < 256) (k : Nat) (hl : l.length = k + 1) (h : ∀ i, i < k → 128 ≤ l.getD i 0) (hs : l.getD k 0 < 128) (hz : 0 < k → l.getD k 0 ≠ 0) : shortOf (valOf l) = l := by
  induction l generalizing k with
  | nil => simp at hl
  | cons b r ih =>
    have hb0 := hb b (by simp)
    cases k with
    | zero =>
      have hr : r = [] := List.eq_nil_of_length_eq_zero (by simpa using hl)
      subst hr
      have hs' : b < 128 := by simpa using hs
      rw [valOf, valOf, shortOf_last _ (by omega)]
      congr 1
      omega
    | succ k =>
      have h0 : 128 ≤ b := by simpa using h 0 (by omega)
      have hr := ih (fun x hx => hb x (by simp [hx])) k (by simpa using hl) (fun i hi => by simpa using h (i + 1) (by omega)) (by simpa using hs) (fun _ => by simpa using hz (by omega))
      have hpos : 0 < valOf r := by
        rcases Nat.eq_zero_or_pos (valOf r) with h0 | h0
        · exfalso
          rw [h0, shortOf_last 0 (by omega)] at hr
          have hk : k = 0 := by
            have := congrArg List.length hr
            simp at this hl
            omega
          subst hk
          have := hz (by omega)
          rw [← hr] at this
          simp at this
        · exact h0
      rw [valOf, shortOf_more _ (by omega)]
      have e1 : ((b % 128).toNat + 128 * valOf r) / 128 = valOf r := by omega
      rw [e1, hr]
      congr 1
      omega

theorem getD_take (xs : List Int) (j k : Nat) (h : j < k) : (xs.take k).getD j 0 = xs.getD j 0 := by
  rw [List.getD_eq_getElem?_getD, List.getD_eq_getElem?_getD, List.getElem?_take, if_pos h]

theorem val_bound (xs : List Int) (hb : ∀ x ∈ xs, 0 ≤ x ∧ x < 256) (k : Nat) (hk : k ≤ 9) (hlt : k < xs.length) (h9 : ¬ (k = 9 ∧ 1 < xs.getD 9 0)) : valOf (xs.take (k + 1)) < 18446744073709551616 := by
  have hl : (xs.take k).length = k := by rw [List.length_take]; omega
  have hv := valOf_lt (xs.take k)
  have hx : 0 ≤ xs.getD k 0 := by
    rw [List.getD_eq_getElem?_getD, List.getElem?_eq_getElem hlt]; exact (hb _ (List.getElem_mem hlt)).1
  rw [take_snoc_getD _ _ hlt, valOf_snoc]
  rw [hl, pow7] at hv ⊢
  by_cases h : k = 9
  · subst h
    have e : (2 : Nat) ^ (7 * 9) = 9223372036854775808 := by decide
    rw [e] at hv ⊢
    have : (xs.getD 9 0 % 128).toNat ≤ 1 := by omega
    omega
  · have h1 : (2 : Nat) ^ (7 * k) ≤ 2 ^ 56 := Nat.pow_le_pow_right (by omega) (by omega)
    have h2 : (2 : Nat) ^ 56 = 72057594037927936 := by decide
    have h3 : 2 ^ (7 * k) * (xs.getD k 0 % 128).toNat ≤ 72057594037927936 * 127 := Nat.mul_le_mul (by omega) (by omega)
    omega

/-- Bytes are no number, or one: as long as it says, laid again as it was, and none with a byte less. -/
theorem read_cases (xs : List Int) (hb : ∀ x ∈ xs, 0 ≤ x ∧ x < 256) :
    (∃ e : Nat, readOf xs = (0, 0, e) ∧ e ≠ 0) ∨
    (∃ k : Nat, 1 ≤ k ∧ k ≤ xs.length ∧ readOf xs = (valOf (xs.take k), k, 0) ∧ valOf (xs.take k) < 18446744073709551616 ∧ shortOf (valOf (xs.take k)) = xs.take k ∧ readOf (xs.take (k - 1)) = (0, 0, 10)) := by
  have hle := leadOf_le xs
  unfold readOf
  by_cases h1 : 10 ≤ leadOf xs
  · rw [if_pos h1]; exact .inl ⟨11, rfl, by omega⟩
  rw [if_neg h1]
  by_cases h2 : leadOf xs = xs.length
  · rw [if_pos h2]; exact .inl ⟨10, rfl, by omega⟩
  rw [if_neg h2]
  by_cases h3 : leadOf xs = 9 ∧ 1 < xs.getD 9 0
  · rw [if_pos h3]; exact .inl ⟨11, rfl, by omega⟩
  rw [if_neg h3]
  by_cases h4 : 0 < leadOf xs ∧ xs.getD (leadOf xs) 0 = 0
  · rw [if_pos h4]; exact .inl ⟨11, rfl, by omega⟩
  rw [if_neg h4]
  have hlt : leadOf xs < xs.length := by omega
  have hhigh := leadOf_high xs
  have hstop := leadOf_stop xs hlt
  refine .inr ⟨leadOf xs + 1, by omega, by omega, rfl, val_bound xs hb _ (by omega) hlt h3, ?_, ?_⟩
  · refine short_val _ (fun x hx => hb x (List.mem_of_mem_take hx)) (leadOf xs) (by rw [List.length_take]; omega) (fun i hi => ?_) ?_ ?_
    · rw [getD_take _ _ _ (by omega)]; exact hhigh i hi
    · rw [getD_take _ _ _ (by omega)]; exact hstop
    · rw [getD_take _ _ _ (by omega)]; omega
  · rw [Nat.add_sub_cancel]
    have hl : (xs.take (leadOf xs)).length = leadOf xs := by rw [List.length_take]; omega
    refine readOf_end _ (by omega) (fun i hi => ?_)
    rw [hl] at hi
    rw [getD_take _ _ _ hi]
    exact hhigh i hi

/-- The groups of a number: all but the last one have 128, and the last one is not 0 but in the number 0. -/
theorem short_form (m : Nat) : (∀ i, i < (shortOf m).length - 1 → 128 ≤ (shortOf m).getD i 0) ∧ (shortOf m).getD ((shortOf m).length - 1) 0 < 128 ∧ (0 < (shortOf m).length - 1 → (shortOf m).getD ((shortOf m).length - 1) 0 ≠ 0) := by
  induction m using Nat.strongRecOn with
  | _ m ih =>
    by_cases h : m < 128
    · rw [shortOf_last m h]
      refine ⟨fun i hi => ?_, ?_, fun hi => ?_⟩
      · simp at hi
      · simp; omega
      · simp at hi
    · rw [shortOf_more m (by omega)]
      obtain ⟨h1, h2, h3⟩ := ih (m / 128) (by omega)
      have hp := shortOf_pos (m / 128)
      have e : ((((m : Int) % 128 + 128) :: shortOf (m / 128)).length - 1) = ((shortOf (m / 128)).length - 1) + 1 := by rw [List.length_cons]; omega
      rw [e]
      refine ⟨fun i hi => ?_, by simpa using h2, fun _ => ?_⟩
      · cases i with
        | zero => simp; omega
        | succ i => simpa using h1 i (by omega)
      · rw [List.getD_cons_succ]
        by_cases hz : 0 < (shortOf (m / 128)).length - 1
        · exact h3 hz
        · have hv : shortOf (m / 128) = [((m / 128 : Nat) : Int)] := by
            by_cases hm : m / 128 < 128
            · exact shortOf_last _ hm
            · exfalso
              rw [shortOf_more _ (by omega), List.length_cons] at hz
              have := shortOf_pos (m / 128 / 128)
              omega
          rw [hv]
          simp
          omega

/-- What is laid is read, whatever stands behind it. -/
theorem read_short (m : Nat) (hm : m < 18446744073709551616) (ys : List Int) : readOf (shortOf m ++ ys) = (m, (shortOf m).length, 0) := by
  obtain ⟨h1, h2, h3⟩ := short_form m
  have hp := shortOf_pos m
  have h10 := shortOf_ten m hm
  have hat : ∀ i, i < (shortOf m).length → (shortOf m ++ ys).getD i 0 = (shortOf m).getD i 0 := fun i hi => by
    rw [List.getD_eq_getElem?_getD, List.getD_eq_getElem?_getD, List.getElem?_append_left hi]
  have htake : (shortOf m ++ ys).take ((shortOf m).length - 1 + 1) = shortOf m := by
    rw [Nat.sub_add_cancel hp, List.take_left]
  have hmv := valOf_short m
  have h9 : ¬ ((shortOf m).length - 1 = 9 ∧ 1 < (shortOf m ++ ys).getD 9 0) := by
    rintro ⟨h, hx⟩
    rw [hat 9 (by omega)] at hx
    have hlen : (shortOf m).length = 10 := by omega
    have hl9 : ((shortOf m).take 9).length = 9 := by rw [List.length_take]; omega
    have e := take_snoc_getD (shortOf m) 9 (by omega)
    rw [List.take_of_length_le (by omega)] at e
    have hv := valOf_snoc ((shortOf m).take 9) ((shortOf m).getD 9 0)
    rw [← e, hmv, hl9] at hv
    have hb := shortOf_bytes m
    have h128 : (shortOf m).getD 9 0 < 128 := by rw [show 9 = (shortOf m).length - 1 by omega]; exact h2
    have hp9 : (128 : Nat) ^ 9 = 9223372036854775808 := by decide
    rw [hp9] at hv
    have : 2 ≤ ((shortOf m).getD 9 0 % 128).toNat := by omega
    omega
  rw [readOf_ok (shortOf m ++ ys) ((shortOf m).length - 1) (fun i hi => by rw [hat i (by omega)]; exact h1 i hi) (by rw [List.length_append]; omega) (by rw [hat _ (by omega)]; exact h2) (by omega) h9
    (by rintro ⟨ha, hz⟩; rw [hat _ (by omega)] at hz; exact h3 ha hz), htake, hmv, Nat.sub_add_cancel hp]
theorem read_five : readOf [5] = (5, 1, 0) := by decide
end Go.Proofs.Ytnoofmdhhlcbkaa

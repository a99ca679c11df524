/- UTF-8, plain: the bytes of a character; the character that bytes begin with, or none; how many characters they are; the bytes, cleaned. No conditions but those that stand in each lemma. -/
import Derived.Test.YthifoodhndjmdaaDoorMem
namespace Go.Proofs.YthifoodhndjmdaaDoor
open Go.RowKit
namespace Utf

/-- How many bytes a character has; 0: the number is none. -/
def sizeI (c : Int) : Nat := if c < 0 ∨ (55296 ≤ c ∧ c ≤ 57343) ∨ 1114111 < c then 0 else if c ≤ 127 then 1 else if c ≤ 2047 then 2 else if c ≤ 65535 then 3 else 4
/-- The bytes of a character; none, if the number is none. -/
def formI (c : Int) : List Int :=
  if c < 0 ∨ (55296 ≤ c ∧ c ≤ 57343) ∨ 1114111 < c then [] else if c ≤ 127 then [c] else if c ≤ 2047 then [192 + c / 64, 128 + c % 64]
  else if c ≤ 65535 then [224 + c / 4096, 128 + c / 64 % 64, 128 + c % 64] else [240 + c / 262144, 128 + c / 4096 % 64, 128 + c / 64 % 64, 128 + c % 64]
theorem form_cases (c : Int) :
    (sizeI c = 0 ∧ formI c = [] ∧ (c < 0 ∨ (55296 ≤ c ∧ c ≤ 57343) ∨ 1114111 < c)) ∨ (sizeI c = 1 ∧ formI c = [c] ∧ 0 ≤ c ∧ c ≤ 127) ∨ (sizeI c = 2 ∧ formI c = [192 + c / 64, 128 + c % 64] ∧ 128 ≤ c ∧ c ≤ 2047) ∨
    (sizeI c = 3 ∧ formI c = [224 + c / 4096, 128 + c / 64 % 64, 128 + c % 64] ∧ 2048 ≤ c ∧ c ≤ 65535 ∧ ¬ (55296 ≤ c ∧ c ≤ 57343)) ∨ (sizeI c = 4 ∧ formI c = [240 + c / 262144, 128 + c / 4096 % 64, 128 + c / 64 % 64, 128 + c % 64] ∧ 65536 ≤ c ∧ c ≤ 1114111) := by
  by_cases h0 : c < 0 ∨ (55296 ≤ c ∧ c ≤ 57343) ∨ 1114111 < c
  · refine .inl ⟨by unfold sizeI; rw [if_pos h0], by unfold formI; rw [if_pos h0], h0⟩
  by_cases h1 : c ≤ 127
  · refine .inr (.inl ⟨by unfold sizeI; rw [if_neg h0, if_pos h1], by unfold formI; rw [if_neg h0, if_pos h1], by omega, h1⟩)
  by_cases h2 : c ≤ 2047
  · refine .inr (.inr (.inl ⟨by unfold sizeI; rw [if_neg h0, if_neg h1, if_pos h2], by unfold formI; rw [if_neg h0, if_neg h1, if_pos h2], by omega, h2⟩))
  by_cases h3 : c ≤ 65535
  · refine .inr (.inr (.inr (.inl ⟨by unfold sizeI; rw [if_neg h0, if_neg h1, if_neg h2, if_pos h3], by unfold formI; rw [if_neg h0, if_neg h1, if_neg h2, if_pos h3], by omega, h3, by omega⟩)))
  · refine .inr (.inr (.inr (.inr ⟨by unfold sizeI; rw [if_neg h0, if_neg h1, if_neg h2, if_neg h3], by unfold formI; rw [if_neg h0, if_neg h1, if_neg h2, if_neg h3], by omega, by omega⟩)))
theorem form_length (c : Int) : (formI c).length = sizeI c := by
  rcases form_cases c with ⟨a, b, _⟩ | ⟨a, b, _⟩ | ⟨a, b, _⟩ | ⟨a, b, _⟩ | ⟨a, b, _⟩ <;> rw [a, b] <;> rfl
theorem size_le (c : Int) : sizeI c ≤ 4 := by
  rcases form_cases c with ⟨a, _⟩ | ⟨a, _⟩ | ⟨a, _⟩ | ⟨a, _⟩ | ⟨a, _⟩ <;> omega
theorem form_bytes (c : Int) : IsBytes (formI c) := by
  intro x hx
  rcases form_cases c with ⟨_, b, _⟩ | ⟨_, b, h⟩ | ⟨_, b, h⟩ | ⟨_, b, h⟩ | ⟨_, b, h⟩ <;> rw [b] at hx <;> simp at hx <;> omega

/-- Of how many bytes more a byte would be the first. -/
def moreI (x : Int) : Nat := if x < 192 then 0 else if x < 224 then 1 else if x < 240 then 2 else 3
/-- What such a first byte has ahead of the character's bits. -/
def markI : Nat → Int
  | 0 => 0
  | 1 => 192
  | 2 => 224
  | _ => 240
/-- The number that the first byte tells, and k more. -/
def valK (xs : List Int) : Nat → Int
  | 0 => xs.getD 0 0 - markI (moreI (xs.getD 0 0))
  | k + 1 => 64 * valK xs k + (xs.getD (k + 1) 0 + 128) % 256
/-- Does the text go on, m bytes behind the first? -/
def goesB (xs : List Int) (m : Nat) : Bool := (List.range m).all fun i => decide (i + 1 < xs.length) && decide (128 ≤ xs.getD (i + 1) 0) && decide (xs.getD (i + 1) 0 < 192)
theorem goes_iff (xs : List Int) (m : Nat) : goesB xs m = true ↔ ∀ i, i < m → i + 1 < xs.length ∧ 128 ≤ xs.getD (i + 1) 0 ∧ xs.getD (i + 1) 0 < 192 := by
  unfold goesB
  simp only [List.all_eq_true, List.mem_range, Bool.and_eq_true, decide_eq_true_eq, and_assoc]
/-- The character that bytes begin with, and how many of them it is; 0 and 0: none. -/
def nextI (xs : List Int) : Int × Nat :=
  let m := moreI (xs.getD 0 0)
  if xs ≠ [] ∧ goesB xs m = true ∧ sizeI (valK xs m) = m + 1 then (valK xs m, m + 1) else (0, 0)
theorem more_le (x : Int) : moreI x ≤ 3 := by unfold moreI; split <;> (try split) <;> (try split) <;> omega
theorem more_cases (x : Int) : (moreI x = 0 ∧ x < 192) ∨ (moreI x = 1 ∧ 192 ≤ x ∧ x < 224) ∨ (moreI x = 2 ∧ 224 ≤ x ∧ x < 240) ∨ (moreI x = 3 ∧ 240 ≤ x) := by
  unfold moreI
  split
  · exact .inl ⟨rfl, by assumption⟩
  · split
    · exact .inr (.inl ⟨rfl, by omega, by assumption⟩)
    · split
      · exact .inr (.inr (.inl ⟨rfl, by omega, by assumption⟩))
      · exact .inr (.inr (.inr ⟨rfl, by omega⟩))

theorem cons_eq1 {a b : Int} {l m : List Int} : a :: l = b :: m ↔ a = b ∧ l = m := by simp
/-- The bytes of the number that the first k + 1 bytes tell are these bytes just where the text goes on so, and the number has so many. -/
theorem form_take (xs : List Int) (hx : IsBytes xs) (k : Nat) (hk : k < 4) (hl : k + 1 ≤ xs.length) :
    formI (valK xs k) = xs.take (k + 1) ↔ (moreI (xs.getD 0 0) = k ∧ goesB xs k = true ∧ sizeI (valK xs k) = k + 1) := by
  rw [goes_iff]
  have hlen : (xs.take (k + 1)).length = k + 1 := by rw [List.length_take]; omega
  constructor
  · intro h
    have hs : sizeI (valK xs k) = k + 1 := by rw [← form_length, h, hlen]
    rcases (show k = 0 ∨ k = 1 ∨ k = 2 ∨ k = 3 by omega) with rfl | rfl | rfl | rfl
    · match xs, hl with
      | x0 :: r, _ =>
        simp only [List.take_succ_cons, List.take_zero, List.getD_cons_zero, valK] at h ⊢ hs
        rcases form_cases (x0 - markI (moreI x0)) with ⟨a, b, c⟩ | ⟨a, b, c⟩ | ⟨a, b, c⟩ | ⟨a, b, c⟩ | ⟨a, b, c⟩ <;> try omega
        rw [b] at h
        simp only [cons_eq1] at h
        have hb := hx x0 (List.mem_cons_self ..)
        rcases more_cases x0 with ⟨e, f⟩ | ⟨e, f⟩ | ⟨e, f⟩ | ⟨e, f⟩ <;> rw [e] at h c <;> simp only [markI] at h c
        · exact ⟨e, fun i hi => absurd hi (by omega), hs⟩
        all_goals omega
    · match xs, hl with
      | x0 :: x1 :: r, _ =>
        simp only [List.take_succ_cons, List.take_zero, List.getD_cons_zero, List.getD_cons_succ, valK] at h ⊢ hs
        have hb0 := hx x0 (by simp)
        have hb1 := hx x1 (by simp)
        rcases form_cases (64 * (x0 - markI (moreI x0)) + (x1 + 128) % 256) with ⟨a, b, c⟩ | ⟨a, b, c⟩ | ⟨a, b, c⟩ | ⟨a, b, c⟩ | ⟨a, b, c⟩ <;> try omega
        rw [b] at h
        simp only [cons_eq1] at h
        refine ⟨?_, fun i hi => ?_, hs⟩
        · rcases more_cases x0 with ⟨e, f⟩ | ⟨e, f⟩ | ⟨e, f⟩ | ⟨e, f⟩ <;> omega
        · obtain rfl : i = 0 := by omega
          refine ⟨by simp, ?_⟩
          simp only [List.getD_cons_zero]
          omega
    · match xs, hl with
      | x0 :: x1 :: x2 :: r, _ =>
        simp only [List.take_succ_cons, List.take_zero, List.getD_cons_zero, List.getD_cons_succ, valK] at h ⊢ hs
        have hb0 := hx x0 (by simp)
        have hb1 := hx x1 (by simp)
        have hb2 := hx x2 (by simp)
        rcases form_cases (64 * (64 * (x0 - markI (moreI x0)) + (x1 + 128) % 256) + (x2 + 128) % 256) with ⟨a, b, c⟩ | ⟨a, b, c⟩ | ⟨a, b, c⟩ | ⟨a, b, c⟩ | ⟨a, b, c⟩ <;> try omega
        rw [b] at h
        simp only [cons_eq1] at h
        refine ⟨?_, fun i hi => ?_, hs⟩
        · rcases more_cases x0 with ⟨e, f⟩ | ⟨e, f⟩ | ⟨e, f⟩ | ⟨e, f⟩ <;> omega
        · rcases (show i = 0 ∨ i = 1 by omega) with rfl | rfl
          all_goals
            refine ⟨by simp, ?_⟩
            simp only [List.getD_cons_zero, List.getD_cons_succ]
            omega
    · match xs, hl with
      | x0 :: x1 :: x2 :: x3 :: r, _ =>
        simp only [List.take_succ_cons, List.take_zero, List.getD_cons_zero, List.getD_cons_succ, valK] at h ⊢ hs
        have hb0 := hx x0 (by simp)
        have hb1 := hx x1 (by simp)
        have hb2 := hx x2 (by simp)
        have hb3 := hx x3 (by simp)
        rcases form_cases (64 * (64 * (64 * (x0 - markI (moreI x0)) + (x1 + 128) % 256) + (x2 + 128) % 256) + (x3 + 128) % 256) with ⟨a, b, c⟩ | ⟨a, b, c⟩ | ⟨a, b, c⟩ | ⟨a, b, c⟩ | ⟨a, b, c⟩ <;> try omega
        rw [b] at h
        simp only [cons_eq1] at h
        refine ⟨?_, fun i hi => ?_, hs⟩
        · rcases more_cases x0 with ⟨e, f⟩ | ⟨e, f⟩ | ⟨e, f⟩ | ⟨e, f⟩ <;> omega
        · rcases (show i = 0 ∨ i = 1 ∨ i = 2 by omega) with rfl | rfl | rfl
          all_goals
            refine ⟨by simp, ?_⟩
            simp only [List.getD_cons_zero, List.getD_cons_succ]
            omega
  · rintro ⟨hm, hg, hs⟩
    rcases (show k = 0 ∨ k = 1 ∨ k = 2 ∨ k = 3 by omega) with rfl | rfl | rfl | rfl
    · match xs, hl with
      | x0 :: r, _ =>
        simp only [List.take_succ_cons, List.take_zero, List.getD_cons_zero, valK] at hm hs ⊢
        rw [hm] at hs ⊢
        simp only [markI] at hs ⊢
        rcases form_cases (x0 - 0) with ⟨a, b, c⟩ | ⟨a, b, c⟩ | ⟨a, b, c⟩ | ⟨a, b, c⟩ | ⟨a, b, c⟩ <;> try omega
        rw [b]
        simp only [cons_eq1, and_true]
        omega
    · match xs, hl with
      | x0 :: x1 :: r, _ =>
        have h0 := (hg 0 (by omega)).2
        simp only [List.take_succ_cons, List.take_zero, List.getD_cons_zero, List.getD_cons_succ, valK] at hm hs h0 ⊢
        rw [hm] at hs ⊢
        simp only [markI] at hs ⊢
        rcases form_cases (64 * (x0 - 192) + (x1 + 128) % 256) with ⟨a, b, c⟩ | ⟨a, b, c⟩ | ⟨a, b, c⟩ | ⟨a, b, c⟩ | ⟨a, b, c⟩ <;> try omega
        rw [b]
        simp only [cons_eq1, and_true]
        omega
    · match xs, hl with
      | x0 :: x1 :: x2 :: r, _ =>
        have h0 := (hg 0 (by omega)).2
        have h1 := (hg 1 (by omega)).2
        simp only [List.take_succ_cons, List.take_zero, List.getD_cons_zero, List.getD_cons_succ, valK] at hm hs h0 h1 ⊢
        rw [hm] at hs ⊢
        simp only [markI] at hs ⊢
        rcases form_cases (64 * (64 * (x0 - 224) + (x1 + 128) % 256) + (x2 + 128) % 256) with ⟨a, b, c⟩ | ⟨a, b, c⟩ | ⟨a, b, c⟩ | ⟨a, b, c⟩ | ⟨a, b, c⟩ <;> try omega
        rw [b]
        simp only [cons_eq1, and_true]
        omega
    · match xs, hl with
      | x0 :: x1 :: x2 :: x3 :: r, _ =>
        have h0 := (hg 0 (by omega)).2
        have h1 := (hg 1 (by omega)).2
        have h2 := (hg 2 (by omega)).2
        simp only [List.take_succ_cons, List.take_zero, List.getD_cons_zero, List.getD_cons_succ, valK] at hm hs h0 h1 h2 ⊢
        rw [hm] at hs ⊢
        simp only [markI] at hs ⊢
        rcases form_cases (64 * (64 * (64 * (x0 - 240) + (x1 + 128) % 256) + (x2 + 128) % 256) + (x3 + 128) % 256) with ⟨a, b, c⟩ | ⟨a, b, c⟩ | ⟨a, b, c⟩ | ⟨a, b, c⟩ | ⟨a, b, c⟩ <;> try omega
        rw [b]
        simp only [cons_eq1, and_true]
        omega
end Utf
end Go.Proofs.YthifoodhndjmdaaDoor

/- What a commit that breaks off leaves of a label's sector, and what is chosen then (plain mathematics). No conditions but those that stand in each lemma. -/
import Derived.Test.YtcolicmefehcnaaDoorLblNums
namespace Go.Proofs.YtcolicmefehcnaaDoor
open Go.RowKit

theorem mini_ok (a b : Int) (h1 : 1 ≤ a) (h2 : a ≤ 1152921504606846976) (h3 : 1 ≤ b) (h4 : b ≤ 1152921504606846976) : (Lb.mk a Pt.zero b).Ok ∧ (Lb.mk a Pt.zero b).right = true :=
  ⟨⟨by show _ ≤ a; omega, by show a ≤ _; omega, Pt.zero_ok, by show _ ≤ b; omega, by show b ≤ _; omega⟩, Lb.right_iff.2 ⟨⟨h1, h2⟩, ⟨h3, h4⟩, .inl (Pt.same_self _)⟩⟩
/-- The other sector as it was. -/
def otherB (e : Int) : List Int := if 1 < e then sealB ⟨e - 1, Pt.zero, 1⟩ else zerosL 512
/-- The first bytes of the next label, with the others of that sector. -/
def tornB (e m : Int) (cut : Nat) : List Int := (sealB ⟨e + 1, Pt.zero, m⟩).take cut ++ (otherB e).drop cut
theorem otherB_length (e : Int) : (otherB e).length = 512 := by
  unfold otherB
  split
  · exact sealB_length _ rfl
  · exact zerosL_length _
theorem otherB_bytes (e : Int) : IsBytes (otherB e) := by
  unfold otherB
  split
  · exact sealB_bytes _ Pt.zero_ok.shaB
  · exact zerosL_bytes _
theorem tornB_length (e m : Int) (cut : Nat) (h : cut ≤ 512) : (tornB e m cut).length = 512 := by
  unfold tornB
  rw [List.length_append, List.length_take, List.length_drop, otherB_length, sealB_length _ rfl]
  omega
theorem tornB_bytes (e m : Int) (cut : Nat) : IsBytes (tornB e m cut) := ((sealB_bytes _ Pt.zero_ok.shaB).take _).append ((otherB_bytes e).drop _)
theorem seal_tail (l : Lb) (h : l.root.sha.length = 32) : (sealB l).drop 504 = e8 l.epoch := by
  have hl : (bodyB l ++ e4 (sumB l)).length = 504 := by rw [List.length_append, bodyB_length l h, e4_length]
  unfold sealB
  rw [← hl, List.drop_left]
theorem torn_tail (e m : Int) (cut : Nat) (h : cut ≤ 504) : (tornB e m cut).drop 504 = (otherB e).drop 504 := by
  have hl : ((sealB ⟨e + 1, Pt.zero, m⟩).take cut).length = cut := by rw [List.length_take, sealB_length _ rfl]; omega
  unfold tornB
  rw [List.drop_append, hl, List.drop_eq_nil_of_le (by rw [hl]; exact h), List.nil_append, List.drop_drop, show cut + (504 - cut) = 504 by omega]
theorem torn_all (e m : Int) : tornB e m 512 = sealB ⟨e + 1, Pt.zero, m⟩ := by
  unfold tornB
  rw [List.take_of_length_le (by rw [sealB_length _ rfl]; exact Nat.le_refl _), List.drop_eq_nil_of_le (by rw [otherB_length]; exact Nat.le_refl _), List.append_nil]
theorem zeros_num : ((numOf ((zerosL 512).drop 504) : Nat) : Int) = 0 := by
  have : (zerosL 512).drop 504 = zerosL 8 := by unfold zerosL; rw [List.drop_replicate]
  rw [this]
  decide
/-- What is opened of it. -/
theorem torn_open {e m : Int} (he1 : 1 ≤ e) (he2 : e ≤ 268435456) (hm1 : 1 ≤ m) (hm2 : m ≤ 65536) {cut : Nat} (hc : cut ≤ 512) (h : openE (tornB e m cut) = 0) :
    (openL (tornB e m cut) = ⟨e + 1, Pt.zero, m⟩ ∧ tornB e m cut = sealB ⟨e + 1, Pt.zero, m⟩) ∨ (openL (tornB e m cut)).epoch = e - 1 := by
  have hl := tornB_length e m cut hc
  obtain ⟨_, e1, hr, e2⟩ := open_spec h
  rw [List.take_of_length_le (by omega)] at e2
  rw [e1]
  by_cases h5 : cut ≤ 504
  · refine .inr ?_
    have t1 := torn_tail e m cut h5
    have t2 := seal_tail (lbOf (tornB e m cut)) (lbOf_ok _ (tornB_bytes e m cut)).root.shaL
    rw [e2, t1] at t2
    have hb := (Lb.right_iff.1 hr).1
    have hn := e8_num (lbOf (tornB e m cut)).epoch
    rw [← t2, u64w_id (by omega) (by omega)] at hn
    unfold otherB at hn
    split at hn
    · rw [seal_tail _ rfl, e8_num, u64w_id (by show 0 ≤ e - 1; omega) (by show e - 1 ≤ _; omega)] at hn
      exact hn.symm
    · rw [zeros_num] at hn
      omega
  · refine .inl ?_
    have hok := mini_ok (e + 1) m (by omega) (by omega) (by omega) (by omega)
    have h72 : (tornB e m cut).take 72 = (sealB ⟨e + 1, Pt.zero, m⟩).take 72 := by
      unfold tornB
      rw [List.take_append_of_le_length (by rw [List.length_take, sealB_length _ rfl]; omega), List.take_take, Nat.min_eq_left (by omega)]
    have hlb := lbOf_first (by omega) (by rw [sealB_length _ rfl]; exact Nat.le_refl _) h72
    have hse := (lbOf_seal hok.1 hok.2 []).1
    rw [List.append_nil] at hse
    rw [hse] at hlb
    rw [hlb] at e2 ⊢
    exact ⟨rfl, e2.symm⟩
theorem tmod_two {e : Int} (h : 0 ≤ e) : e.tmod 2 = e % 2 := Int.tmod_eq_emod_of_nonneg h
/-- Which label counts then. -/
theorem torn_chosen {e n m : Int} (he1 : 1 ≤ e) (he2 : e ≤ 268435456) (hn1 : 1 ≤ n) (hn2 : n ≤ 65536) (hm1 : 1 ≤ m) (hm2 : m ≤ 65536) {cut : Nat} (hc : cut ≤ 512) :
    ∃ r : Lb, (e.tmod 2 = 0 → chooseL (sealB ⟨e, Pt.zero, n⟩) (tornB e m cut) = r) ∧ (e.tmod 2 ≠ 0 → chooseL (tornB e m cut) (sealB ⟨e, Pt.zero, n⟩) = r) ∧ r.root.sha.length = 32 ∧ Lb.same r Lb.zero = false ∧
      ((r = ⟨e, Pt.zero, n⟩ ∧ cut < 512) ∨ (r = ⟨e + 1, Pt.zero, m⟩ ∧ tornB e m cut = sealB ⟨e + 1, Pt.zero, m⟩)) := by
  have hw := mini_ok e n (by omega) (by omega) (by omega) (by omega)
  have hnw := mini_ok (e + 1) m (by omega) (by omega) (by omega) (by omega)
  have how := (open_seal' hw.1 hw.2).2
  have hy : (openL (tornB e m cut) = ⟨e + 1, Pt.zero, m⟩ ∧ tornB e m cut = sealB ⟨e + 1, Pt.zero, m⟩) ∨ ((openL (tornB e m cut)).epoch < e ∧ cut < 512) := by
    by_cases h : openE (tornB e m cut) = 0
    · rcases torn_open he1 he2 hm1 hm2 hc h with h1 | h1
      · exact .inl h1
      · refine .inr ⟨by omega, ?_⟩
        rcases Nat.lt_or_ge cut 512 with h2 | h2
        · exact h2
        · obtain rfl : cut = 512 := by omega
          rw [torn_all, (open_seal' hnw.1 hnw.2).2] at h1
          have h1' : e + 1 = e - 1 := h1
          omega
    · refine .inr ⟨by rw [openL_none h, zero_epoch]; omega, ?_⟩
      rcases Nat.lt_or_ge cut 512 with h2 | h2
      · exact h2
      · obtain rfl : cut = 512 := by omega
        rw [torn_all, (open_seal' hnw.1 hnw.2).1] at h
        exact absurd rfl h
  have t0 := tmod_two (e := e) (by omega)
  have t1 := tmod_two (e := e + 1) (by omega)
  obtain ⟨y, hyd⟩ : ∃ y, y = openL (tornB e m cut) := ⟨_, rfl⟩
  rw [← hyd] at hy
  rcases hy with ⟨_, hb⟩ | ⟨hlt, hcut⟩
  · refine ⟨⟨e + 1, Pt.zero, m⟩, fun h => ?_, fun h => ?_, rfl, ne_zero (by show 0 < e + 1; omega), .inr ⟨rfl, hb⟩⟩
    · unfold chooseL
      rw [hb, how, (open_seal' hnw.1 hnw.2).2]
      have s1 : stepC 0 Lb.zero ⟨e, Pt.zero, n⟩ = ⟨e, Pt.zero, n⟩ := if_pos ⟨h, by rw [zero_epoch]; show 0 < e; omega⟩
      rw [s1]
      exact if_pos ⟨by show (e + 1).tmod 2 = 1; omega, by show e < e + 1; omega⟩
    · unfold chooseL
      rw [hb, how, (open_seal' hnw.1 hnw.2).2]
      have s1 : stepC 0 Lb.zero ⟨e + 1, Pt.zero, m⟩ = ⟨e + 1, Pt.zero, m⟩ := if_pos ⟨by show (e + 1).tmod 2 = 0; omega, by rw [zero_epoch]; show 0 < e + 1; omega⟩
      rw [s1]
      exact if_neg fun hh => by have : e + 1 < e := hh.2; omega
  · refine ⟨⟨e, Pt.zero, n⟩, fun h => ?_, fun h => ?_, rfl, ne_zero (by show 0 < e; omega), .inl ⟨rfl, hcut⟩⟩
    · unfold chooseL
      rw [how, ← hyd]
      have s1 : stepC 0 Lb.zero ⟨e, Pt.zero, n⟩ = ⟨e, Pt.zero, n⟩ := if_pos ⟨h, by rw [zero_epoch]; show 0 < e; omega⟩
      rw [s1]
      exact if_neg fun hh => by have : e < y.epoch := hh.2; omega
    · unfold chooseL
      rw [how, ← hyd]
      have s1 : (stepC 0 Lb.zero y).epoch < e := by
        unfold stepC
        split
        · exact hlt
        · rw [zero_epoch]; omega
      exact if_pos ⟨by show e.tmod 2 = 1; omega, s1⟩
end Go.Proofs.YtcolicmefehcnaaDoor

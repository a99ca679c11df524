/- The document's Decimal, for any int. -/
import Derived.Test.YteapddoanggniaaDoorDecNums
import Derived.Test.YteapddoanggniaaDoorDigitRef
import Derived.LoopTactic
namespace Go.Proofs.YteapddoanggniaaDoor
open Go.RowKit

set_option maxHeartbeats 1000000 in
theorem decRef_nat (u : Nat) : u ≤ 9223372036854775807 → ∀ w : World, Calls Tryd.prog 8 #[.int .i64 (u : Int)] w fun e w' => e = .returned (.string (strOfNums (decN u))) ∧ w' = w := by
  induction u using Nat.strongRecOn with
  | _ u ih =>
    intro hu w
    by_cases hs : u < 10
    · have C := Lib.hid (fun w' => digit_any (u : Int) w' (by omega) (by omega))
      rw [decN_small hs]
      clear ih
      generalize strOfNums [digI u] = T at *
      go_enter Tryd.func8, Tryd.ntmps8
      go_wp2_with fail
      refine (C.out _).mono ?_
      rintro e w1 ⟨rfl, rfl⟩
      go_wp2_with fail
      go_ret
      exact ⟨rfl, rfl⟩
    · have C := Lib.hid (ih (u / 10) (by omega) (by omega))
      have D := Lib.hid (fun w' => digit_any ((u % 10 : Nat) : Int) w' (by omega) (by omega))
      have hl : (strOfNums (decN (u / 10))).size ≤ 20 := by
        rw [nums_size]
        have := (decN_len (u := u / 10) 19 (by omega)).2
        omega
      have hl2 : (strOfNums [digI ((u % 10 : Nat) : Int)]).size = 1 := nums_size _
      have HA := Lib.hid (show strOfNums (decN (u / 10)) ++ strOfNums [digI ((u % 10 : Nat) : Int)] = strOfNums (decN u) by rw [nums_append, ← decN_big hs])
      generalize strOfNums (decN (u / 10)) = T at *
      generalize strOfNums [digI ((u % 10 : Nat) : Int)] = S at *
      have hq : (u : Int).tdiv 10 = ((u / 10 : Nat) : Int) := by rw [Int.tdiv_eq_ediv_of_nonneg (by omega)]; omega
      have hr : (u : Int).tmod 10 = ((u % 10 : Nat) : Int) := by rw [Int.tmod_eq_emod_of_nonneg (by omega)]; omega
      clear ih
      go_enter Tryd.func8, Tryd.ntmps8
      go_wp2_with fail
      refine (C.out _).mono ?_
      rintro e w1 ⟨rfl, rfl⟩
      go_wp2_with fail
      refine (D.out _).mono ?_
      rintro e w1 ⟨rfl, rfl⟩
      go_wp2_with fail
      go_ret
      exact ⟨by rw [← HA.out]; rfl, rfl⟩

/-- The digits that are still to come. -/
def decP (v : Nat) : List Int := if v = 0 then [] else decN v
theorem decP_step {v : Nat} (h : v ≠ 0) : decP v = decP (v / 10) ++ [digI ((v % 10 : Nat) : Int)] := by
  unfold decP
  rw [if_neg h]
  by_cases hs : v < 10
  · rw [if_pos (by omega), decN_small hs, show v % 10 = v by omega]
    rfl
  · rw [if_neg (by omega), decN_big hs]
def NegAt (w : World) (u : Nat) (s i : Value) (wr : World) : Prop :=
  ∃ (v : Nat) (S : List Int), v ≤ u ∧ i = .int .i64 (-(v : Int)) ∧ s = .string (strOfNums S) ∧ decP v ++ S = decN u ∧ wr = w
set_option maxHeartbeats 1000000 in
theorem decRef_neg (u : Nat) (hu0 : 0 < u) (hu : u ≤ 9223372036854775808) (w : World) : Calls Tryd.prog 8 #[.int .i64 (-(u : Int))] w fun e w' => e = .returned (.string (strOfNums (45 :: decN u))) ∧ w' = w := by
  have Hlen := Lib.hid ((decN_len (u := u) 19 (by omega)).2)
  have HZ := Lib.hid (show ∀ v : Nat, v ≤ 9223372036854775808 → ∀ n : Int, n = -(v : Int) → n.tdiv 10 = -((v / 10 : Nat) : Int) ∧ n.tmod 10 = -((v % 10 : Nat) : Int) from fun v _ n hn => by
    subst hn
    rw [Int.neg_tdiv, Int.neg_tmod, Int.tdiv_eq_ediv_of_nonneg (by omega), Int.tmod_eq_emod_of_nonneg (by omega)]
    omega)
  go_enter Tryd.func8, Tryd.ntmps8
  go_wp2_with fail
  go_loopw [3, 0] (fun s i wr => NegAt w u s i wr) (fun _ i _ => (-(intOf i)).toNat)
  case atStart => exact ⟨u, [], Nat.le_refl _, rfl, rfl, by rw [List.append_nil]; unfold decP; rw [if_neg (by omega)], rfl⟩
  case round =>
    obtain ⟨v, S, hv, rfl, rfl, hS, rfl⟩ := hrel
    have HS := Lib.hid hS
    clear hS
    by_cases h0 : v = 0
    · subst h0
      have e : S = decN u := HS.out
      subst e
      have HA := Lib.hid (show (⟨#[45]⟩ : ByteArray) ++ strOfNums (decN u) = strOfNums (45 :: decN u) from nums_append [45] (decN u))
      have hl : (strOfNums (decN u)).size ≤ 20 := by rw [nums_size]; exact Hlen.out
      generalize strOfNums (decN u) = T at *
      go_wp2_with fail
      go_ret
      exact ⟨by rw [← HA.out]; rfl, rfl⟩
    · obtain ⟨q, hq⟩ : ∃ q, v / 10 = q := ⟨_, rfl⟩
      obtain ⟨r, hr⟩ : ∃ r, v % 10 = r := ⟨_, rfl⟩
      have HN := Lib.hid (show decP q ++ (digI (r : Int) :: S) = decN u by
        rw [← HS.out, decP_step h0, List.append_assoc, hq, hr]
        rfl)
      obtain ⟨z1, z2⟩ := HZ.out v (by omega) _ rfl
      rw [hq] at z1
      rw [hr] at z2
      have C := Lib.hid (fun w' => digit_any (r : Int) w' (by omega) (by omega))
      have hSl : (strOfNums S).size ≤ 20 := by
        rw [nums_size]
        have := congrArg List.length HS.out
        rw [List.length_append] at this
        have := Hlen.out
        omega
      have hl2 : (strOfNums [digI (r : Int)]).size = 1 := nums_size _
      have HA := Lib.hid (show strOfNums [digI (r : Int)] ++ strOfNums S = strOfNums (digI (r : Int) :: S) from nums_append _ _)
      generalize strOfNums S = T at *
      generalize strOfNums [digI (r : Int)] = D at *
      have r10 : r < 10 := by omega
      have q10 : 10 * q + r = v := by omega
      clear hq hr
      go_wp2_with fail
      refine (C.out _).mono ?_
      rintro e w1 ⟨rfl, rfl⟩
      go_wp2_with fail
      go_roundw
      case rel => exact ⟨q, digI (r : Int) :: S, by omega, rfl, by rw [← HA.out], HN.out, rfl⟩
      case measure => simp [intOf]; omega
theorem decRef_any (n : Int) (w : World) (h0 : -9223372036854775808 ≤ n) (h1 : n ≤ 9223372036854775807) :
    Calls Tryd.prog 8 #[.int .i64 n] w fun e w' => e = .returned (.string (strOfNums (decI n))) ∧ w' = w := by
  unfold decI
  by_cases h : n < 0
  · rw [if_pos h]
    obtain ⟨u, hu⟩ : ∃ u : Nat, n = -(u : Int) := ⟨n.natAbs, by omega⟩
    subst hu
    rw [show (-(u : Int)).natAbs = u by omega]
    exact decRef_neg u (by omega) (by omega) w
  · rw [if_neg h]
    obtain ⟨u, rfl⟩ := Int.eq_ofNat_of_zero_le (show 0 ≤ n by omega)
    exact decRef_nat u (by omega) w
end Go.Proofs.YteapddoanggniaaDoor

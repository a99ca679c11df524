/- Join and what it calls: products and powers modulo the polynomial. No conditions but those that stand in each lemma. -/
import Derived.Test.YtffghnlehblcfaaDoorGo
namespace Go.Proofs.YtffghnlehblcfaaDoor
open Go.RowKit

theorem bit0_uv (s : Wd) : bits .and .u32 (uv s) 1 = if s.getLsbD 0 then 1 else 0 := by
  rw [and_uv, uv_ofInt]
  have e : s &&& BitVec.ofInt 32 1 = if s.getLsbD 0 then 1#32 else 0#32 := by
    apply BitVec.eq_of_getLsbD_eq
    intro i hi
    rw [BitVec.getLsbD_and]
    rcases Nat.eq_zero_or_pos i with rfl | hp
    · cases h : s.getLsbD 0 <;> simp
    · have h1 : (BitVec.ofInt 32 1 : Wd).getLsbD i = false := by
        have : ∀ j : Fin 32, 0 < j.val → (BitVec.ofInt 32 1 : Wd).getLsbD j.val = false := by decide
        exact this ⟨i, hi⟩ hp
      have h2 : (1#32 : Wd).getLsbD i = false := h1
      rw [h1]
      cases h : s.getLsbD 0
      · simp
      · simp only [if_true, h2, Bool.and_false]
  rw [e]
  split <;> rfl

set_option maxHeartbeats 400000 in
theorem timesX_any (p : Wd) (w : World) : Calls Tryd.prog 11 #[.int .u32 (uv p)] w fun e w' => e = .returned (.int .u32 (uv (stepW p))) ∧ w = w' := by
  have hb := bit0_uv p
  cases h : p.getLsbD 0 with
  | true =>
    have hand : bits .and .u32 (uv p) 1 = 1 := by rw [hb, h]; rfl
    have HX := Lib.hid (show bits .xor .u32 (uv p / 2) 2197175160 = uv (stepW p) by
      rw [xor_uv, show (2 : Int) = 2 ^ 1 from rfl, shr_uv, uv_ofInt]; unfold stepW; rw [h]; rfl)
    clear hb h
    go_enter Tryd.func11, Tryd.ntmps11
    go_wp2
    go_ret
    exact ⟨by rw [← HX.out]; rfl, rfl⟩
  | false =>
    have hand : bits .and .u32 (uv p) 1 = 0 := by rw [hb, h]; rfl
    have HX := Lib.hid (show uv p / 2 = uv (stepW p) by
      rw [show (2 : Int) = 2 ^ 1 from rfl, shr_uv, stepW_even h])
    clear hb h
    go_enter Tryd.func11, Tryd.ntmps11
    go_wp2
    go_ret
    exact ⟨by rw [← HX.out]; rfl, rfl⟩

/-- At a round's head of a product. -/
def ProdAt (p q : Wd) (u v i : Value) : Prop := ∃ k : Nat, k ≤ 32 ∧ i = .int .i64 k ∧ u = .int .u32 (uv (stepsW k q)) ∧ v = .int .u32 (uv (prodW p q k))
set_option maxHeartbeats 1000000 in
theorem product_any (p q : Wd) (w : World) : Calls Tryd.prog 9 #[.int .u32 (uv p), .int .u32 (uv q)] w fun e w' => e = .returned (.int .u32 (uv (prodW p q 32))) ∧ w = w' := by
  go_enter Tryd.func9, Tryd.ntmps9
  go_wp2_with fail
  go_loop [1, 5, 7] (fun u v i => ProdAt p q u v i) (fun _ _ i => 32 - (intOf i).toNat)
  case atStart => exact ⟨0, by omega, rfl, rfl, rfl⟩
  case round =>
    obtain ⟨k, hk, rfl, rfl, rfl⟩ := hrel
    by_cases hlt : k < 32
    · obtain ⟨j, hj⟩ : ∃ j : Nat, 31 - (k : Int) = (j : Int) := ⟨31 - k, by omega⟩
      have hj2 : j ≤ 31 := by omega
      have hsh := shr_uv p j
      have hb := bit0_uv (p >>> j)
      have hbit : (p >>> j).getLsbD 0 = p.getLsbD (31 - k) := by rw [BitVec.getLsbD_ushiftRight, show j + 0 = 31 - k by omega]
      rw [hbit] at hb
      have HS := Lib.hid (show prodW p q (k + 1) = prodW p q k ^^^ (if p.getLsbD (31 - k) then stepsW k q else 0#32) from rfl)
      have HU := Lib.hid (stepsW_succ k q)
      cases h : p.getLsbD (31 - k) with
      | true =>
        have hand : bits .and .u32 (uv (p >>> j)) 1 = 1 := by rw [hb, h]; rfl
        have hx := xor_byte (prodW p q k) (uv (stepsW k q))
        rw [uv_ofInt] at hx
        have HP := Lib.hid (show prodW p q (k + 1) = prodW p q k ^^^ stepsW k q by rw [HS.out, h]; rfl)
        clear hb hbit h HS
        go_wp2_with fail
        refine (timesX_any _ _).mono ?_
        rintro e w' ⟨rfl, rfl⟩
        clear hx hand hsh hj
        go_wp2_with fail
        go_round
        case rel => exact ⟨k + 1, by omega, by go_num, by rw [HU.out], by rw [HP.out]⟩
        case measure => simp [intOf]; omega
      | false =>
        have hand : bits .and .u32 (uv (p >>> j)) 1 = 0 := by rw [hb, h]; rfl
        have HP := Lib.hid (show prodW p q (k + 1) = prodW p q k by rw [HS.out, h]; exact BitVec.xor_zero)
        clear hb hbit h HS
        go_wp2_with fail
        refine (timesX_any _ _).mono ?_
        rintro e w' ⟨rfl, rfl⟩
        clear hand hsh hj
        go_wp2_with fail
        go_round
        case rel => exact ⟨k + 1, by omega, by go_num, by rw [HU.out], by rw [HP.out]⟩
        case measure => simp [intOf]; omega
    · obtain rfl : k = 32 := by omega
      go_wp2_with fail
      go_ret
      exact ⟨rfl, rfl⟩

theorem odd_i64 (m : Nat) (h : m ≤ 1000000) : bits .and .i64 (m : Int) 1 = ((m % 2 : Nat) : Int) := by
  have e : (BitVec.ofInt 64 (m : Int) &&& BitVec.ofInt 64 1).toNat = m % 2 := by
    rw [BitVec.toNat_and, BitVec.ofInt_natCast, BitVec.toNat_ofNat, show (BitVec.ofInt 64 1).toNat = 1 from rfl, Nat.and_one_is_mod, Nat.mod_eq_of_lt (show m < 2 ^ 64 by omega)]
  show IntKind.i64.wrap ((BitVec.ofInt 64 (m : Int) &&& BitVec.ofInt 64 1).toNat : Int) = _
  rw [e]
  rcases Nat.mod_two_eq_zero_or_one m with h | h <;> rw [h] <;> rfl
theorem pow_even {k j m N : Nat} (h : k + j * m = N) (hd : 2 * (m / 2) + 0 = m) : k + (j + j) * (m / 2) = N := by
  rw [← h]
  conv => rhs; rw [← hd]
  rw [Nat.add_zero, ← Nat.mul_assoc, Nat.mul_two]
theorem pow_odd {k j m N : Nat} (h : k + j * m = N) (hd : 2 * (m / 2) + 1 = m) : k + j + (j + j) * (m / 2) = N := by
  rw [← h]
  conv => rhs; rw [← hd]
  rw [Nat.mul_add, ← Nat.mul_assoc, Nat.mul_two, Nat.mul_one]
  omega
/-- At a round's head of a power: what is left to do comes to N steps. -/
def PowAt (N : Nat) (u v i : Value) : Prop := ∃ m j k : Nat, i = .int .i64 m ∧ u = .int .u32 (uv (stepsW j oneW)) ∧ v = .int .u32 (uv (stepsW k oneW)) ∧ k + j * m = N ∧ m ≤ 1000000
theorem prodW_pows (a b : Nat) : prodW (stepsW a oneW) (stepsW b oneW) 32 = stepsW (a + b) oneW := by rw [prodW_pow, ← stepsW_add]
set_option maxHeartbeats 1000000 in
theorem power_any (j n : Nat) (w : World) (hn : n ≤ 1000000) : Calls Tryd.prog 10 #[.int .u32 (uv (stepsW j oneW)), .int .i64 n] w fun e w' => e = .returned (.int .u32 (uv (stepsW (j * n) oneW))) ∧ w = w' := by
  go_enter Tryd.func10, Tryd.ntmps10
  go_wp2_with fail
  go_loop [0, 1, 5] (fun u i v => PowAt (j * n) u v i) (fun _ i _ => (intOf i).toNat)
  case atStart => exact ⟨n, j, 0, rfl, rfl, rfl, by omega, hn⟩
  case round =>
    obtain ⟨m, j', k, rfl, rfl, rfl, hN, hm⟩ := hrel
    have HN := Lib.hid hN
    clear hN
    have HQ := Lib.hid (prodW_pows j' j')
    have HK := Lib.hid (prodW_pows k j')
    by_cases h0 : 0 < m
    · have hand := odd_i64 m hm
      have hd := Nat.div_add_mod m 2
      rcases Nat.mod_two_eq_zero_or_one m with h | h
      · rw [h] at hand hd
        have HN2 := Lib.hid (pow_even HN.out hd)
        clear h hd HN
        go_wp2_with fail
        refine (product_any _ _ _).mono ?_
        rintro e w' ⟨rfl, rfl⟩
        go_wp2_with fail
        go_round
        case rel => exact ⟨m / 2, j' + j', k, by go_num, by rw [HQ.out], rfl, HN2.out, by omega⟩
        case measure => simp [intOf]; omega
      · rw [h] at hand hd
        have HN2 := Lib.hid (pow_odd HN.out hd)
        clear h hd HN
        go_wp2_with fail
        refine (product_any _ _ _).mono ?_
        rintro e w' ⟨rfl, rfl⟩
        go_wp2_with fail
        refine (product_any _ _ _).mono ?_
        rintro e w' ⟨rfl, rfl⟩
        go_wp2_with fail
        go_round
        case rel => exact ⟨m / 2, j' + j', k + j', by go_num, by rw [HQ.out], by rw [HK.out], HN2.out, by omega⟩
        case measure => simp [intOf]; omega
    · obtain rfl : m = 0 := by omega
      have HE := Lib.hid (show stepsW k oneW = stepsW (j * n) oneW by rw [← HN.out]; rfl)
      go_wp2_with fail
      go_ret
      exact ⟨ret_uv HE.out, rfl⟩

set_option maxHeartbeats 400000 in
theorem join_any (a b : Wd) (n : Nat) (w : World) (h0 : 0 < n) (hn : n ≤ 1000000) : Calls Tryd.prog 7 #[.int .u32 (uv a), .int .u32 (uv b), .int .i64 n] w fun e w' => e = .returned (.int .u32 (uv (stepsW (8 * n) a ^^^ b))) ∧ w = w' := by
  have h1 : decide ((n : Int) < 1) = false := by simp; omega
  go_enter Tryd.func7, Tryd.ntmps7
  go_wp2_with fail
  have hp := power_any 8 n w hn
  rw [byteW] at hp
  refine hp.mono ?_
  rintro e w' ⟨rfl, rfl⟩
  go_wp2_with fail
  refine (product_any _ _ _).mono ?_
  rintro e w' ⟨rfl, rfl⟩
  have hx := xor_byte (prodW a (stepsW (8 * n) oneW) 32) (uv b)
  rw [uv_ofInt] at hx
  have HP := Lib.hid (prodW_pow a (8 * n))
  go_wp2_with fail
  go_ret
  exact ⟨by rw [← HP.out]; rfl, rfl⟩
/-- Of no bytes: the sum stays. -/
theorem join_none (a b : Wd) (w : World) : Calls Tryd.prog 7 #[.int .u32 (uv a), .int .u32 (uv b), .int .i64 0] w fun e w' => e = .returned (.int .u32 (uv a)) ∧ w = w' := by
  go_enter Tryd.func7, Tryd.ntmps7
  go_wp2
  go_ret
  exact ⟨rfl, rfl⟩
/-- What Join tells of the sums of two rows. -/
theorem join_sums (xs ys : List Int) (n : Nat) (w : World) (hn : n = ys.length) (hl : n ≤ 1000000) :
    Calls Tryd.prog 7 #[.int .u32 (uv (goW 0#32 xs)), .int .u32 (uv (goW 0#32 ys)), .int .i64 n] w fun e w' => e = .returned (.int .u32 (uv (goW 0#32 (xs ++ ys)))) ∧ w = w' := by
  rcases Nat.eq_zero_or_pos n with h | h
  · subst h
    obtain rfl : ys = [] := List.eq_nil_of_length_eq_zero hn.symm
    rw [List.append_nil]
    exact join_none _ _ w
  · rw [← goW_join, ← hn]
    exact join_any _ _ n w h hl
end Go.Proofs.YtffghnlehblcfaaDoor

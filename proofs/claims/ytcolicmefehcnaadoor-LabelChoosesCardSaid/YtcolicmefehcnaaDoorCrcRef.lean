/- The document's sum CRC-32C: turn is xor, bit by bit; Go is the fold, eight steps a byte: for any sum and any bytes (at most 1000000). -/
import Derived.Test.YtcolicmefehcnaaDoorGo
namespace Go.Proofs.YtcolicmefehcnaaDoor
open Go.RowKit

theorem xor_next (A B i : Nat) : (A ^^^ B) % 2 ^ (i + 1) = (A ^^^ B) % 2 ^ i + (if A / 2 ^ i % 2 = B / 2 ^ i % 2 then 0 else 2 ^ i) := by
  have h1 : (A ^^^ B) % 2 ^ (i + 1) = (A ^^^ B) % 2 ^ i + 2 ^ i * ((A ^^^ B) / 2 ^ i % 2) := by rw [Nat.pow_succ, Nat.mod_mul]
  have h2 : (A ^^^ B) / 2 ^ i % 2 = (A / 2 ^ i % 2 + B / 2 ^ i % 2) % 2 := by
    have hx : ∀ X : Nat, X / 2 ^ i % 2 = (X.testBit i).toNat := fun X => by rw [Nat.testBit_eq_decide_div_mod_eq]; rcases Nat.mod_two_eq_zero_or_one (X / 2 ^ i) with h | h <;> simp [h]
    rw [hx, hx A, hx B, Nat.testBit_xor]
    cases A.testBit i <;> cases B.testBit i <;> rfl
  rw [h1, h2]
  rcases Nat.mod_two_eq_zero_or_one (A / 2 ^ i) with ha | ha <;> rcases Nat.mod_two_eq_zero_or_one (B / 2 ^ i) with hb | hb <;> simp [ha, hb]
/-- At a round's head: so many bits are turned. -/
def TurnAt (A B : Nat) (va vb vo vp vi : Value) : Prop :=
  ∃ i : Nat, i ≤ 32 ∧ vi = .int .i64 (i : Int) ∧ va = .int .u32 ((A / 2 ^ i : Nat) : Int) ∧ vb = .int .u32 ((B / 2 ^ i : Nat) : Int) ∧ vo = .int .u32 (((A ^^^ B) % 2 ^ i : Nat) : Int) ∧ vp = .int .u32 ((2 ^ i % 4294967296 : Nat) : Int)
theorem div_next (A i : Nat) : ((A / 2 ^ i : Nat) : Int) / 2 = ((A / 2 ^ (i + 1) : Nat) : Int) := by
  rw [Nat.pow_succ, ← Nat.div_div_eq_div_mul]
  omega
theorem pow_next (i : Nat) : ((2 ^ i % 4294967296 : Nat) : Int) * 2 % 4294967296 = ((2 ^ (i + 1) % 4294967296 : Nat) : Int) := by
  rw [Nat.pow_succ]
  omega
theorem pow32 (i : Nat) (h : i < 32) : 2 ^ i % 4294967296 = 2 ^ i ∧ 2 ^ (i + 1) ≤ 4294967296 := by
  have h1 : 2 ^ (i + 1) ≤ 2 ^ 32 := Nat.pow_le_pow_right (by omega) (by omega)
  have h2 : (2 : Nat) ^ 32 = 4294967296 := by decide
  have h3 : 2 ^ (i + 1) = 2 ^ i * 2 := Nat.pow_succ _ _
  have h4 : 0 < 2 ^ i := Nat.pow_pos (by omega)
  exact ⟨Nat.mod_eq_of_lt (by omega), by omega⟩
theorem div_small (A i : Nat) (h : A < 4294967296) : A / 2 ^ i < 4294967296 := Nat.lt_of_le_of_lt (Nat.div_le_self _ _) h

set_option maxHeartbeats 1000000 in
theorem turn_any (a b : Wd) (w : World) :
    Calls Tryd.prog 38 #[.int .u32 (uv a), .int .u32 (uv b)] w fun e w' => e = .returned (.int .u32 (uv (a ^^^ b))) ∧ w = w' := by
  obtain ⟨R, hR⟩ : ∃ R, uv (a ^^^ b) = R := ⟨_, rfl⟩
  have hX : R = (((a.toNat ^^^ b.toNat) % 2 ^ 32 : Nat) : Int) := by rw [← hR]; unfold uv; rw [BitVec.toNat_xor, Nat.mod_eq_of_lt (Nat.xor_lt_two_pow a.isLt b.isLt)]
  rw [hR]
  show Calls Tryd.prog 38 #[.int .u32 ((a.toNat : Nat) : Int), .int .u32 ((b.toNat : Nat) : Int)] w fun e w' => e = .returned (.int .u32 R) ∧ w = w'
  have HX := Lib.hid hX
  have HA := Lib.hid a.isLt
  have HB := Lib.hid b.isLt
  clear hX hR
  generalize a.toNat = A at *
  generalize b.toNat = B at *
  go_enter Tryd.func38, Tryd.ntmps38
  go_wp2_with fail
  go_loop [0, 1, 5, 6, 7] (fun va vb vo vp vi => TurnAt A B va vb vo vp vi) (fun _ _ _ _ vi => 32 - (intOf vi).toNat)
  case atStart => exact ⟨0, by omega, rfl, by simp, by simp, by simp [Nat.mod_one], rfl⟩
  case round =>
    obtain ⟨i, hi, rfl, rfl, rfl, rfl, rfl⟩ := hrel
    have hi' := Lib.hid hi
    by_cases hlt : i < 32
    · have HN := Lib.hid (xor_next A B i)
      have HD1 := Lib.hid (div_next A i)
      have HD2 := Lib.hid (div_next B i)
      have hpw := pow_next i
      have hq := pow32 i hlt
      have hA1 := div_small A i HA.out
      have hB1 := div_small B i HB.out
      have ho : (A ^^^ B) % 2 ^ i < 2 ^ i := Nat.mod_lt _ (Nat.pow_pos (by omega))
      have h3 : 2 ^ (i + 1) = 2 ^ i * 2 := Nat.pow_succ _ _
      have HO := Lib.hid (show (A ^^^ B) % 2 ^ i + 2 ^ i % 4294967296 < 4294967296 ∧ (A ^^^ B) % 2 ^ i < 4294967296 ∧ 2 ^ i % 4294967296 = 2 ^ i by omega)
      obtain ⟨q2, hq2⟩ : ∃ q2, 2 ^ (i + 1) % 4294967296 = q2 := ⟨_, rfl⟩
      have HQ2 := Lib.hid hq2
      rw [hq2] at hpw
      obtain ⟨a2, ha2⟩ : ∃ a2, A / 2 ^ (i + 1) = a2 := ⟨_, rfl⟩
      obtain ⟨b2, hb2⟩ : ∃ b2, B / 2 ^ (i + 1) = b2 := ⟨_, rfl⟩
      obtain ⟨o2, ho2⟩ : ∃ o2, (A ^^^ B) % 2 ^ (i + 1) = o2 := ⟨_, rfl⟩
      have HA2 := Lib.hid ha2
      have HB2 := Lib.hid hb2
      have HO2 := Lib.hid ho2
      rw [ha2] at HD1
      rw [hb2] at HD2
      rw [ho2] at HN
      generalize A / 2 ^ i = a1 at *
      generalize B / 2 ^ i = b1 at *
      generalize (A ^^^ B) % 2 ^ i = o1 at *
      generalize 2 ^ i % 4294967296 = q1 at *
      generalize 2 ^ i = r1 at *
      obtain ⟨z, hz⟩ : ∃ z : Int, z = (o1 : Int) := ⟨_, rfl⟩
      obtain ⟨q, hq'⟩ : ∃ q : Int, q = (q1 : Int) := ⟨_, rfl⟩
      obtain ⟨x, hx⟩ : ∃ x : Int, x = (a1 : Int) := ⟨_, rfl⟩
      obtain ⟨y, hy⟩ : ∃ y : Int, y = (b1 : Int) := ⟨_, rfl⟩
      obtain ⟨q3, hq3⟩ : ∃ q3 : Int, q3 = (q2 : Int) := ⟨_, rfl⟩
      have zq : z + q < 4294967296 := by have := HO.out; omega
      have z0 : 0 ≤ z := by omega
      have q0 : 0 ≤ q := by omega
      have x0 : 0 ≤ x := by omega
      have y0 : 0 ≤ y := by omega
      have x1 : x < 4294967296 := by omega
      have y1 : y < 4294967296 := by omega
      have q1' : q < 4294967296 := by omega
      have hw : IntKind.u32.wrap (q * 2) = q3 := by rw [IntKind.wrap_u32', hq', hq3]; exact hpw
      have hw2 : q * 2 % 4294967296 = q3 := by rw [hq', hq3]; exact hpw
      have HQ1 := Lib.hid (show q1 = r1 from HO.out.2.2)
      have HE1 := Lib.hid (show a1 % 2 = b1 % 2 → o2 = o1 from fun h => by have := HN.out; rw [if_pos h] at this; omega)
      have HE2 := Lib.hid (show ¬ a1 % 2 = b1 % 2 → (o2 : Int) = z + q from fun h => by have := HN.out; rw [if_neg h] at this; have := HQ1.out; omega)
      rw [← hz, ← hq', ← hx, ← hy]
      have HZ := Lib.hid hz
      have HXx := Lib.hid hx
      have HYy := Lib.hid hy
      have HQ3 := Lib.hid hq3
      have HD1' := Lib.hid (show x / 2 = (a2 : Int) by rw [hx]; exact HD1.out)
      have HD2' := Lib.hid (show y / 2 = (b2 : Int) by rw [hy]; exact HD2.out)
      have HXY := Lib.hid (show x % 2 = y % 2 ↔ a1 % 2 = b1 % 2 by omega)
      clear hi hq hA1 hB1 ho h3 ha2 hb2 ho2 hq2 hpw hz hq' hx hy hq3
      by_cases hne : x % 2 = y % 2
      · have HE := Lib.hid (HE1.out (HXY.out.1 hne))
        have t1 : (x % 2 != y % 2) = false := by simpa using hne
        go_wp2_with fail
        go_round
        case rel => exact ⟨i + 1, by omega, by go_num, by rw [HA2.out, ← HD1'.out], by rw [HB2.out, ← HD2'.out], by rw [HO2.out, HE.out, HZ.out], by rw [HQ2.out, HQ3.out]⟩
        case measure => simp [intOf]; omega
      · have HE := Lib.hid (HE2.out (fun h => hne (HXY.out.2 h)))
        have t1 : (x % 2 != y % 2) = true := by simpa using hne
        go_wp2_with fail
        go_round
        case rel => exact ⟨i + 1, by omega, by go_num, by rw [HA2.out, ← HD1'.out], by rw [HB2.out, ← HD2'.out], by rw [HO2.out, HE.out], by rw [HQ2.out, HQ3.out]⟩
        case measure => simp [intOf]; omega
    · obtain rfl : i = 32 := by omega
      have HR : Hid ((((A ^^^ B) % 2 ^ 32 : Nat) : Int) = R) := Lib.hid HX.out.symm
      generalize (((A ^^^ B) % 2 ^ 32 : Nat) : Int) = z at *
      go_wp2_with fail
      go_ret
      exact ⟨by rw [← HR.out]; rfl, rfl⟩

/-- All bits turned, as the document has it. -/
theorem not_sub (s : Wd) : 4294967295 - uv s = uv (~~~s) := by
  unfold uv
  rw [BitVec.toNat_not]
  have := s.isLt
  omega
theorem half_uv (s : Wd) : uv s / (2 : Int) = uv (s >>> 1) := shr_uv s 1
theorem stepW_odd {s : Wd} (h : uv s % 2 = 1) : stepW s = (s >>> 1) ^^^ polyW := by
  have hb : s.getLsbD 0 = true := by
    rw [← BitVec.testBit_toNat, Nat.testBit_zero]
    unfold uv at h
    simp
    omega
  unfold stepW
  rw [hb]
  rfl
theorem stepW_ev {s : Wd} (h : ¬ uv s % 2 = 1) : stepW s = s >>> 1 := by
  have hb : s.getLsbD 0 = false := by
    rw [← BitVec.testBit_toNat, Nat.testBit_zero]
    unfold uv at h
    simp
    omega
  exact stepW_even hb
/-- At a round's head: so many bytes are folded. -/
def RGoAt (s0 : Wd) (xs : List Int) (vs vi : Value) : Prop := ∃ k : Nat, k ≤ xs.length ∧ vi = .int .i64 (k : Int) ∧ vs = .int .u32 (uv (foldW (~~~s0) (xs.take k)))
/-- .. and so many steps of a byte are done. -/
def RStAt (t : Wd) (vs vi : Value) : Prop := ∃ j : Nat, j ≤ 8 ∧ vi = .int .i64 (j : Int) ∧ vs = .int .u32 (uv (stepsW j t))
theorem rfold_next (s : Wd) (xs : List Int) (k : Nat) (h : k < xs.length) : foldW s (xs.take (k + 1)) = stepsW 8 (foldW s (xs.take k) ^^^ BitVec.ofInt 32 (xs.getD k 0)) := by
  rw [List.take_succ_eq_append_getElem h, foldW_append, List.getD_eq_getElem?_getD, List.getElem?_eq_getElem h]
  rfl
theorem poly_uv : (2197175160 : Int) = uv polyW := by decide
theorem uv_byte (x : Int) (h : 0 ≤ x ∧ x < 256) : x = uv (BitVec.ofInt 32 x) := (ofInt_uv x h.1 (by omega)).symm

set_option maxHeartbeats 2000000 in
theorem refGo_any (s : Wd) (A : Option Addr) (n c : Nat) (xs : List Int) (w : World) (hn : n = xs.length) (hs : Src .u8 w A xs) (hx : IsBytes xs) (hl : n ≤ 1000000) :
    Calls Tryd.prog 21 #[.int .u32 (uv s), .slice A n c] w fun e w' => e = .returned (.int .u32 (uv (goW s xs))) ∧ w = w' := by
  have Hn := Lib.hid hn
  have Hs := Lib.hid hs
  have Hx := Lib.hid hx
  have HG := Lib.hid (show uv (goW s xs) = 4294967295 - uv (foldW (~~~s) xs) by unfold goW; rw [not_sub])
  have HS0 := Lib.hid (not_sub s)
  have a0 := uv_lo s
  have a1 := uv_hi s
  obtain ⟨R, hR⟩ : ∃ R, uv (goW s xs) = R := ⟨_, rfl⟩
  rw [hR]
  have HR := Lib.hid hR
  obtain ⟨z, hz⟩ : ∃ z, uv s = z := ⟨_, rfl⟩
  have HZ := Lib.hid hz
  rw [hz] at a0 a1 ⊢
  clear hn hs hx hR hz
  go_enter Tryd.func21, Tryd.ntmps21
  go_wp2_with fail
  go_loop [5, 6] (fun vs vi => RGoAt s xs vs vi) (fun _ vi => n - (intOf vi).toNat)
  case atStart => exact ⟨0, Nat.zero_le _, rfl, by rw [← HZ.out, HS0.out]; rfl⟩
  case round =>
    obtain ⟨k, hk, rfl, rfl⟩ := hrel
    by_cases hlt : k < n
    · have hkl : k < xs.length := by have := Hn.out; omega
      obtain ⟨b, o, rfl, hbl, hcell⟩ := Hs.out (by omega)
      have hc1 := hcell k hkl
      have hb1 := Hx.out.at_ k
      have HT := Lib.hid (rfold_next (~~~s) xs k hkl)
      have HB := Lib.hid (uv_byte (xs.getD k 0) hb1)
      clear hcell
      generalize xs.getD k 0 = x at *
      generalize foldW (~~~s) (xs.take k) = t at *
      obtain ⟨b0, b1⟩ := hb1
      obtain ⟨y, hy⟩ : ∃ y, uv t = y := ⟨_, rfl⟩
      have HY := Lib.hid hy
      have y0 : 0 ≤ y := by rw [← hy]; exact uv_lo t
      have y1 : y < 4294967296 := by rw [← hy]; exact uv_hi t
      rw [hy]
      clear hy hk
      go_wp2_with fail
      rw [show (Value.int .u32 y) = .int .u32 (uv t) by rw [HY.out], show (Value.int .u32 x) = .int .u32 (uv (BitVec.ofInt 32 x)) by rw [← HB.out]]
      refine (turn_any t (BitVec.ofInt 32 x) _).mono ?_
      rintro e w' ⟨rfl, rfl⟩
      generalize t ^^^ BitVec.ofInt 32 x = t0 at *
      go_wp2_with fail
      go_loop [5, 7] (fun vs vi => RStAt t0 vs vi) (fun _ vi => 8 - (intOf vi).toNat)
      case atStart => exact ⟨0, by omega, rfl, rfl⟩
      case round =>
        obtain ⟨j, hj, rfl, rfl⟩ := hrel
        by_cases hj8 : j < 8
        · have HN := Lib.hid (stepsW_succ j t0)
          have HO := Lib.hid (stepW_odd (s := stepsW j t0))
          have HE := Lib.hid (stepW_ev (s := stepsW j t0))
          have HH := Lib.hid (half_uv (stepsW j t0))
          generalize stepsW j t0 = t1 at *
          obtain ⟨v, hv⟩ : ∃ v, uv t1 = v := ⟨_, rfl⟩
          have HV := Lib.hid hv
          have v0 : 0 ≤ v := by rw [← hv]; exact uv_lo t1
          have v1 : v < 4294967296 := by rw [← hv]; exact uv_hi t1
          rw [hv]
          clear hv
          by_cases hodd : v % 2 = 1
          · have HN2 := Lib.hid (show stepsW (j + 1) t0 = (t1 >>> 1) ^^^ polyW by rw [HN.out, HO.out (by rw [HV.out]; exact hodd)])
            have t2 : (v % 2 == 1) = true := by simpa using hodd
            go_wp2_with fail
            rw [show (Value.int .u32 (v / 2)) = .int .u32 (uv (t1 >>> 1)) by rw [← HH.out, HV.out], show (Value.int .u32 2197175160) = .int .u32 (uv polyW) by rw [← poly_uv]]
            refine (turn_any (t1 >>> 1) polyW _).mono ?_
            rintro e w' ⟨rfl, rfl⟩
            go_wp2_with fail
            go_round
            case rel => exact ⟨j + 1, by omega, by go_num, by rw [HN2.out]⟩
            case measure => simp [intOf]; omega
          · have HN2 := Lib.hid (show uv (stepsW (j + 1) t0) = v / 2 by rw [HN.out, HE.out (by rw [HV.out]; exact hodd), ← HH.out, HV.out])
            have t2 : (v % 2 == 1) = false := by simpa using hodd
            go_wp2_with fail
            go_round
            case rel => exact ⟨j + 1, by omega, by go_num, by rw [HN2.out]⟩
            case measure => simp [intOf]; omega
        · obtain rfl : j = 8 := by omega
          generalize stepsW 8 t0 = t8 at *
          go_wp2_with fail
          go_round
          case rel => exact ⟨k + 1, by omega, by go_num, by rw [HT.out]⟩
          case measure => simp [intOf]; omega
    · obtain rfl : k = n := by have := Hn.out; omega
      have HT := Lib.hid (show foldW (~~~s) (xs.take k) = foldW (~~~s) xs by rw [List.take_of_length_le (by have := Hn.out; omega)])
      rw [HT.out]
      have HGR := Lib.hid (show R = 4294967295 - uv (foldW (~~~s) xs) by rw [← HR.out, HG.out])
      have y0 := uv_lo (foldW (~~~s) xs)
      have y1 := uv_hi (foldW (~~~s) xs)
      generalize uv (foldW (~~~s) xs) = y at *
      clear hk hlt
      go_wp2_with fail
      go_ret
      exact ⟨by rw [HGR.out]; rfl, rfl⟩
end Go.Proofs.YtcolicmefehcnaaDoor

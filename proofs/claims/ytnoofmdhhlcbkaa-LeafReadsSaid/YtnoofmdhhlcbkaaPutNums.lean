/- What is put is read: the bytes that Put lays for a pointer are that pointer's, whatever stands behind them (plain mathematics). No conditions but those that stand in each lemma. -/
import Derived.Test.YtnoofmdhhlcbkaaPtrReadNums
import Derived.Test.YtnoofmdhhlcbkaaPtrPut
import Derived.Laws.BitsAllLaws
namespace Go.Proofs.Ytnoofmdhhlcbkaa
open Go.RowKit

theorem fixed_digits (k : Nat) (y : Int) (h1 : 1 ≤ k) (h8 : k ≤ 8) : fixedOf (k : Int) [y] = digitsOf k y.toNat := by
  unfold fixedOf
  rw [if_pos (by unfold sizeOk; simp; omega)]
  simp
theorem numAt_mid (l m r : List Int) (k : Nat) (hm : m.length = k) : numAt (l ++ (m ++ r)) l.length k = ((numOf m : Nat) : Int) := by
  unfold numAt
  rw [List.drop_left, ← hm, List.take_left]
theorem digits_num (k : Nat) (y : Int) (h : 0 ≤ y) (hb : y < ((256 ^ k : Nat) : Int)) : ((numOf (digitsOf k y.toNat) : Nat) : Int) = y := by
  obtain ⟨m, rfl⟩ := Int.eq_ofNat_of_zero_le h
  rw [Int.toNat_natCast, numOf_digits, Nat.mod_eq_of_lt (Int.ofNat_lt.1 hb)]
theorem putOf_length (p : Pt) (h : p.sha.length = 32) : (putOf p).length = 52 := by
  unfold putOf
  rw [show (4 : Int) = ((4 : Nat) : Int) from rfl, show (8 : Int) = ((8 : Nat) : Int) from rfl, fixed_digits 4 _ (by omega) (by omega), fixed_digits 4 _ (by omega) (by omega), fixed_digits 8 _ (by omega) (by omega), fixed_digits 4 _ (by omega) (by omega)]
  simp only [List.length_append, digitsOf_length, h]
theorem putOf_bytes (p : Pt) (h : IsBytes p.sha) : IsBytes (putOf p) := by
  unfold putOf
  exact ((((fixedOf_bytes _ _).append (fixedOf_bytes _ _)).append (fixedOf_bytes _ _)).append (fixedOf_bytes _ _)).append h
theorem u64w_id {n : Int} (h0 : 0 ≤ n) (h1 : n ≤ 9223372036854775807) : u64w n = n := by unfold u64w; omega
theorem raw_put (p : Pt) (zs : List Int) (hs : p.sha.length = 32) (a0 : 0 ≤ p.place) (a1 : p.place < 4294967296) (b0 : 0 ≤ p.len) (b1 : p.len < 4294967296) (c0 : 0 ≤ p.birth) (c1 : p.birth ≤ 9223372036854775807) (d0 : 0 ≤ p.crc) (d1 : p.crc < 4294967296) :
    rawP (putOf p ++ zs) = p := by
  have p4 : ((256 ^ 4 : Nat) : Int) = 4294967296 := by decide
  have p8 : ((256 ^ 8 : Nat) : Int) = 18446744073709551616 := by decide
  have n0 := digits_num 4 p.place a0 (by rw [p4]; exact a1)
  have n1 := digits_num 4 p.len b0 (by rw [p4]; exact b1)
  have n2 := digits_num 8 p.birth c0 (by rw [p8]; omega)
  have n3 := digits_num 4 p.crc d0 (by rw [p4]; exact d1)
  have l0 := digitsOf_length 4 p.place.toNat
  have l1 := digitsOf_length 4 p.len.toNat
  have l2 := digitsOf_length 8 p.birth.toNat
  have l3 := digitsOf_length 4 p.crc.toNat
  have e : putOf p ++ zs = digitsOf 4 p.place.toNat ++ (digitsOf 4 p.len.toNat ++ (digitsOf 8 p.birth.toNat ++ (digitsOf 4 p.crc.toNat ++ (p.sha ++ zs)))) := by
    unfold putOf
    rw [show (4 : Int) = ((4 : Nat) : Int) from rfl, show (8 : Int) = ((8 : Nat) : Int) from rfl, fixed_digits 4 _ (by omega) (by omega), fixed_digits 4 _ (by omega) (by omega), fixed_digits 8 _ (by omega) (by omega), fixed_digits 4 _ (by omega) (by omega), u64w_id a0 (by omega), u64w_id b0 (by omega), u64w_id c0 c1]
    simp only [List.append_assoc]
  rw [e]
  generalize digitsOf 4 p.place.toNat = x0 at *
  generalize digitsOf 4 p.len.toNat = x1 at *
  generalize digitsOf 8 p.birth.toNat = x2 at *
  generalize digitsOf 4 p.crc.toNat = x3 at *
  have g0 : numAt (x0 ++ (x1 ++ (x2 ++ (x3 ++ (p.sha ++ zs))))) 0 4 = p.place := by
    have := numAt_mid [] x0 (x1 ++ (x2 ++ (x3 ++ (p.sha ++ zs)))) 4 l0
    rw [List.nil_append] at this
    rw [← n0]
    exact this
  have g1 : numAt (x0 ++ (x1 ++ (x2 ++ (x3 ++ (p.sha ++ zs))))) 4 4 = p.len := by
    have := numAt_mid x0 x1 (x2 ++ (x3 ++ (p.sha ++ zs))) 4 l1
    rw [l0] at this
    rw [this, n1]
  have g2 : numAt (x0 ++ (x1 ++ (x2 ++ (x3 ++ (p.sha ++ zs))))) 8 8 = p.birth := by
    have := numAt_mid (x0 ++ x1) x2 (x3 ++ (p.sha ++ zs)) 8 l2
    rw [List.length_append, l0, l1, List.append_assoc] at this
    rw [this, n2]
  have g3 : numAt (x0 ++ (x1 ++ (x2 ++ (x3 ++ (p.sha ++ zs))))) 16 4 = p.crc := by
    have := numAt_mid (x0 ++ (x1 ++ x2)) x3 (p.sha ++ zs) 4 l3
    rw [List.length_append, List.length_append, l0, l1, l2, List.append_assoc, List.append_assoc] at this
    rw [this, n3]
  have g4 : ((x0 ++ (x1 ++ (x2 ++ (x3 ++ (p.sha ++ zs))))).drop 20).take 32 = p.sha := by
    have h1 : (x0 ++ (x1 ++ (x2 ++ x3))).length = 20 := by simp only [List.length_append, l0, l1, l2, l3]
    have h2 := List.drop_left (l₁ := x0 ++ (x1 ++ (x2 ++ x3))) (l₂ := p.sha ++ zs)
    rw [h1] at h2
    rw [show x0 ++ (x1 ++ (x2 ++ (x3 ++ (p.sha ++ zs)))) = (x0 ++ (x1 ++ (x2 ++ x3))) ++ (p.sha ++ zs) by simp only [List.append_assoc], h2, ← hs, List.take_left]
  unfold rawP
  rw [g0, g1, g2, g3, g4]
  have : i64w p.birth = p.birth := by unfold i64w; omega
  rw [this]
theorem readOk_put {p : Pt} {zs : List Int} (hraw : rawP (putOf p ++ zs) = p) (hp : p.none = true ∨ p.right = true) : readOk (putOf p ++ zs) = true := by
  unfold readOk
  rw [hraw]
  rcases hp with h | h <;> simp [h]
theorem read_put {p : Pt} {zs : List Int} (hs : p.sha.length = 32) (hraw : rawP (putOf p ++ zs) = p) (hp : p.none = true ∨ p.right = true) : readPt (putOf p ++ zs) = p ∧ readErr (putOf p ++ zs) = 0 := by
  have hl : ¬ (putOf p ++ zs).length < 52 := by rw [List.length_append, putOf_length p hs]; omega
  have hok := readOk_put hraw hp
  unfold readPt readErr
  rw [if_neg hl, if_neg hl, if_pos hok, if_pos hok, hraw]
  exact ⟨rfl, rfl⟩
theorem read_cut {p : Pt} (hs : p.sha.length = 32) : readErr ((putOf p).take 51) = 10 := by
  unfold readErr
  rw [if_pos (by rw [List.length_take, putOf_length p hs]; omega)]
theorem and_mask (a : Int) (m : Nat) (hm : m < 9223372036854775808) : 0 ≤ bits .and .i64 a (m : Int) ∧ bits .and .i64 a (m : Int) ≤ (m : Int) := by
  have h1 : ((BitVec.ofInt 64 a &&& BitVec.ofInt 64 (m : Int)).toNat : Int) ≤ (m : Int) := by
    rw [BitVec.toNat_and, BitVec.ofInt_natCast, BitVec.toNat_ofNat]
    have h2 : (BitVec.ofInt 64 a).toNat &&& m % 2 ^ 64 ≤ m % 2 ^ 64 := Nat.and_le_right
    omega
  have h0 : (0 : Int) ≤ ((BitVec.ofInt 64 a &&& BitVec.ofInt 64 (m : Int)).toNat : Int) := Int.natCast_nonneg _
  have e : bits .and .i64 a (m : Int) = IntKind.i64.wrap ((BitVec.ofInt 64 a &&& BitVec.ofInt 64 (m : Int)).toNat : Int) := rfl
  rw [e, IntKind.wrap_i64]
  omega
theorem zero_back (zs : List Int) : rawP (putOf Pt.zero ++ zs) = Pt.zero :=
  raw_put _ _ rfl (by decide) (by decide) (by decide) (by decide) (by decide) (by decide) (by decide) (by decide)
end Go.Proofs.Ytnoofmdhhlcbkaa

/- The document's spellings of a word: four bytes that are added, a word that is turned by a difference. No conditions but those that stand in each lemma. -/
import Derived.Test.YtiddimfkcejfnaaDoorShaWords
namespace Go.Proofs.YtiddimfkcejfnaaDoor.Sha3
open Go.RowKit

theorem or_add (a b i : Nat) (h : b < 2 ^ i) : a * 2 ^ i ||| b = a * 2 ^ i + b := by
  rw [← Nat.shiftLeft_eq]
  exact (Nat.shiftLeft_add_eq_or_of_lt h a).symm
theorem four_nat (x0 x1 x2 x3 : Nat) (b0 : x0 < 256) (b1 : x1 < 256) (b2 : x2 < 256) (b3 : x3 < 256) : (fourW x0 x1 x2 x3).toNat = x0 * 16777216 + x1 * 65536 + x2 * 256 + x3 := by
  unfold fourW
  simp only [BitVec.toNat_or, BitVec.toNat_shiftLeft, BitVec.ofInt_natCast, BitVec.toNat_ofNat, Nat.shiftLeft_eq]
  have e0 : x0 % 2 ^ 32 * 2 ^ 24 % 2 ^ 32 = x0 * 2 ^ 24 := by
    rw [Nat.mod_eq_of_lt (Nat.lt_trans b0 (by decide)), Nat.mod_eq_of_lt (Nat.lt_of_lt_of_le (Nat.mul_lt_mul_of_pos_right b0 (by decide)) (by decide))]
  have e1 : x1 % 2 ^ 32 * 2 ^ 16 % 2 ^ 32 = x1 * 2 ^ 16 := by
    rw [Nat.mod_eq_of_lt (Nat.lt_trans b1 (by decide)), Nat.mod_eq_of_lt (Nat.lt_of_lt_of_le (Nat.mul_lt_mul_of_pos_right b1 (by decide)) (by decide))]
  have e2 : x2 % 2 ^ 32 * 2 ^ 8 % 2 ^ 32 = x2 * 2 ^ 8 := by
    rw [Nat.mod_eq_of_lt (Nat.lt_trans b2 (by decide)), Nat.mod_eq_of_lt (Nat.lt_of_lt_of_le (Nat.mul_lt_mul_of_pos_right b2 (by decide)) (by decide))]
  have e3 : x3 % 2 ^ 32 = x3 := Nat.mod_eq_of_lt (Nat.lt_trans b3 (by decide))
  rw [e0, e1, e2, e3, or_add x0 (x1 * 2 ^ 16) 24 (show x1 * 65536 < 16777216 by omega), show x0 * 2 ^ 24 + x1 * 2 ^ 16 = (x0 * 2 ^ 8 + x1) * 2 ^ 16 from (show x0 * 16777216 + x1 * 65536 = (x0 * 256 + x1) * 65536 by omega), or_add _ (x2 * 2 ^ 8) 16 (show x2 * 256 < 65536 by omega),
    show (x0 * 2 ^ 8 + x1) * 2 ^ 16 + x2 * 2 ^ 8 = ((x0 * 2 ^ 8 + x1) * 2 ^ 8 + x2) * 2 ^ 8 from (show (x0 * 256 + x1) * 65536 + x2 * 256 = ((x0 * 256 + x1) * 256 + x2) * 256 by omega), or_add _ x3 8 (show x3 < 256 from b3)]
theorem four_add (x0 x1 x2 x3 : Int) (b0 : 0 ≤ x0 ∧ x0 < 256) (b1 : 0 ≤ x1 ∧ x1 < 256) (b2 : 0 ≤ x2 ∧ x2 < 256) (b3 : 0 ≤ x3 ∧ x3 < 256) :
    IntKind.u32.wrap (IntKind.u32.wrap (IntKind.u32.wrap (IntKind.u32.wrap (IntKind.u32.wrap x0 * 16777216) + IntKind.u32.wrap (IntKind.u32.wrap x1 * 65536)) + IntKind.u32.wrap (IntKind.u32.wrap x2 * 256)) + IntKind.u32.wrap x3) = uv (fourW x0 x1 x2 x3) := by
  obtain ⟨y0, rfl⟩ := Int.eq_ofNat_of_zero_le b0.1
  obtain ⟨y1, rfl⟩ := Int.eq_ofNat_of_zero_le b1.1
  obtain ⟨y2, rfl⟩ := Int.eq_ofNat_of_zero_le b2.1
  obtain ⟨y3, rfl⟩ := Int.eq_ofNat_of_zero_le b3.1
  unfold uv
  rw [four_nat y0 y1 y2 y3 (by omega) (by omega) (by omega) (by omega)]
  simp only [IntKind.wrap_u32']
  omega
end Go.Proofs.YtiddimfkcejfnaaDoor.Sha3

/- Words of 32 and 64 bits as the program's numbers, and rows of them as cells of a block. No conditions but those that stand in each lemma. -/
import Derived.Test.YtnllladoipcfkaaDoorMem
import Derived.Test.YtnllladoipcfkaaDoorShaPlain
import Derived.Laws.Rows
import Derived.RegionTactic
import Derived.Deep.QuietTactic
import Derived.BigQuiet
namespace Go.Proofs.YtnllladoipcfkaaDoor.Sha3
open Go.RowKit

/-- A word as the program's number. -/
def uv (s : Wd) : Int := (s.toNat : Int)
theorem uv_lo (s : Wd) : 0 ≤ uv s := Int.natCast_nonneg _
theorem uv_hi (s : Wd) : uv s < 4294967296 := by have := s.isLt; unfold uv; omega
theorem uv_ofInt (s : Wd) : BitVec.ofInt 32 (uv s) = s := by unfold uv; rw [BitVec.ofInt_natCast]; simp
theorem uv_inj {a b : Wd} (h : uv a = uv b) : a = b := by rw [← uv_ofInt a, h, uv_ofInt]
theorem wrap_uv (s : Wd) : IntKind.u32.wrap (s.toNat : Int) = uv s := by
  have := s.isLt
  rw [IntKind.wrap_u32']
  unfold uv
  omega
theorem xor_uv (a b : Wd) : bits .xor .u32 (uv a) (uv b) = uv (a ^^^ b) := by
  show IntKind.u32.wrap ((BitVec.ofInt 32 (uv a) ^^^ BitVec.ofInt 32 (uv b)).toNat : Int) = _
  rw [wrap_uv, uv_ofInt, uv_ofInt]
theorem and_uv (a b : Wd) : bits .and .u32 (uv a) (uv b) = uv (a &&& b) := by
  show IntKind.u32.wrap ((BitVec.ofInt 32 (uv a) &&& BitVec.ofInt 32 (uv b)).toNat : Int) = _
  rw [wrap_uv, uv_ofInt, uv_ofInt]
theorem or_uv (a b : Wd) : bits .or .u32 (uv a) (uv b) = uv (a ||| b) := by
  show IntKind.u32.wrap ((BitVec.ofInt 32 (uv a) ||| BitVec.ofInt 32 (uv b)).toNat : Int) = _
  rw [wrap_uv, uv_ofInt, uv_ofInt]
theorem not_uv (s : Wd) : bits .xor .u32 IntKind.u32.max (uv s) = uv (~~~s) := by
  show IntKind.u32.wrap ((BitVec.ofInt 32 IntKind.u32.max ^^^ BitVec.ofInt 32 (uv s)).toNat : Int) = _
  rw [wrap_uv, uv_ofInt, show BitVec.ofInt 32 IntKind.u32.max = BitVec.allOnes 32 by decide, BitVec.allOnes_xor]
theorem add_uv (a b : Wd) : IntKind.u32.wrap (uv a + uv b) = uv (a + b) := by
  have h : ((a + b).toNat : Int) = (uv a + uv b) % 4294967296 := by rw [BitVec.toNat_add]; unfold uv; omega
  rw [IntKind.wrap_u32']
  unfold uv at h ⊢
  omega
theorem shr_uv (s : Wd) (k : Nat) : uv s / 2 ^ k = uv (s >>> k) := by
  unfold uv
  rw [BitVec.toNat_ushiftRight, Nat.shiftRight_eq_div_pow]
  simp
theorem shl_uv (s : Wd) (k : Nat) : IntKind.u32.wrap (uv s * 2 ^ k) = uv (s <<< k) := by
  rw [IntKind.wrap_u32']
  unfold uv
  rw [BitVec.toNat_shiftLeft, Nat.shiftLeft_eq]
  have h : ((s.toNat * 2 ^ k : Nat) : Int) = (s.toNat : Int) * 2 ^ k := by simp
  have h2 := Int.natCast_emod (s.toNat * 2 ^ k) (2 ^ 32)
  rw [h2, h]
  rfl
/-! The same in the walk's own spelling. -/
theorem shl_mod (s : Wd) (k : Nat) : uv s * 2 ^ k % 4294967296 = uv (s <<< k) := by rw [← shl_uv, IntKind.wrap_u32']
theorem add_mod (a b : Wd) : (uv a + uv b) % 4294967296 = uv (a + b) := by rw [← add_uv, IntKind.wrap_u32']
theorem uv_add (a b : Wd) : uv (a + b) = (uv a + uv b) % 4294967296 := (add_mod a b).symm
theorem add4_mod (a b c d : Wd) : (uv a + uv b + uv c + uv d) % 4294967296 = uv (a + b + c + d) := by rw [uv_add, uv_add, uv_add]; omega
theorem add5_mod (a b c d e : Wd) : (uv a + uv b + uv c + uv d + uv e) % 4294967296 = uv (a + b + c + d + e) := by rw [uv_add, uv_add, uv_add, uv_add]; omega
theorem shl24 (s : Wd) : IntKind.u32.wrap (uv s * 16777216) = uv (s <<< 24) := shl_uv s 24
theorem shl16 (s : Wd) : IntKind.u32.wrap (uv s * 65536) = uv (s <<< 16) := shl_uv s 16
theorem shl8 (s : Wd) : IntKind.u32.wrap (uv s * 256) = uv (s <<< 8) := shl_uv s 8
theorem byte_uv (x : Int) (h : 0 ≤ x ∧ x < 256) : IntKind.u32.wrap x = uv (BitVec.ofInt 32 x) := by
  obtain ⟨m, rfl⟩ := Int.eq_ofNat_of_zero_le h.1
  rw [IntKind.wrap_u32']
  unfold uv
  rw [BitVec.ofInt_natCast, BitVec.toNat_ofNat]
  omega
theorem four_uv (x0 x1 x2 x3 : Int) (b0 : 0 ≤ x0 ∧ x0 < 256) (b1 : 0 ≤ x1 ∧ x1 < 256) (b2 : 0 ≤ x2 ∧ x2 < 256) (b3 : 0 ≤ x3 ∧ x3 < 256) :
    bits .or .u32 (bits .or .u32 (bits .or .u32 (IntKind.u32.wrap (IntKind.u32.wrap x0 * 16777216)) (IntKind.u32.wrap (IntKind.u32.wrap x1 * 65536))) (IntKind.u32.wrap (IntKind.u32.wrap x2 * 256))) (IntKind.u32.wrap x3) = uv (fourW x0 x1 x2 x3) := by
  rw [byte_uv x0 b0, byte_uv x1 b1, byte_uv x2 b2, byte_uv x3 b3, shl24, shl16, shl8, or_uv, or_uv, or_uv]
  rfl
theorem ret_uv {a b : Wd} (h : a = b) : Ending.returned (.int .u32 (uv a)) = .returned (.int .u32 (uv b)) := by rw [h]
end Go.Proofs.YtnllladoipcfkaaDoor.Sha3

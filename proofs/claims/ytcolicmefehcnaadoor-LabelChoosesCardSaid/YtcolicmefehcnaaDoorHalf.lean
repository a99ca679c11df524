/- The closure of Go: half a byte is pushed out of the captured word, by the table. -/
import Derived.Test.YtcolicmefehcnaaDoorMem
import Derived.Test.YtcolicmefehcnaaDoorPoly
import Derived.RegionTactic
import Derived.OneCell
namespace Go.Proofs.YtcolicmefehcnaaDoor
open Go.RowKit

/-- A word as the program's number. -/
def uv (s : Wd) : Int := (s.toNat : Int)
theorem uv_lo (s : Wd) : 0 ≤ uv s := Int.natCast_nonneg _
theorem uv_hi (s : Wd) : uv s < 4294967296 := by have := s.isLt; unfold uv; omega
theorem uv_ofInt (s : Wd) : BitVec.ofInt 32 (uv s) = s := by unfold uv; rw [BitVec.ofInt_natCast]; simp
theorem uv_inj {a b : Wd} (h : uv a = uv b) : a = b := by rw [← uv_ofInt a, h, uv_ofInt]
theorem ofInt_uv (n : Int) (h0 : 0 ≤ n) (h1 : n < 4294967296) : uv (BitVec.ofInt 32 n) = n := by
  obtain ⟨m, rfl⟩ := Int.eq_ofNat_of_zero_le h0
  unfold uv
  simp only [BitVec.ofInt_natCast, BitVec.toNat_ofNat]
  omega
theorem wrap_uv (s : Wd) : IntKind.u32.wrap (s.toNat : Int) = uv s := by
  have := s.isLt
  rw [IntKind.wrap_u32']
  unfold uv
  omega
theorem xor_uv (a b : Int) : bits .xor .u32 a b = uv (BitVec.ofInt 32 a ^^^ BitVec.ofInt 32 b) := wrap_uv _
theorem and_uv (a b : Int) : bits .and .u32 a b = uv (BitVec.ofInt 32 a &&& BitVec.ofInt 32 b) := wrap_uv _
theorem shr_uv (s : Wd) (k : Nat) : uv s / 2 ^ k = uv (s >>> k) := by
  unfold uv
  rw [BitVec.toNat_ushiftRight, Nat.shiftRight_eq_div_pow]
  simp

/-- The program's table lies where it was laid. -/
def Tab (w : World) : Prop := 0 < w.heap.size ∧ ∀ k, k < 16 → w.cell? ⟨0, k, none⟩ = some (.int .u32 (tabW k))

set_option maxHeartbeats 400000 in
theorem half_any (B : Nat) (s : Wd) (w : World) (ht : Tab w) (hc : w.cell? ⟨B, 0, none⟩ = some (.int .u32 (uv s))) (hf : w.frozen? ⟨B, 0, none⟩ = false) :
    Calls Tryd.prog 45 #[.pointer (some ⟨B, 0, none⟩)] w fun e w' => e = .returned (.tuple #[]) ∧ w' = (w.setCell ⟨B, 0, none⟩ (.int .u32 (uv (stepsW 4 s)))).drew := by
  have hlt : (s &&& 15#32).toNat < 16 := by
    rw [BitVec.toNat_and]
    exact Nat.lt_succ_of_le (Nat.and_le_right (m := 15))
  obtain ⟨k, hk⟩ : ∃ k : Nat, (s &&& 15#32).toNat = k := ⟨_, rfl⟩
  have hand : bits .and .u32 (uv s) 15 = (k : Int) := by rw [and_uv, uv_ofInt, ← hk]; rfl
  have hcell := ht.2 k (by omega)
  have hk16 : k < 16 := by omega
  have b0 := uv_lo s
  have b1 := uv_hi s
  have HX := Lib.hid (show bits .xor .u32 (uv s / 16) (tabW k) = uv (stepsW 4 s) by rw [xor_uv, ← halfW s, show (16 : Int) = 2 ^ 4 from rfl, shr_uv, uv_ofInt, hk])
  clear hk hlt ht
  go_enter Tryd.func45, Tryd.ntmps45
  go_wp2
  go_region
  go_end0
  exact ⟨rfl, by rw [HX.out]⟩
end Go.Proofs.YtcolicmefehcnaaDoor

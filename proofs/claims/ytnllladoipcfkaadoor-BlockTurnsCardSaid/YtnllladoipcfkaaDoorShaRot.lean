/- The program's rotr and the document's: any word, by 1 to 31 places. -/
import Derived.Test.YtnllladoipcfkaaDoorShaWords
namespace Go.Proofs.YtnllladoipcfkaaDoor.Sha3
open Go.RowKit

theorem rot_uv (x : Wd) (n : Nat) : bits BinOp.or IntKind.u32 (uv x / 2 ^ n) (uv x * 2 ^ (32 - n) % 4294967296) = uv (rotW x n) := by
  rw [shr_uv, shl_mod, or_uv]
  rfl
set_option maxHeartbeats 400000 in
theorem rrot_any (x : Wd) (n : Nat) (w : World) (h0 : 0 < n) (hn : n < 32) : Calls Tryd.prog 52 #[.int .u32 (uv x), .int .u64 n] w fun e w' => e = .returned (.int .u32 (uv (rotW x n))) ∧ w = w' := by
  have HR := Lib.hid (rot_uv x n)
  go_enter Tryd.func52, Tryd.ntmps52
  go_wp2_with fail
  go_ret
  exact ⟨by rw [← HR.out]; rfl, rfl⟩
set_option maxHeartbeats 400000 in
theorem rot_any (x : Wd) (n : Nat) (w : World) (h0 : 0 < n) (hn : n < 32) : Calls Tryd.prog 73 #[.int .u32 (uv x), .int .i64 n] w fun e w' => e = .returned (.int .u32 (uv (rotW x n))) ∧ ∃ m, w' = w.drewN m := by
  have HR := Lib.hid (rot_uv x n)
  go_enter Tryd.func73, Tryd.ntmps73
  go_wp2_with fail
  go_quiet (fail)
  go_wp2
  go_ret
  exact ⟨by rw [← HR.out]; rfl, nq, rfl⟩
/-- The same at a literal. -/
theorem rot_at (x : Wd) (m : Int) (n : Nat) (hm : m = (n : Int)) (w : World) (h0 : 0 < n) (hn : n < 32) : Calls Tryd.prog 73 #[.int .u32 (uv x), .int .i64 m] w fun e w' => e = .returned (.int .u32 (uv (rotW x n))) ∧ ∃ m, w' = w.drewN m := by
  subst hm
  exact rot_any x n w h0 hn
theorem rrot_at (x : Wd) (m : Int) (n : Nat) (hm : m = (n : Int)) (w : World) (h0 : 0 < n) (hn : n < 32) : Calls Tryd.prog 52 #[.int .u32 (uv x), .int .u64 m] w fun e w' => e = .returned (.int .u32 (uv (rotW x n))) ∧ w = w' := by
  subst hm
  exact rrot_any x n w h0 hn
end Go.Proofs.YtnllladoipcfkaaDoor.Sha3

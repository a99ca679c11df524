/- What Zig and Zag answer, for every number of their kinds: contracts by walks. No conditions beyond the kinds' ranges. -/
import Derived.Test.YtlmpbfmlkpcjeaaRows
import Derived.WalkKit
import Derived.ProofKit
import Derived.OpenShut
import Derived.ShutString
import Derived.Lib.Hide
namespace Go.Proofs.Ytlmpbfmlkpcjeaa
open Go.RowKit

/-- 2n, or -2n - 1 below 0. -/
def zigOf (n : Int) : Int := if 0 ≤ n then 2 * n else -2 * n - 1
/-- The number whose Zig it is. -/
def zagOf (u : Int) : Int := if u % 2 = 0 then u / 2 else -(u / 2) - 1

theorem zig_lo (n : Int) : 0 ≤ zigOf n := by unfold zigOf; split <;> omega
theorem zig_hi (n : Int) (h1 : -9223372036854775808 ≤ n) (h2 : n ≤ 9223372036854775807) : zigOf n < 18446744073709551616 := by unfold zigOf; split <;> omega
theorem zag_zig (n : Int) : zagOf (zigOf n) = n := by unfold zagOf zigOf; split <;> split <;> omega
theorem zig_zag (u : Int) (h : 0 ≤ u) : zigOf (zagOf u) = u := by unfold zagOf zigOf; split <;> split <;> omega
theorem zag_lo (u : Int) (h1 : 0 ≤ u) (h2 : u < 18446744073709551616) : -9223372036854775808 ≤ zagOf u := by unfold zagOf; split <;> omega
theorem zag_hi (u : Int) (h1 : 0 ≤ u) (h2 : u < 18446744073709551616) : zagOf u ≤ 9223372036854775807 := by unfold zagOf; split <;> omega
theorem zig_odd (n : Int) : (zigOf n % 2 == 1) = decide (n < 0) := by
  unfold zigOf
  rw [Bool.eq_iff_iff]
  simp only [beq_iff_eq, decide_eq_true_eq]
  split <;> omega
theorem zig_end {a b : Int} {k : IntKind} {w : World} (h : a = b) : Ending.returned (.int k a) = .returned (.int k b) ∧ w = w := ⟨by rw [h], rfl⟩

set_option maxHeartbeats 400000 in
theorem zig_any (n : Int) (w : World) (h1 : -9223372036854775808 ≤ n) (h2 : n ≤ 9223372036854775807) :
    Calls Try.prog 21 #[.int .i64 n] w fun e w' => e = .returned (.int .u64 (zigOf n)) ∧ w = w' := by
  by_cases h : 0 ≤ n
  · have H := Lib.hid (show 2 * n = zigOf n by unfold zigOf; rw [if_pos h])
    go_enter Try.func21, Try.ntmps21
    go_wp2
    go_ret
    exact zig_end H.out
  · have H := Lib.hid (show 2 * -(n + 1) + 1 = zigOf n by unfold zigOf; rw [if_neg h]; omega)
    go_enter Try.func21, Try.ntmps21
    go_wp2
    go_ret
    exact zig_end H.out

set_option maxHeartbeats 400000 in
/-- The document's own Zig, the second text of the same function. -/
theorem zigRef_any (n : Int) (w : World) (h1 : -9223372036854775808 ≤ n) (h2 : n ≤ 9223372036854775807) :
    Calls Try.prog 22 #[.int .i64 n] w fun e w' => e = .returned (.int .u64 (zigOf n)) ∧ w = w' := by
  by_cases h : 0 ≤ n
  · have H := Lib.hid (show 2 * n = zigOf n by unfold zigOf; rw [if_pos h])
    go_enter Try.func22, Try.ntmps22
    go_wp2
    go_ret
    exact zig_end H.out
  · have H := Lib.hid (show 2 * -(n + 1) + 1 = zigOf n by unfold zigOf; rw [if_neg h]; omega)
    go_enter Try.func22, Try.ntmps22
    go_wp2
    go_ret
    exact zig_end H.out

set_option maxHeartbeats 400000 in
theorem zag_any (u : Int) (w : World) (h1 : 0 ≤ u) (h2 : u < 18446744073709551616) :
    Calls Try.prog 23 #[.int .u64 u] w fun e w' => e = .returned (.int .i64 (zagOf u)) ∧ w = w' := by
  by_cases h : u % 2 = 0
  · have H := Lib.hid (show u / 2 = zagOf u by unfold zagOf; rw [if_pos h])
    have hb : (u % 2 == 0) = true := by simp [h]
    clear h
    go_enter Try.func23, Try.ntmps23
    go_wp2
    go_ret
    exact zig_end H.out
  · have H := Lib.hid (show -(u / 2) - 1 = zagOf u by unfold zagOf; rw [if_neg h])
    have hb : (u % 2 == 0) = false := by simp [h]
    clear h
    go_enter Try.func23, Try.ntmps23
    go_wp2
    go_ret
    exact zig_end H.out
end Go.Proofs.Ytlmpbfmlkpcjeaa

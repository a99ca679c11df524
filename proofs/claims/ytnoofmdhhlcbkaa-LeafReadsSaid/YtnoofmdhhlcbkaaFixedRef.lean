/- The document's Fixed, for any bytes (at most 890000), any int as the size and a number of 64 bits: as the program's. -/
import Derived.Test.YtnoofmdhhlcbkaaFixed
namespace Go.Proofs.Ytnoofmdhhlcbkaa
open Go.RowKit

/-- At the head of the document's loop: the digits that are laid, with those of what is left, are the number's. -/
def RefAt (w : World) (xs : List Int) (k : Nat) (y : Int) (v i u : Value) (wr : World) : Prop :=
  ∃ (A : Option Addr) (n c j : Nat) (pre : List Int) (q : Int), v = .slice A n c ∧ i = .int .i64 (j : Int) ∧ u = .int .u64 q ∧ j ≤ k ∧ pre.length = j ∧ pre ++ digitsOf (k - j) q.toNat = digitsOf k y.toNat ∧ 0 ≤ q ∧ q < 18446744073709551616 ∧ n = (xs ++ pre).length ∧ Own wr w.heap.size A c (xs ++ pre) ∧ Below w.heap.size w wr
theorem ref_step {pre : List Int} {k j : Nat} {q y : Int} (hj : j < k) (h : pre ++ digitsOf (k - j) q.toNat = digitsOf k y.toNat) (h0 : 0 ≤ q) : (pre ++ [q % 256]) ++ digitsOf (k - (j + 1)) (q / 256).toNat = digitsOf k y.toNat := by
  rw [← h, List.append_assoc]
  congr 1
  rw [show k - j = (k - (j + 1)) + 1 by omega, digitsOf, List.singleton_append, show (q / 256).toNat = q.toNat / 256 by omega]
  congr 1
  omega
theorem fixed_one (k : Nat) (y : Int) (h1 : 1 ≤ k) (h8 : k ≤ 8) : fixedOf (k : Int) [y] = digitsOf k y.toNat := by
  unfold fixedOf
  rw [if_pos (by unfold sizeOk; simp; omega)]
  simp

set_option maxHeartbeats 1000000 in
theorem fixedRef_bad (A : Option Addr) (n c : Nat) (xs : List Int) (size y : Int) (w : World) (hn : n = xs.length) (hs : Src .u8 w A xs) (hl : n ≤ 890000) (hb : size < 1 ∨ 8 < size) :
    Calls Try.prog 60 #[.slice A n c, .int .i64 size, .int .u64 y] w (Gives w (xs ++ fixedOf size [y])) := by
  have e : fixedOf size [y] = [] := by unfold fixedOf; rw [if_neg]; unfold sizeOk; simp; omega
  have HE := Lib.hid e
  have Hn := Lib.hid hn
  clear e hn
  by_cases h1 : size < 1
  · clear hb
    go_enter Try.func60, Try.ntmps60
    go_wp2_with (at_builtin; refine wpList_append_src rfl _ _ rfl w.heap.size _ _ _ [] rfl rfl (own_made w _ (Nat.le_refl _)) A n c xs rfl Hn.out (hs.keep ((Below.refl _ _).alloc (Nat.le_refl _) _)) (by omega) (by simp) ?_; rintro v w1 ⟨A1, n1, c1, rfl, hn1, ho1, hb0⟩; have hb1 := ((Below.refl _ _).alloc (Nat.le_refl _) _).trans hb0; have Hn1 := Lib.hid hn1; clear hn1 hb0)
    refine wp_loop_rounds 1 ?_
    rw [rounds_succ]
    go_wp2_with fail
    go_ret
    refine ⟨_, rfl, A1, n1, c1, rfl, ?_, ?_, hb1⟩
    · rw [HE.out, List.append_nil]; exact Hn1.out
    · rw [HE.out, List.append_nil]; exact ho1
  · have h8 : 8 < size := by omega
    have t8 : decide (size ≤ 8) = false := by simp; omega
    clear hb
    go_enter Try.func60, Try.ntmps60
    go_wp2_with (at_builtin; refine wpList_append_src rfl _ _ rfl w.heap.size _ _ _ [] rfl rfl (own_made w _ (Nat.le_refl _)) A n c xs rfl Hn.out (hs.keep ((Below.refl _ _).alloc (Nat.le_refl _) _)) (by omega) (by simp) ?_; rintro v w1 ⟨A1, n1, c1, rfl, hn1, ho1, hb0⟩; have hb1 := ((Below.refl _ _).alloc (Nat.le_refl _) _).trans hb0; have Hn1 := Lib.hid hn1; clear hn1 hb0)
    refine wp_loop_rounds 1 ?_
    rw [rounds_succ]
    go_wp2_with fail
    go_ret
    refine ⟨_, rfl, A1, n1, c1, rfl, ?_, ?_, hb1⟩
    · rw [HE.out, List.append_nil]; exact Hn1.out
    · rw [HE.out, List.append_nil]; exact ho1

set_option maxHeartbeats 1000000 in
theorem fixedRef_good (A : Option Addr) (n c : Nat) (xs : List Int) (k : Nat) (y : Int) (w : World) (hn : n = xs.length) (hs : Src .u8 w A xs) (hl : n ≤ 890000) (h1 : 1 ≤ k) (h8 : k ≤ 8) (hy0 : 0 ≤ y) (hy : y < 18446744073709551616) :
    Calls Try.prog 60 #[.slice A n c, .int .i64 (k : Int), .int .u64 y] w (Gives w (xs ++ fixedOf (k : Int) [y])) := by
  have HE := Lib.hid (fixed_one k y h1 h8)
  have Hn := Lib.hid hn
  clear hn
  go_enter Try.func60, Try.ntmps60
  go_wp2_with (at_builtin; refine wpList_append_src rfl _ _ rfl w.heap.size _ _ _ [] rfl rfl (own_made w _ (Nat.le_refl _)) A n c xs rfl Hn.out (hs.keep ((Below.refl _ _).alloc (Nat.le_refl _) _)) (by omega) (by simp) ?_; rintro v w1 ⟨A1, n1, c1, rfl, hn1, ho1, hb0⟩; have hb1 := ((Below.refl _ _).alloc (Nat.le_refl _) _).trans hb0; have Hn1 := Lib.hid hn1; clear hn1 hb0)
  go_loopw [7, 8, 2] (fun v i u wr => RefAt w xs k y v i u wr) (fun _ i _ _ => 10 - (intOf i).toNat)
  case atStart => exact ⟨A1, n1, c1, 0, [], y, rfl, rfl, rfl, by omega, rfl, rfl, hy0, hy, by rw [List.append_nil]; exact Hn1.out, by rw [List.append_nil]; exact ho1, hb1⟩
  case round =>
    obtain ⟨A2, n2, c2, j, pre, q, rfl, rfl, rfl, hj, hp, hd, hq0, hq, hn2, ho2, hb2⟩ := hrel
    have hz2 := hb2.size
    have hlen : n2 ≤ 890010 := by have := Hn.out; rw [List.length_append] at hn2; omega
    have HN2 := Lib.hid hn2
    have HD := Lib.hid hd
    have HP := Lib.hid hp
    clear hn2 hd hp
    by_cases hlt : j < k
    · go_wp2_with (at_builtin; refine wpList_append_src rfl _ _ rfl w.heap.size A2 n2 c2 (xs ++ pre) rfl HN2.out (ho2.keep ((Below.refl _ _).alloc (Nat.le_refl _) _)) _ 1 1 [q % 256] rfl rfl (src_new _ _) (by omega) (by simp; omega) ?_; rintro v w3 ⟨A3, n3, c3, rfl, hn3, ho3, hb3⟩; have HN3 := Lib.hid hn3; clear hn3)
      go_roundw
      case rel => exact ⟨A3, n3, c3, j + 1, pre ++ [q % 256], q / 256, rfl, by go_num, rfl, by omega, by rw [List.length_append, HP.out]; rfl, ref_step hlt HD.out hq0, by omega, by omega, by rw [← List.append_assoc]; exact HN3.out, by rw [← List.append_assoc]; exact ho3, (hb2.alloc hz2 _).trans hb3⟩
      case measure => simp [intOf]; omega
    · obtain rfl : j = k := by omega
      have he : pre = digitsOf j y.toNat := by have := HD.out; rw [Nat.sub_self, digitsOf, List.append_nil] at this; exact this
      have HP2 := Lib.hid he
      clear he
      go_wp2_with fail
      go_ret
      refine ⟨_, rfl, A2, n2, c2, rfl, ?_, ?_, hb2⟩
      · rw [HE.out, ← HP2.out]; exact HN2.out
      · rw [HE.out, ← HP2.out]; exact ho2

theorem fixedRef_any (A : Option Addr) (n c : Nat) (xs : List Int) (size y : Int) (w : World) (hn : n = xs.length) (hs : Src .u8 w A xs) (hl : n ≤ 890000) (hy0 : 0 ≤ y) (hy : y < 18446744073709551616) :
    Calls Try.prog 60 #[.slice A n c, .int .i64 size, .int .u64 y] w (Gives w (xs ++ fixedOf size [y])) := by
  by_cases hb : size < 1 ∨ 8 < size
  · exact fixedRef_bad A n c xs size y w hn hs hl hb
  · obtain ⟨k, rfl⟩ := Int.eq_ofNat_of_zero_le (a := size) (by omega)
    exact fixedRef_good A n c xs k y w hn hs hl (by omega) (by omega) hy0 hy
end Go.Proofs.Ytnoofmdhhlcbkaa

/- Short, the program's and the document's: for any bytes (at most 890000 of them) and any number of 64 bits: the bytes, and behind them the number's groups of seven bits, in memory of the call's own. -/
import Derived.Test.YtnoofmdhhlcbkaaMem
import Derived.Test.YtnoofmdhhlcbkaaOwn
import Derived.Test.YtnoofmdhhlcbkaaNums
import Derived.LoopTactic
namespace Go.Proofs.Ytnoofmdhhlcbkaa
open Go.RowKit

/-- At a round's head: the groups that are laid, with those of what is left, are the number's. -/
def ShortAt (w : World) (xs : List Int) (m : Int) (v u : Value) (wr : World) : Prop :=
  ∃ (A : Option Addr) (n c : Nat) (pre : List Int) (j : Int), v = .slice A n c ∧ u = .int .u64 j ∧ n = (xs ++ pre).length ∧ pre ++ shortOf j.toNat = shortOf m.toNat ∧ 0 ≤ j ∧ j < 18446744073709551616 ∧ Own wr w.heap.size A c (xs ++ pre) ∧ Below w.heap.size w wr

theorem short_len {xs pre : List Int} {m j : Int} {n : Nat} (h : pre ++ shortOf j.toNat = shortOf m.toNat) (hm : m < 18446744073709551616) (hn : n = (xs ++ pre).length) (hx : xs.length ≤ 890000) : n ≤ 890010 := by
  have h1 := shortOf_ten m.toNat (by omega)
  have h2 := shortOf_pos j.toNat
  have h3 := congrArg List.length h
  rw [List.length_append] at hn h3
  omega
theorem short_step {pre : List Int} {m j : Int} (h : pre ++ shortOf j.toNat = shortOf m.toNat) (h0 : 0 ≤ j) (hj : 128 ≤ j) : (pre ++ [j % 128 + 128]) ++ shortOf (j / 128).toNat = shortOf m.toNat := by
  rw [← h, shortOf_more j.toNat (by omega), List.append_assoc]
  congr 1
  rw [List.singleton_append, Int.toNat_of_nonneg h0, show (j / 128).toNat = j.toNat / 128 by omega]
theorem short_stop {pre : List Int} {m j : Int} (h : pre ++ shortOf j.toNat = shortOf m.toNat) (h0 : 0 ≤ j) (hj : j < 128) : pre ++ [j] = shortOf m.toNat := by
  rw [← h, shortOf_last j.toNat (by omega), Int.toNat_of_nonneg h0]

set_option maxHeartbeats 400000 in
theorem short_any (A : Option Addr) (n c : Nat) (xs : List Int) (m : Int) (w : World) (hn : n = xs.length) (hs : Src .u8 w A xs) (hl : n ≤ 890000) (hm0 : 0 ≤ m) (hm : m < 18446744073709551616) :
    Calls Try.prog 19 #[.slice A n c, .int .u64 m] w (Gives w (xs ++ shortOf m.toNat)) := by
  have Hn := Lib.hid hn
  have hx : xs.length ≤ 890000 := by omega
  clear hn
  go_enter Try.func19, Try.ntmps19
  go_wp2_with fail
  refine (own_any A n c xs _ Hn.out hs (by omega)).mono ?_
  rintro e w1 ⟨v1, rfl, A1, n1, c1, rfl, hn1, ho1, hb1⟩
  have Hn1 := Lib.hid hn1
  clear hn1
  go_wp2_with fail
  go_loopw [5, 1] (fun v u wr => ShortAt w xs m v u wr) (fun _ u _ => (intOf u).toNat)
  case atStart => exact ⟨A1, n1, c1, [], m, rfl, rfl, by rw [List.append_nil]; exact Hn1.out, rfl, hm0, hm, by rw [List.append_nil]; exact ho1, hb1⟩
  case round =>
    obtain ⟨A2, n2, c2, pre, j, rfl, rfl, hn2, hj, hj0, hj64, ho2, hb2⟩ := hrel
    have hlen := short_len hj hm hn2 hx
    have hz2 := hb2.size
    have Hn2 := Lib.hid hn2
    have Hj := Lib.hid hj
    clear hn2 hj hx
    by_cases h : 128 ≤ j
    · go_wp2_with (at_builtin; refine wpList_append_src rfl _ _ rfl w.heap.size A2 n2 c2 (xs ++ pre) rfl Hn2.out (ho2.keep ((Below.refl _ _).alloc (Nat.le_refl _) _)) _ 1 1 [j % 128 + 128] rfl rfl (src_new _ _) (by omega) (by simp; omega) ?_; rintro v w3 ⟨A3, n3, c3, rfl, hn3, ho3, hb3⟩; have Hn3 := Lib.hid hn3; clear hn3)
      go_roundw
      case rel => exact ⟨A3, n3, c3, pre ++ [j % 128 + 128], j / 128, rfl, rfl, by rw [← List.append_assoc]; exact Hn3.out, short_step Hj.out hj0 h, by omega, by omega, by rw [← List.append_assoc]; exact ho3, (hb2.alloc hz2 _).trans hb3⟩
      case measure => simp [intOf]; omega
    · go_wp2_with (at_builtin; refine wpList_append_src rfl _ _ rfl w.heap.size A2 n2 c2 (xs ++ pre) rfl Hn2.out (ho2.keep ((Below.refl _ _).alloc (Nat.le_refl _) _)) _ 1 1 [j] rfl rfl (src_new _ _) (by omega) (by simp; omega) ?_; rintro v w3 ⟨A3, n3, c3, rfl, hn3, ho3, hb3⟩; have Hn3 := Lib.hid hn3; clear hn3)
      go_ret
      refine ⟨_, rfl, A3, n3, c3, rfl, ?_, ?_, (hb2.alloc hz2 _).trans hb3⟩
      · rw [← short_stop Hj.out hj0 (by omega), ← List.append_assoc]; exact Hn3.out
      · rw [← short_stop Hj.out hj0 (by omega), ← List.append_assoc]; exact ho3
set_option maxHeartbeats 400000 in
theorem shortRef_any (A : Option Addr) (n c : Nat) (xs : List Int) (m : Int) (w : World) (hn : n = xs.length) (hs : Src .u8 w A xs) (hl : n ≤ 890000) (hm0 : 0 ≤ m) (hm : m < 18446744073709551616) :
    Calls Try.prog 49 #[.slice A n c, .int .u64 m] w (Gives w (xs ++ shortOf m.toNat)) := by
  have Hn := Lib.hid hn
  have hx : xs.length ≤ 890000 := by omega
  clear hn
  go_enter Try.func49, Try.ntmps49
  go_wp2_with (at_builtin; refine wpList_append_src rfl _ _ rfl w.heap.size _ _ _ [] rfl rfl (own_made w _ (Nat.le_refl _)) A n c xs rfl Hn.out (hs.keep ((Below.refl _ _).alloc (Nat.le_refl _) _)) (by omega) (by simp) ?_; rintro v w1 ⟨A1, n1, c1, rfl, hn1, ho1, hb0⟩; have hb1 := ((Below.refl _ _).alloc (Nat.le_refl _) _).trans hb0; have Hn1 := Lib.hid hn1; clear hn1 hb0)
  go_loopw [5, 1] (fun v u wr => ShortAt w xs m v u wr) (fun _ u _ => (intOf u).toNat)
  case atStart => exact ⟨A1, n1, c1, [], m, rfl, rfl, by rw [List.append_nil]; exact Hn1.out, rfl, hm0, hm, by rw [List.append_nil]; exact ho1, hb1⟩
  case round =>
    obtain ⟨A2, n2, c2, pre, j, rfl, rfl, hn2, hj, hj0, hj64, ho2, hb2⟩ := hrel
    have hlen := short_len hj hm hn2 hx
    have hz2 := hb2.size
    have Hn2 := Lib.hid hn2
    have Hj := Lib.hid hj
    clear hn2 hj hx
    by_cases h : 128 ≤ j
    · go_wp2_with (at_builtin; refine wpList_append_src rfl _ _ rfl w.heap.size A2 n2 c2 (xs ++ pre) rfl Hn2.out (ho2.keep ((Below.refl _ _).alloc (Nat.le_refl _) _)) _ 1 1 [j % 128 + 128] rfl rfl (src_new _ _) (by omega) (by simp; omega) ?_; rintro v w3 ⟨A3, n3, c3, rfl, hn3, ho3, hb3⟩; have Hn3 := Lib.hid hn3; clear hn3)
      go_roundw
      case rel => exact ⟨A3, n3, c3, pre ++ [j % 128 + 128], j / 128, rfl, rfl, by rw [← List.append_assoc]; exact Hn3.out, short_step Hj.out hj0 h, by omega, by omega, by rw [← List.append_assoc]; exact ho3, (hb2.alloc hz2 _).trans hb3⟩
      case measure => simp [intOf]; omega
    · go_wp2_with (at_builtin; refine wpList_append_src rfl _ _ rfl w.heap.size A2 n2 c2 (xs ++ pre) rfl Hn2.out (ho2.keep ((Below.refl _ _).alloc (Nat.le_refl _) _)) _ 1 1 [j] rfl rfl (src_new _ _) (by omega) (by simp; omega) ?_; rintro v w3 ⟨A3, n3, c3, rfl, hn3, ho3, hb3⟩; have Hn3 := Lib.hid hn3; clear hn3)
      go_ret
      refine ⟨_, rfl, A3, n3, c3, rfl, ?_, ?_, (hb2.alloc hz2 _).trans hb3⟩
      · rw [← short_stop Hj.out hj0 (by omega), ← List.append_assoc]; exact Hn3.out
      · rw [← short_stop Hj.out hj0 (by omega), ← List.append_assoc]; exact ho3
end Go.Proofs.Ytnoofmdhhlcbkaa

/- Fixed, the program's and the document's: for any bytes (at most 898000), any int as the size and numbers of 64 bits (at most 100): the bytes, and behind them the digits of each number, in memory of the call's own. -/
import Derived.Test.YtnoofmdhhlcbkaaMem
import Derived.Test.YtnoofmdhhlcbkaaOwn
import Derived.Test.YtnoofmdhhlcbkaaNums
import Derived.LoopTactic
namespace Go.Proofs.Ytnoofmdhhlcbkaa
open Go.RowKit

def sizeOk (size : Int) : Bool := decide (1 ≤ size ∧ size ≤ 8)
/-- The digits of each number; nothing, if the size is none. -/
def fixedOf (size : Int) (ys : List Int) : List Int := if sizeOk size = true then ys.flatMap fun y => digitsOf size.toNat y.toNat else []
theorem fixedOf_len (size : Int) (ys : List Int) : (fixedOf size ys).length ≤ 8 * ys.length := by
  unfold fixedOf
  split
  · rename_i h
    have h2 : 1 ≤ size ∧ size ≤ 8 := of_decide_eq_true h
    induction ys with
    | nil => simp
    | cons y r ih => rw [List.flatMap_cons, List.length_append, digitsOf_length, List.length_cons]; omega
  · simp
theorem fixedOf_bytes (size : Int) (ys : List Int) : IsBytes (fixedOf size ys) := by
  unfold fixedOf
  split
  · intro x hx
    obtain ⟨y, _, hy⟩ := List.mem_flatMap.1 hx
    exact digitsOf_bytes _ _ x hy
  · exact IsBytes.nil

set_option maxHeartbeats 400000 in
theorem isSize_yes (size : Int) (w : World) (h1 : 1 ≤ size) (h2 : size ≤ 8) : Calls Try.prog 64 #[.int .i64 size] w fun e w' => e = .returned (.bool true) ∧ w = w' := by
  go_enter Try.func64, Try.ntmps64
  go_wp2
  go_ret
  exact ⟨rfl, rfl⟩
set_option maxHeartbeats 400000 in
theorem isSize_no (size : Int) (w : World) (h : size < 1 ∨ 8 < size) : Calls Try.prog 64 #[.int .i64 size] w fun e w' => e = .returned (.bool false) ∧ w = w' := by
  by_cases h1 : size < 1
  · clear h
    go_enter Try.func64, Try.ntmps64
    go_wp2
    go_ret
    exact ⟨rfl, rfl⟩
  · have h8 : decide (size ≤ 8) = false := by simp; omega
    clear h
    go_enter Try.func64, Try.ntmps64
    go_wp2
    go_ret
    exact ⟨rfl, rfl⟩

/-- At the head of the outer loop: so many numbers are laid. -/
def FixAt (w : World) (xs ys : List Int) (k : Nat) (v i : Value) (wr : World) : Prop :=
  ∃ (A : Option Addr) (n c j : Nat), v = .slice A n c ∧ i = .int .i64 (j : Int) ∧ j ≤ ys.length ∧ n = (xs ++ fixedOf (k : Int) (ys.take j)).length ∧ Own wr w.heap.size A c (xs ++ fixedOf (k : Int) (ys.take j)) ∧ Below w.heap.size w wr
/-- At the head of the inner loop: so many digits of the number y are laid. -/
def DigAt (w : World) (zs : List Int) (y : Int) (k : Nat) (v i : Value) (wr : World) : Prop :=
  ∃ (A : Option Addr) (n c j : Nat), v = .slice A n c ∧ i = .int .i64 (j : Int) ∧ j ≤ k ∧ n = (zs ++ digitsOf j y.toNat).length ∧ Own wr w.heap.size A c (zs ++ digitsOf j y.toNat) ∧ Below w.heap.size w wr
theorem dig_len {zs : List Int} {y : Int} {j n : Nat} (h : n = (zs ++ digitsOf j y.toNat).length) : n = zs.length + j := by rw [h, List.length_append, digitsOf_length]

theorem dig_step (zs : List Int) (y : Int) (i : Nat) (h : 0 ≤ y) : (zs ++ digitsOf i y.toNat) ++ [y / 2 ^ (8 * i) % 256] = zs ++ digitsOf (i + 1) y.toNat := by
  rw [List.append_assoc, digitsOf_snoc]
  congr 3
  obtain ⟨m, rfl⟩ := Int.eq_ofNat_of_zero_le h
  simp
theorem fixed_step {xs ys zs : List Int} {k j : Nat} {y : Int} (h1 : 1 ≤ k) (h8 : k ≤ 8) (hj : j < ys.length) (hz : xs ++ fixedOf (k : Int) (ys.take j) = zs) (hy : y = ys.getD j 0) : zs ++ digitsOf k y.toNat = xs ++ fixedOf (k : Int) (ys.take (j + 1)) := by
  have hk : sizeOk (k : Int) = true := by unfold sizeOk; simp; omega
  unfold fixedOf at hz ⊢
  rw [if_pos hk] at hz ⊢
  rw [take_snoc_getD _ _ hj, List.flatMap_append, ← List.append_assoc, hz, hy]
  simp

set_option maxHeartbeats 1000000 in
theorem fixed_bad (A : Option Addr) (n c : Nat) (xs : List Int) (size : Int) (L : Option Addr) (m d : Nat) (ys : List Int) (w : World) (hn : n = xs.length) (hs : Src .u8 w A xs) (hl : n ≤ 898000) (hb : size < 1 ∨ 8 < size) :
    Calls Try.prog 53 #[.slice A n c, .int .i64 size, .slice L m d] w (Gives w (xs ++ fixedOf size ys)) := by
  have Hn := Lib.hid hn
  have Hs := Lib.hid hs
  have HB := Lib.hid hb
  clear hn hs hb
  have e : fixedOf size ys = [] := by unfold fixedOf; rw [if_neg]; unfold sizeOk; have := HB.out; simp; omega
  have HE := Lib.hid e
  clear e
  go_enter Try.func53, Try.ntmps53
  go_wp2_with fail
  refine (own_any A n c xs _ Hn.out Hs.out (by omega)).mono ?_
  rintro e w1 ⟨v1, rfl, A1, n1, c1, rfl, hn1, ho1, hb1⟩
  have Hn1 := Lib.hid hn1
  clear hn1
  go_wp2_with fail
  refine (isSize_no size _ HB.out).mono ?_
  rintro e w' ⟨rfl, rfl⟩
  go_wp2_with fail
  go_ret
  refine ⟨_, rfl, A1, n1, c1, rfl, ?_, ?_, hb1⟩
  · rw [HE.out, List.append_nil]; exact Hn1.out
  · rw [HE.out, List.append_nil]; exact ho1

set_option maxHeartbeats 1000000 in
theorem fixed_good (A : Option Addr) (n c : Nat) (xs : List Int) (k : Nat) (L : Option Addr) (m d : Nat) (ys : List Int) (w : World) (hn : n = xs.length) (hs : Src .u8 w A xs) (hl : n ≤ 898000) (h1 : 1 ≤ k) (h8 : k ≤ 8) (hm : m = ys.length) (hL : Src .u64 w L ys) (hml : m ≤ 100) (hy : ∀ y ∈ ys, 0 ≤ y ∧ y < 18446744073709551616) :
    Calls Try.prog 53 #[.slice A n c, .int .i64 (k : Int), .slice L m d] w (Gives w (xs ++ fixedOf (k : Int) ys)) := by
  have Hn := Lib.hid hn
  have Hs := Lib.hid hs
  have Hm := Lib.hid hm
  have HL := Lib.hid hL
  have Hy := Lib.hid hy
  clear hn hs hm hL hy
  go_enter Try.func53, Try.ntmps53
  go_wp2_with fail
  refine (own_any A n c xs _ Hn.out Hs.out (by omega)).mono ?_
  rintro e w1 ⟨v1, rfl, A1, n1, c1, rfl, hn1, ho1, hb1⟩
  have Hn1 := Lib.hid hn1
  clear hn1
  go_wp2_with fail
  refine (isSize_yes (k : Int) _ (by omega) (by omega)).mono ?_
  rintro e w' ⟨rfl, rfl⟩
  go_wp2_with fail
  go_loopw [7, 19] (fun v i wr => FixAt w xs ys k v i wr) (fun _ i _ => m - (intOf i).toNat)
  case atStart =>
    have e0 : fixedOf (k : Int) (ys.take 0) = [] := by unfold fixedOf; split <;> simp
    exact ⟨A1, n1, c1, 0, rfl, rfl, by omega, by rw [e0, List.append_nil]; exact Hn1.out, by rw [e0, List.append_nil]; exact ho1, hb1⟩
  case round =>
    obtain ⟨A2, n2, c2, j, rfl, rfl, hj, hn2, ho2, hb2⟩ := hrel
    have HN2 := Lib.hid hn2
    clear hn2
    obtain ⟨wo, rfl⟩ : ∃ wo : World, wo = wr := ⟨_, rfl⟩
    by_cases hlt : j < m
    · obtain ⟨b, o, rfl, hlb, hcell⟩ := HL.out (by rw [← Hm.out]; omega)
      obtain ⟨y, HY⟩ : ∃ y, Hid (y = ys.getD j 0) := ⟨_, rfl⟩
      have hcj : wo.cell? ⟨b, o + j, none⟩ = some (.int .u64 y) := by
        rw [HY.out, hb2.cell (p := ⟨b, o + j, none⟩) hlb]
        exact hcell j (by rw [← Hm.out]; omega)
      have hyb : 0 ≤ y ∧ y < 18446744073709551616 := by
        have hjl : j < ys.length := by rw [← Hm.out]; exact hlt
        rw [HY.out, List.getD_eq_getElem?_getD, List.getElem?_eq_getElem hjl]
        exact Hy.out _ (List.getElem_mem hjl)
      clear hcell
      have hz : n2 ≤ 898000 + 8 * 100 := by
        have e1 := HN2.out
        have e2 := fixedOf_len (k : Int) (ys.take j)
        have e3 := Hn.out
        have e4 := Hm.out
        rw [List.length_append] at e1
        rw [List.length_take] at e2
        omega
      have hz2 := hb2.size
      generalize hzs : xs ++ fixedOf (k : Int) (ys.take j) = zs at *
      have HZ := Lib.hid hzs
      clear hzs
      go_wp2_with fail
      go_loopw [7, 24] (fun v i wi => DigAt w zs y k v i wi) (fun _ i _ => 10 - (intOf i).toNat)
      case atStart => exact ⟨A2, n2, c2, 0, rfl, rfl, by omega, by rw [digitsOf, List.append_nil]; exact HN2.out, by rw [digitsOf, List.append_nil]; exact ho2, hb2⟩
      case round =>
        obtain ⟨A3, n3, c3, i, rfl, rfl, hi, hn3, ho3, hb3⟩ := hrel
        have hn3' := dig_len hn3
        have hn3b : n3 ≤ 898000 + 8 * 100 + 8 := by have := HN2.out; omega
        have HN3 := Lib.hid hn3
        have hz3 := hb3.size
        clear hn3 hn3'
        by_cases hik : i < k
        · go_wp2_with (at_builtin; refine wpList_append_src rfl _ _ rfl w.heap.size A3 n3 c3 (zs ++ digitsOf i y.toNat) rfl HN3.out (ho3.keep ((Below.refl _ _).alloc (Nat.le_refl _) _)) _ 1 1 [y / 2 ^ (8 * i) % 256] rfl rfl (src_new _ _) (by omega) (by simp; omega) ?_; rintro v w4 ⟨A4, n4, c4, rfl, hn4, ho4, hb4⟩; have HN4 := Lib.hid hn4; clear hn4)
          go_roundw
          case rel => exact ⟨A4, n4, c4, i + 1, rfl, by go_num, by omega, by rw [← dig_step zs y i hyb.1]; exact HN4.out, by rw [← dig_step zs y i hyb.1]; exact ho4, (hb3.alloc hz3 _).trans hb4⟩
          case measure => simp [intOf]; omega
        · obtain rfl : i = k := by omega
          have HF := Lib.hid (fixed_step h1 h8 (by rw [← Hm.out]; exact hlt) HZ.out HY.out)
          go_wp2_with fail
          go_roundw
          case rel => exact ⟨A3, n3, c3, j + 1, rfl, by go_num, by rw [← Hm.out]; omega, by rw [← HF.out]; exact HN3.out, by rw [← HF.out]; exact ho3, hb3⟩
          case measure => simp [intOf]; omega
    · obtain rfl : j = m := by have := Hm.out; omega
      have ht : ys.take j = ys := List.take_of_length_le (by rw [← Hm.out]; omega)
      have HT := Lib.hid ht
      clear ht
      go_wp2_with fail
      go_ret
      refine ⟨_, rfl, A2, n2, c2, rfl, ?_, ?_, hb2⟩
      · have := HN2.out
        rw [HT.out] at this
        exact this
      · have := ho2
        rw [HT.out] at this
        exact this

theorem fixed_any (A : Option Addr) (n c : Nat) (xs : List Int) (size : Int) (L : Option Addr) (m d : Nat) (ys : List Int) (w : World) (hn : n = xs.length) (hs : Src .u8 w A xs) (hl : n ≤ 898000) (hm : m = ys.length) (hL : Src .u64 w L ys) (hml : m ≤ 100) (hy : ∀ y ∈ ys, 0 ≤ y ∧ y < 18446744073709551616) :
    Calls Try.prog 53 #[.slice A n c, .int .i64 size, .slice L m d] w (Gives w (xs ++ fixedOf size ys)) := by
  by_cases hb : size < 1 ∨ 8 < size
  · exact fixed_bad A n c xs size L m d ys w hn hs hl hb
  · obtain ⟨k, rfl⟩ := Int.eq_ofNat_of_zero_le (a := size) (by omega)
    exact fixed_good A n c xs k L m d ys w hn hs hl (by omega) (by omega) hm hL hml hy

end Go.Proofs.Ytnoofmdhhlcbkaa

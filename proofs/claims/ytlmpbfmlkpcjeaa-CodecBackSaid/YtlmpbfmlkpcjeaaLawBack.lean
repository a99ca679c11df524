/- The walk of CodecBack: for any number of 64 bits, any text and any bytes it answers true, and writes nothing that was there. -/
import Derived.Test.YtlmpbfmlkpcjeaaText
import Derived.Test.YtlmpbfmlkpcjeaaLawFixed
import Derived.Laws.BitsAllLaws
namespace Go.Proofs.Ytlmpbfmlkpcjeaa
open Go.RowKit

/-- What Take tells of digits with bytes behind them. -/
theorem take_fixed {k : Nat} {m : Int} {ys : List Int} {w w' : World} {e : Ending} (h1 : 1 ≤ k) (h8 : k ≤ 8) (h : TakeEnds (fixedOf (k : Int) [m] ++ ys) (k : Int) w e w') :
    ∃ A n c, e = .returned (.tuple #[.int .u64 ((m.toNat % 256 ^ k : Nat) : Int), .slice A n c, .bool true]) ∧ n = ys.length ∧ Own w' w.heap.size A c ys ∧ Ext w w' := by
  obtain ⟨A, n, c, he, hn, ho, hw⟩ := h
  rw [fixed_one k m h1 h8] at he hn ho
  have hl : (digitsOf k m.toNat).length = k := digitsOf_length _ _
  have hok : takeOk (digitsOf k m.toNat ++ ys).length (k : Int) = true := by unfold takeOk; rw [List.length_append, hl]; simp; omega
  have e1 : takeNum (digitsOf k m.toNat ++ ys) (k : Int) = ((m.toNat % 256 ^ k : Nat) : Int) := by
    unfold takeNum
    rw [if_pos hok, Int.toNat_natCast]
    have ht : (digitsOf k m.toNat ++ ys).take k = digitsOf k m.toNat := by conv => lhs; rw [← hl]
                                                                           rw [hl]; exact List.take_left' hl
    rw [ht, numOf_digits]
  have e2 : takeRest (digitsOf k m.toNat ++ ys) (k : Int) = ys := by
    unfold takeRest
    rw [if_pos hok, Int.toNat_natCast]
    exact List.drop_left' hl
  rw [e1, hok] at he
  rw [e2] at hn ho
  exact ⟨A, n, c, he, hn, ho, hw⟩

/-- The lowest bits by 'and'. -/
theorem and_mask (m : Int) (k : Nat) (h0 : 0 ≤ m) (hm : m < 18446744073709551616) (hk : k < 8) :
    bits .and .u64 m (IntKind.u64.wrap (IntKind.u64.wrap (2 ^ (8 * k)) - 1)) = ((m.toNat % 256 ^ k : Nat) : Int) := by
  have hp : (2 : Nat) ^ (8 * k) ≤ 72057594037927936 := by
    have h1 : (2 : Nat) ^ (8 * k) ≤ 2 ^ 56 := Nat.pow_le_pow_right (by omega) (by omega)
    have h2 : (2 : Nat) ^ 56 = 72057594037927936 := by decide
    omega
  have hp1 : 0 < (2 : Nat) ^ (8 * k) := Nat.two_pow_pos _
  have e1 : (2 : Int) ^ (8 * k) = ((2 ^ (8 * k) : Nat) : Int) := by simp
  have e2 : IntKind.u64.wrap (IntKind.u64.wrap (2 ^ (8 * k)) - 1) = ((2 ^ (8 * k) - 1 : Nat) : Int) := by
    rw [e1, IntKind.wrap_u64, IntKind.wrap_u64]
    omega
  obtain ⟨a, rfl⟩ := Int.eq_ofNat_of_zero_le h0
  rw [e2, u64_and_nat a _ (by omega) (by omega), Nat.and_two_pow_sub_one_eq_mod, Int.toNat_natCast, pow8]
/-- What ReadText tells of a text with bytes behind it. -/
theorem text_back (s : ByteArray) (ys : List Int) (hz : s.size ≤ 10000) : readText (textOf s ++ ys) (s.size : Int) = (numsOf s, (textOf s).length, 0) := by
  have hr : readOf (textOf s ++ ys) = (s.size, (shortOf s.size).length, 0) := by
    unfold textOf
    rw [List.append_assoc]
    exact read_short s.size (by omega) _
  have hl : (textOf s).length = (shortOf s.size).length + s.size := by unfold textOf; rw [List.length_append, numsOf_length]
  rw [readText_ok hr (by omega) (by rw [List.length_append]; omega), hl]
  have hd : (textOf s ++ ys).drop (shortOf s.size).length = numsOf s ++ ys := by
    unfold textOf
    rw [List.append_assoc]
    exact List.drop_left' rfl
  rw [hd, List.take_left' (numsOf_length s)]

def BackLoop (w : World) (i : Value) (wr : World) : Prop := ∃ k : Nat, 1 ≤ k ∧ k ≤ 9 ∧ i = .int .i64 (k : Int) ∧ Ext w wr

set_option maxHeartbeats 400000 in
theorem back_long (m : Int) (s : ByteArray) (A : Option Addr) (n c : Nat) (w : World) (h1 : n ≤ 140737488351232) (h2 : s.size ≤ 140737488351232) (h : 3000 < s.size + n) :
    Calls Try.prog 6 #[.int .u64 m, .string s, .slice A n c] w fun e w' => e = .returned (.bool true) ∧ Below w.heap.size w w' := by
  go_enter Try.func6, Try.ntmps6
  go_wp2_with fail
  go_ret
  exact ⟨rfl, Below.refl _ _⟩

set_option maxHeartbeats 2000000 in
theorem back_small (m : Int) (s : ByteArray) (A : Option Addr) (n c : Nat) (ys : List Int) (w : World) (hm0 : 0 ≤ m) (hm : m < 18446744073709551616) (hn : n = ys.length) (hs : Src .u8 w A ys) (hx : IsBytes ys) (hl : s.size + n ≤ 3000) :
    Calls Try.prog 6 #[.int .u64 m, .string s, .slice A n c] w fun e w' => e = .returned (.bool true) ∧ Below w.heap.size w w' := by
  have Hn := Lib.hid hn
  have Hs := Lib.hid hs
  have Hx := Lib.hid hx
  clear hn hs hx
  have hd : decide ((3000 : Int) < (s.size : Int) + (n : Int)) = false := by simp; omega
  have hd2 : decide (3000 < s.size + n) = false := by simp; omega
  go_enter Try.func6, Try.ntmps6
  go_wp2_with fail
  go_loopw [7] (fun i wr => BackLoop w i wr) (fun i _ => 10 - (intOf i).toNat)
  case atStart => exact ⟨1, by omega, by omega, rfl, Ext.refl _⟩
  case round =>
    obtain ⟨k, hk1, hk9, rfl, hw⟩ := hrel
    by_cases h8 : k ≤ 8
    · go_wp2_with fail
      refine (fixed_any none 0 0 [] (k : Int) _ 1 1 [m] _ rfl Src.none_ (by omega) rfl (src_one64 wr m) (by omega) (in_one hm0 hm)).mono ?_
      rintro e w1 ⟨v1, rfl, A1, n1, c1, rfl, hn1, ho1, hb1⟩
      rw [List.nil_append] at hn1 ho1
      have hn1b : n1 ≤ 8 := by have := fixedOf_len (k : Int) [m]; simp at this; omega
      have E1 : Ext w w1 := Ext.trans hw (Ext.trans ((Below.refl _ _).alloc (Nat.le_refl _) _) hb1)
      have HN1 := Lib.hid hn1
      have hz1 := hb1.size
      clear hn1
      go_wp2_with (at_builtin; refine wpList_append_src rfl _ _ rfl _ A1 n1 c1 _ rfl HN1.out ho1 A n c ys rfl Hn.out (Src.keep Hs.out E1) (by omega) hz1 ?_; rintro v w2 ⟨A2, n2, c2, rfl, hn2, ho2, hb2⟩; have HN2 := Lib.hid hn2; clear hn2)
      have hcap := ho2.cap
      unfold maxLen at hcap
      have hbt : IsBytes (fixedOf (k : Int) [m] ++ ys) := IsBytes.append (fixedOf_bytes _ _) Hx.out
      have hsz := hw.size
      have E2 : Ext w w2 := Below.trans E1 (hb2.mono (by simp; omega))
      refine (take_any A2 n2 c2 (fixedOf (k : Int) [m] ++ ys) (k : Int) _ HN2.out ho2.src hbt (by have := HN2.out; rw [List.length_append, ← HN1.out, ← Hn.out] at this; omega) (by have := HN2.out; omega) (by omega) (by omega) (by omega)).mono ?_
      intro e w3 hT
      obtain ⟨A3, n3, c3, rfl, hn3, ho3, h3⟩ := take_fixed hk1 h8 hT
      have E3 : Ext w w3 := Ext.trans E2 h3
      have ht1 : (convert 22 9 (.slice A3 n3 c3)).run Try.prog w3 = .ok (.string (strOfNums ys)) w3 := run_text w3 A3 n3 c3 ys hn3 ho3.src
      have ht2 : (convert 22 9 (.slice A n c)).run Try.prog w3 = .ok (.string (strOfNums ys)) w3 := run_text w3 A n c ys Hn.out (Src.keep Hs.out E3)
      clear hT hn3 ho3 h3 hbt hcap ho2 hb2 ho1 hb1 hz1
      have hV := and_mask m k hm0 hm
      have hV8 : ¬ k < 8 → ((m.toNat % 256 ^ k : Nat) : Int) = m := fun h => by
        obtain rfl : k = 8 := by omega
        have e : (256 : Nat) ^ 8 = 18446744073709551616 := by decide
        rw [e]
        omega
      generalize ((m.toNat % 256 ^ k : Nat) : Int) = V at *
      by_cases hlt : k < 8
      · have hne : (V != bits BinOp.and IntKind.u64 m (IntKind.u64.wrap (IntKind.u64.wrap (2 ^ (8 * k)) - 1))) = false := by rw [hV hlt]; simp
        clear hV hV8
        go_wp2_with fail
        go_roundw
        case rel => exact ⟨k + 1, by omega, by omega, by go_num, E3⟩
        case measure => simp [intOf]; omega
      · have hne : (V != m) = false := by rw [hV8 hlt]; simp
        clear hV hV8
        go_wp2_with fail
        go_roundw
        case rel => exact ⟨k + 1, by omega, by omega, by go_num, E3⟩
        case measure => simp [intOf]; omega
    · have hs1 := Src.keep Hs.out hw
      have HS1 := Lib.hid hs1
      have HW := Lib.hid hw
      have hz1 := hw.size
      clear hs1 hw
      go_wp2_with fail
      refine (short_any none 0 0 [] m _ rfl Src.none_ (by omega) hm0 hm).mono ?_
      rintro e w1 ⟨v1, rfl, A1, n1, c1, rfl, hn1, ho1, hb1⟩
      rw [List.nil_append] at hn1 ho1
      have hL := shortOf_ten m.toNat (by omega)
      have hL1 := shortOf_pos m.toNat
      obtain ⟨S, HSS⟩ : ∃ S, Hid (shortOf m.toNat = S) := ⟨_, rfl⟩
      have hread := read_short m.toNat (by omega) ys
      have hbytes : IsBytes (shortOf m.toNat) := shortOf_bytes _
      rw [HSS.out] at hn1 ho1 hread hbytes
      rw [HSS.out] at hL hL1
      have E1 : Ext w w1 := Ext.trans HW.out hb1
      have hz2 := hb1.size
      have HN1 := Lib.hid hn1
      have hn1a : n1 ≤ 10 ∧ 1 ≤ n1 := by omega
      have HE1 := Lib.hid E1
      have HR := Lib.hid hread
      have HBS := Lib.hid hbytes
      clear hn1 E1 hread hbytes hL hL1
      go_wp2_with (at_builtin; refine wpList_append_src rfl _ _ rfl _ A1 n1 c1 S rfl HN1.out ho1 A n c ys rfl Hn.out (Src.keep Hs.out HE1.out) (by omega) hz2 ?_; rintro v w2 ⟨A2, n2, c2, rfl, hn2, ho2, hb2⟩; have HN2 := Lib.hid hn2; clear hn2)
      have E2 : Ext w w2 := Below.trans HE1.out (hb2.mono hz1)
      refine (reads_p A2 n2 c2 (S ++ ys) m (n1 : Int) 0 _ HN2.out ho2.src (IsBytes.append HBS.out Hx.out) (by have := HN2.out; rw [List.length_append, ← HN1.out, ← Hn.out] at this; omega) (by rw [HR.out, HN1.out]; exact ⟨Int.toNat_of_nonneg hm0, rfl, rfl⟩)).mono ?_
      rintro e w' ⟨rfl, rfl⟩
      have hz3 := E2.size
      have HE2 := Lib.hid E2
      clear ho1 hb1 ho2 hb2 E2 HR hz1 hz2
      go_wp2_with fail
      refine (text_any none 0 0 [] s _ rfl Src.none_ (by omega) (by omega)).mono ?_
      rintro e w3 ⟨v3, rfl, A3, n3, c3, rfl, hn3, ho3, hb3⟩
      rw [List.nil_append] at hn3 ho3
      have htl : (textOf s).length ≤ s.size + 10 := by
        have := shortOf_ten s.size (by omega)
        unfold textOf
        rw [List.length_append, numsOf_length]
        omega
      have HTB := Lib.hid (text_back s ys (by omega))
      have HTS := Lib.hid (textOf_bytes s)
      obtain ⟨T, HT⟩ : ∃ T, Hid (textOf s = T) := ⟨_, rfl⟩
      rw [HT.out] at hn3 ho3 htl HTB HTS
      have HE3 := Lib.hid (Ext.trans HE2.out hb3)
      have hn3b : n3 ≤ s.size + 10 := by omega
      have HN3 := Lib.hid hn3
      clear hn3 htl
      have HO3 := Lib.hid ho3.src
      clear ho3 hb3
      go_wp2_with (first
        | (at_builtin; refine wpList_append_src rfl (.tmp 79) (.tmp 80) rfl w3.heap.size _ _ _ [] rfl rfl (own_made w3 _ (Nat.le_refl _)) A3 n3 c3 T rfl HN3.out (HO3.out.keep ((Below.refl _ _).alloc (Nat.le_refl _) _)) (by omega) (by simp) ?_; rintro v w4 ⟨A4, n4, c4, rfl, hn4, ho4, hb4⟩; rw [List.nil_append] at hn4 ho4; have hn4b : n4 = n3 := hn4.trans HN3.out.symm; have HN4 := Lib.hid hn4; have HN4b := Lib.hid hn4b; have hn4c : n4 ≤ s.size + 10 := by omega
           have E4 : Ext w3 w4 := Below.trans ((Below.refl _ _).alloc (Nat.le_refl _) _) hb4; have HE4 := Lib.hid (Ext.trans HE3.out E4); have hz4 := E4.size; clear hn4 hn4b hb4 E4)
        | (at_builtin; refine wpList_append_src rfl (.tmp 81) (.tmp 82) rfl w3.heap.size A4 n4 c4 T rfl HN4.out ho4 A n c ys rfl Hn.out (Src.keep Hs.out HE4.out) (by omega) hz4 ?_; rintro v w5 ⟨A5, n5, c5, rfl, hn5, ho5, hb5⟩; have HN5 := Lib.hid hn5; clear hn5))
      have E5 : Ext w w5 := Below.trans HE4.out (hb5.mono HE3.out.size)
      have hcap := ho5.cap
      unfold maxLen at hcap
      refine (goReadText_any A5 n5 c5 (T ++ ys) (s.size : Int) _ HN5.out ho5.src (IsBytes.append HTS.out Hx.out) (by have := HN5.out; rw [List.length_append, ← HN4.out, ← Hn.out] at this; omega) (by have := HN5.out; omega) (by omega) (by omega) (by omega)).mono ?_
      intro e w6 hT6
      obtain ⟨he, h6⟩ := hT6
      rw [HTB.out] at he
      simp only [strOfNums_numsOf, ← HN3.out] at he
      subst he
      have HE6 := Lib.hid (Ext.trans E5 h6)
      clear E5 hcap ho4 ho5 hb5 h6 hz4
      go_wp2_with fail
      refine (short_any none 0 0 [] m _ rfl Src.none_ (by omega) hm0 hm).mono ?_
      rintro e w7 ⟨v7, rfl, A7, n7, c7, rfl, hn7, ho7, hb7⟩
      rw [List.nil_append, HSS.out] at hn7
      obtain rfl : n7 = n1 := hn7.trans HN1.out.symm
      have HE7 := Lib.hid (Ext.trans HE6.out hb7)
      clear hn7 ho7 hb7
      go_wp2_with fail
      go_ret
      exact ⟨rfl, HE7.out⟩
end Go.Proofs.Ytlmpbfmlkpcjeaa

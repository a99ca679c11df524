/- HexBack's walk: for any bytes and any int it answers true, and writes nothing that was there. -/
import Derived.Test.YteapddoanggniaaDoorItoa
import Derived.Test.YteapddoanggniaaDoorReadDecimal
import Derived.Test.YteapddoanggniaaDoorReadHex
import Derived.Test.YteapddoanggniaaDoorHex
namespace Go.Proofs.YteapddoanggniaaDoor
open Go.RowKit

theorem mask48 (n : Int) : ∃ v : Nat, bits .and .i64 n 281474976710655 = (v : Int) ∧ v < 281474976710656 := by
  refine ⟨(BitVec.ofInt 64 n &&& BitVec.ofInt 64 281474976710655).toNat, ?_, ?_⟩
  · show IntKind.i64.wrap ((BitVec.ofInt 64 n &&& BitVec.ofInt 64 281474976710655).toNat : Int) = _
    have h : (BitVec.ofInt 64 n &&& BitVec.ofInt 64 281474976710655).toNat ≤ 281474976710655 := by
      rw [BitVec.toNat_and]
      exact Nat.and_le_right (m := 281474976710655)
    rw [IntKind.wrap_i64]
    omega
  · rw [BitVec.toNat_and]
    exact Nat.lt_succ_of_le (Nat.and_le_right (m := 281474976710655))
theorem hex_back (xs : List Int) (w : World) (hx : IsBytes xs) (hl : xs.length ≤ 400000) :
    Calls Tryd.prog 11 #[.string (strOfNums (hexW xs))] w fun e w' => ∃ A m c, e = .returned (.tuple #[.slice A m c, .bool true]) ∧ m = xs.length ∧ Src .u8 w' A xs ∧ Below w.heap.size w w' := by
  have hs : (strOfNums (hexW xs)).size = 2 * xs.length := by rw [nums_size, hexW_length]
  have hn : numsOf (strOfNums (hexW xs)) = hexW xs := numsOf_strOfNums _ (hexW_bytes xs hx)
  obtain ⟨hr, hp⟩ := hexW_good xs hx
  refine (readHex_even _ xs.length w hs (by omega)).mono ?_
  rintro e w' ⟨A, m, c, zs, ok, he, hm, _, hsrc, hb, hz⟩
  rw [hn] at hz
  rcases hz with ⟨_, rfl, rfl⟩ | ⟨hz, _, _⟩
  · rw [hp] at hm hsrc
    exact ⟨A, m, c, he, hm, hsrc, hb⟩
  · exact absurd hr hz
theorem ten_back (xs : List Int) (w : World) (hx : IsBytes xs) (hr : TenRight xs) :
    Calls Tryd.prog 5 #[.string (strOfNums xs)] w fun e w' => e = .returned (.tuple #[.int .i64 (numW xs), .bool true]) ∧ Below w.heap.size w w' := by
  have hn : numsOf (strOfNums xs) = xs := numsOf_strOfNums _ hx
  refine (readDec_any _ w (by rw [nums_size]; have := hr.2.1; omega)).mono ?_
  rintro e w' ⟨⟨n, ok, he, hz⟩, hb⟩
  rw [hn] at hz
  rcases hz with ⟨_, rfl, rfl⟩ | ⟨hz, _, _⟩
  · exact ⟨he, hb⟩
  · exact absurd hr hz
theorem decI_nat (v : Nat) : decI (v : Int) = decN v := by
  unfold decI
  rw [if_neg (by omega)]
  rfl
theorem zeros_bytes {xs : List Int} (h : IsBytes xs) : IsBytes ([48, 48] ++ xs) := IsBytes.append (fun x hx => by
  have : x = 48 := by simpa using hx
  omega) h

set_option maxRecDepth 100000 in
set_option maxHeartbeats 4000000 in
theorem hexBack_small (A : Option Addr) (n c : Nat) (xs : List Int) (z : Int) (w : World) (hn : n = xs.length) (hlen : n ≤ 2000) (hs0 : Src .u8 w A xs) (hx : IsBytes xs) (ht : Tab w) :
    Calls Tryd.prog 4 #[.slice A n c, .int .i64 z] w fun e w' => e = .returned (.bool true) ∧ Below w.heap.size w w' := by
  have Ht := Lib.hid ht
  have Hs := Lib.hid hs0
  have Hn := Lib.hid hn
  have hxl : xs.length ≤ 400000 := by omega
  obtain ⟨v, hv, hv48⟩ := mask48 z
  have HH := Lib.hid (fun w2 (b2 : Below w.heap.size w w2) => hex_any A n c xs w2 hn (hs0.keep b2) hx (by omega))
  have HR := Lib.hid (fun w2 => hex_back xs w2 hx hxl)
  have hT : (strOfNums (hexW xs)).size = 2 * n := by rw [nums_size, hexW_length, ← hn]
  have HD := Lib.hid (fun w2 (t : Tab w2) => decimal_any (v : Int) w2 (by omega) (by omega) t)
  rw [decI_nat] at HD
  have HT := Lib.hid (fun w2 => ten_back (decN v) w2 (decN_bytes v) (tenRight_decN hv48).1)
  rw [(numW_decN v).2] at HT
  have HZ := Lib.hid (fun w2 => ten_back ([48, 48] ++ decN v) w2 (zeros_bytes (decN_bytes v)) (tenRight_decN hv48).2)
  rw [numW_zeros, (numW_decN v).2, ← nums_append, show strOfNums [48, 48] = ⟨#[48, 48]⟩ by decide] at HZ
  have hDs : (strOfNums (decN v)).size ≤ 18 := by rw [nums_size]; exact (tenRight_decN hv48).1.2.1
  have HK := Lib.hid (fun w' => kind_any 102 w' (by omega))
  rw [show kindI 102 = 2 from rfl] at HK
  have HX := Lib.hid (fun w2 (b2 : Below w.heap.size w w2) => run_text w2 A n c xs hn (hs0.keep b2))
  have HY := Lib.hid (fun w2 A2 m2 c2 (h2 : m2 = xs.length) (s2 : Src .u8 w2 A2 xs) => run_text w2 A2 m2 c2 xs h2 s2)
  generalize strOfNums (hexW xs) = T at *
  generalize strOfNums (decN v) = D at *
  generalize strOfNums xs = B at *
  have hd : decide ((2000 : Int) < (n : Int)) = false := by simp; omega
  clear hn hs0 hx ht hxl
  go_enter Tryd.func4, Tryd.ntmps4
  go_wp2_with fail
  refine (HH.out _ (Below.refl _ _)).mono ?_
  rintro e w1 ⟨rfl, b1⟩
  go_wp2_with fail
  refine (HR.out _).mono ?_
  rintro e w2 ⟨A2, m2, c2, rfl, hm2, hs2, hb2⟩
  have b2 := b1.trans (hb2.mono b1.size)
  have Hm2 := Lib.hid hm2
  have Hs2 := Lib.hid hs2
  clear hm2 hs2 b1 hb2 HR
  go_wp2_with fail
  refine (HD.out _ (Ht.out.keep b2)).mono ?_
  rintro e w3 ⟨rfl, hb3⟩
  have b3 := b2.trans (hb3.mono b2.size)
  have Hs3 := Lib.hid (Hs2.out.keep hb3)
  clear hb3 b2 Hs2
  go_wp2_with fail
  refine (HT.out _).mono ?_
  rintro e w4 ⟨rfl, hb4⟩
  have b4 := b3.trans (hb4.mono b3.size)
  have Hs4 := Lib.hid (Hs3.out.keep hb4)
  clear hb4 b3 Hs3
  go_wp2_with fail
  refine (HD.out _ (Ht.out.keep b4)).mono ?_
  rintro e w5 ⟨rfl, hb5⟩
  have b5 := b4.trans (hb5.mono b4.size)
  have Hs5 := Lib.hid (Hs4.out.keep hb5)
  clear hb5 b4 Hs4
  go_wp2_with fail
  refine (HZ.out _).mono ?_
  rintro e w6 ⟨rfl, hb6⟩
  have b6 := b5.trans (hb6.mono b5.size)
  have t2 := HY.out w6 A2 m2 c2 Hm2.out (Hs5.out.keep hb6)
  have t1 := HX.out w6 b6
  clear hb6 b5 Hs5 Hm2 HX HY
  go_wp2_with fail
  clear t1 t2
  refine (HH.out _ b6).mono ?_
  rintro e w7 ⟨rfl, hb7⟩
  have b7 := b6.trans (hb7.mono b6.size)
  clear hb7 b6
  go_wp2_with fail
  refine (HK.out _).mono ?_
  rintro e w8 ⟨rfl, rfl⟩
  go_wp2_with fail
  go_ret
  exact ⟨rfl, b7⟩

set_option maxRecDepth 100000 in
set_option maxHeartbeats 4000000 in
theorem hexBack_big (A : Option Addr) (n c : Nat) (xs : List Int) (z : Int) (w : World) (hn : 2000 = xs.length) (hlen : 2000 < n) (hs0 : Src .u8 w A xs) (hx : IsBytes xs) (hnc : n ≤ c) (hc : c ≤ 9223372036854775807) (ht : Tab w) :
    Calls Tryd.prog 4 #[.slice A n c, .int .i64 z] w fun e w' => e = .returned (.bool true) ∧ Below w.heap.size w w' := by
  have Ht := Lib.hid ht
  have Hs := Lib.hid hs0
  have Hn := Lib.hid hn
  have hxl : xs.length ≤ 400000 := by omega
  obtain ⟨v, hv, hv48⟩ := mask48 z
  have HH := Lib.hid (fun w2 (b2 : Below w.heap.size w w2) => hex_any A 2000 c xs w2 hn (hs0.keep b2) hx (by omega))
  have HR := Lib.hid (fun w2 => hex_back xs w2 hx hxl)
  have hT : (strOfNums (hexW xs)).size = 2 * 2000 := by rw [nums_size, hexW_length, ← hn]
  have HD := Lib.hid (fun w2 (t : Tab w2) => decimal_any (v : Int) w2 (by omega) (by omega) t)
  rw [decI_nat] at HD
  have HT := Lib.hid (fun w2 => ten_back (decN v) w2 (decN_bytes v) (tenRight_decN hv48).1)
  rw [(numW_decN v).2] at HT
  have HZ := Lib.hid (fun w2 => ten_back ([48, 48] ++ decN v) w2 (zeros_bytes (decN_bytes v)) (tenRight_decN hv48).2)
  rw [numW_zeros, (numW_decN v).2, ← nums_append, show strOfNums [48, 48] = ⟨#[48, 48]⟩ by decide] at HZ
  have hDs : (strOfNums (decN v)).size ≤ 18 := by rw [nums_size]; exact (tenRight_decN hv48).1.2.1
  have HK := Lib.hid (fun w' => kind_any 102 w' (by omega))
  rw [show kindI 102 = 2 from rfl] at HK
  have HX := Lib.hid (fun w2 (b2 : Below w.heap.size w w2) => run_text w2 A 2000 c xs hn (hs0.keep b2))
  have HY := Lib.hid (fun w2 A2 m2 c2 (h2 : m2 = xs.length) (s2 : Src .u8 w2 A2 xs) => run_text w2 A2 m2 c2 xs h2 s2)
  generalize strOfNums (hexW xs) = T at *
  generalize strOfNums (decN v) = D at *
  generalize strOfNums xs = B at *
  have hd : decide ((2000 : Int) < (n : Int)) = true := by simp; omega
  have hn1 : (2000 : Int) ≤ (c : Int) := by omega
  have hn2 : (c : Int) ≤ 9223372036854775807 := by omega
  clear hn hs0 hx ht hxl hlen hnc hc
  go_enter Tryd.func4, Tryd.ntmps4
  go_wp2_with fail
  refine (HH.out _ (Below.refl _ _)).mono ?_
  rintro e w1 ⟨rfl, b1⟩
  go_wp2_with fail
  refine (HR.out _).mono ?_
  rintro e w2 ⟨A2, m2, c2, rfl, hm2, hs2, hb2⟩
  have b2 := b1.trans (hb2.mono b1.size)
  have Hm2 := Lib.hid hm2
  have Hs2 := Lib.hid hs2
  clear hm2 hs2 b1 hb2 HR
  go_wp2_with fail
  refine (HD.out _ (Ht.out.keep b2)).mono ?_
  rintro e w3 ⟨rfl, hb3⟩
  have b3 := b2.trans (hb3.mono b2.size)
  have Hs3 := Lib.hid (Hs2.out.keep hb3)
  clear hb3 b2 Hs2
  go_wp2_with fail
  refine (HT.out _).mono ?_
  rintro e w4 ⟨rfl, hb4⟩
  have b4 := b3.trans (hb4.mono b3.size)
  have Hs4 := Lib.hid (Hs3.out.keep hb4)
  clear hb4 b3 Hs3
  go_wp2_with fail
  refine (HD.out _ (Ht.out.keep b4)).mono ?_
  rintro e w5 ⟨rfl, hb5⟩
  have b5 := b4.trans (hb5.mono b4.size)
  have Hs5 := Lib.hid (Hs4.out.keep hb5)
  clear hb5 b4 Hs4
  go_wp2_with fail
  refine (HZ.out _).mono ?_
  rintro e w6 ⟨rfl, hb6⟩
  have b6 := b5.trans (hb6.mono b5.size)
  have t2 := HY.out w6 A2 m2 c2 Hm2.out (Hs5.out.keep hb6)
  have t1 := HX.out w6 b6
  clear hb6 b5 Hs5 Hm2 HX HY
  go_wp2_with fail
  clear t1 t2
  refine (HH.out _ b6).mono ?_
  rintro e w7 ⟨rfl, hb7⟩
  have b7 := b6.trans (hb7.mono b6.size)
  clear hb7 b6
  go_wp2_with fail
  refine (HK.out _).mono ?_
  rintro e w8 ⟨rfl, rfl⟩
  go_wp2_with fail
  go_ret
  exact ⟨rfl, b7⟩
end Go.Proofs.YteapddoanggniaaDoor

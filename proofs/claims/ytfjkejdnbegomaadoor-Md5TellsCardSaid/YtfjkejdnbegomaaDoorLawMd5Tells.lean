/- Md5Tells' walk: any bytes have the document's sum, and its digits; abc has its own. -/
import Derived.Test.YtfjkejdnbegomaaDoorMd5RefSum
import Derived.Lib.SlBytesConst
namespace Go.Proofs.YtfjkejdnbegomaaDoor.Md5
open Go.RowKit

/-- The digits of abc's sum, as the document has them. -/
def abcB : ByteArray := ⟨#[57, 48, 48, 49, 53, 48, 57, 56, 51, 99, 100, 50, 52, 102, 98, 48, 100, 54, 57, 54, 51, 102, 55, 100, 50, 56, 101, 49, 55, 102, 55, 50]⟩
set_option maxRecDepth 100000 in
theorem abc_digits : textW (sumW kW h0W [97, 98, 99]) = numsOf abcB := by decide +kernel
theorem abc_text : strOfNums (textW (sumW kW h0W [97, 98, 99])) = abcB := by rw [abc_digits, strOfNums_numsOf]
theorem abc_bytes : IsBytes [97, 98, 99] := by
  intro x hx
  simp at hx
  omega
theorem abc_src (w : World) : Src .u8 (w.alloc (.cells #[.int .u8 97, .int .u8 98, .int .u8 99] 5 (3, 4))) (some ⟨w.heap.size, 0, none⟩) [97, 98, 99] := fun _ =>
  ⟨w.heap.size, 0, rfl, by simp, fun i hi => by
    rw [Nat.zero_add]
    exact (cell_of_row _ _ i _ 5 (3, 4) (heap_alloc_new w _)).trans (bcells_at [97, 98, 99] i hi)⟩
set_option maxRecDepth 100000 in
set_option maxHeartbeats 4000000 in
theorem tells_small (h0 ks : List Wd) (A : Option Addr) (n c : Nat) (xs : List Int) (w : World) (hst : SinesTell ks) (hbg : BeginTells h0) (hh : h0.length = 4) (ht : Tab w h0 ks) (hks : ks.length = 64) (habc : strOfNums (textW (sumW ks h0 [97, 98, 99])) = abcB)
    (hn : n = xs.length) (hlen : n ≤ 2000) (hs0 : Src .u8 w A xs) (hx : IsBytes xs) (hnc : n ≤ c) (hc : c ≤ 9223372036854775807) :
    Calls Tryd.prog 3 #[.slice A n c] w fun e w' => e = .returned (.bool true) ∧ Below w.heap.size w w' := by
  have Hst := Lib.hid hst
  have Hbg := Lib.hid hbg
  have Hh := Lib.hid hh
  have Ht := Lib.hid ht
  have Hks := Lib.hid hks
  have Ha := Lib.hid habc
  have Hn := Lib.hid hn
  have Hs := Lib.hid hs0
  have Hx := Lib.hid hx
  have Hm : Hid (n ≤ c) := Lib.hid (by omega)
  have Hc := Lib.hid hc
  have hd : decide ((2000 : Int) < (n : Int)) = false := by simp; omega
  have hn1 : (n : Int) ≤ 2000 := by omega
  clear hlen hnc hc
  have kc := fun (w : World) (C : Array Value) (n c : Nat) => Lib.run_convert_bytes_const (P := Tryd.prog) w 22 5 C n c Tryd.underlying22 Tryd.underlying5
  clear hst hbg hh ht hks habc hn hs0 hx
  go_enter Tryd.func3, Tryd.ntmps3
  go_wp2_with fail
  refine (sum_any h0 ks A n c xs w Hh.out Ht.out Hks.out Hn.out Hs.out Hx.out Hm.out Hc.out).mono ?_
  rintro e w1 ⟨rfl, b1⟩
  have HQ := Lib.hid (fun w' => eql_sums w' (sumW ks h0 xs) (sumW_length _ _ _))
  have HR := Lib.hid ((rsum_any h0 ks A n c xs w1 Hst.out Hbg.out Hh.out Hks.out Hn.out (Hs.out.keep b1) Hx.out Hm.out Hc.out))
  have HT := Lib.hid (fun w2 (b2 : Below w.heap.size w w2) => (text_any h0 ks A n c xs w2 Hh.out (Ht.out.keep b2) Hks.out Hn.out (Hs.out.keep b2) Hx.out Hm.out Hc.out))
  have HU := Lib.hid (fun w3 (b3 : Below w.heap.size w w3) => (rtext_any h0 ks A n c xs w3 Hst.out Hbg.out Hh.out Hks.out Hn.out (Hs.out.keep b3) Hx.out Hm.out Hc.out))
  generalize sumW ks h0 xs = out at *
  go_wp2_with fail
  refine HR.out.mono ?_
  rintro e w2 ⟨rfl, hb2⟩
  have b2 := b1.trans (hb2.mono b1.size)
  clear b1 hb2 HR
  have hq2 := HQ.out
  go_wp2_with fail
  clear hq2
  refine (HT.out w2 b2).mono ?_
  rintro e w3 ⟨rfl, hb3⟩
  have b3 := b2.trans (hb3.mono b2.size)
  clear b2 hb3 HT HQ
  have HU3 := Lib.hid (HU.out w3 b3)
  clear HU
  generalize strOfNums (textW out) = T at *
  go_wp2_with fail
  refine HU3.out.mono ?_
  rintro e w4 ⟨rfl, hb4⟩
  have b4 := b3.trans (hb4.mono b3.size)
  clear b3 hb4 HU3
  have b5 := b4.alloc b4.size (.cells #[.int .u8 97, .int .u8 98, .int .u8 99] 5 (3, 4))
  have S5 := Lib.hid (abc_src w4)
  clear b4
  go_wp2_with fail
  refine (text_any h0 ks (some ⟨w4.heap.size, 0, none⟩) 3 3 [97, 98, 99] _ Hh.out (Ht.out.keep b5) Hks.out rfl S5.out abc_bytes (Nat.le_refl _) (by omega)).mono ?_
  rintro e w6 ⟨rfl, hb6⟩
  rw [Ha.out]
  have b6 := b5.trans (hb6.mono b5.size)
  clear b5 hb6 S5
  unfold abcB
  go_wp2_with fail
  go_ret
  exact ⟨rfl, b6⟩
set_option maxRecDepth 100000 in
set_option maxHeartbeats 4000000 in
theorem tells_big (h0 ks : List Wd) (A : Option Addr) (n c : Nat) (xs : List Int) (w : World) (hst : SinesTell ks) (hbg : BeginTells h0) (hh : h0.length = 4) (ht : Tab w h0 ks) (hks : ks.length = 64) (habc : strOfNums (textW (sumW ks h0 [97, 98, 99])) = abcB)
    (hn : 2000 = xs.length) (hlen : 2000 < n) (hs0 : Src .u8 w A xs) (hx : IsBytes xs) (hnc : n ≤ c) (hc : c ≤ 9223372036854775807) :
    Calls Tryd.prog 3 #[.slice A n c] w fun e w' => e = .returned (.bool true) ∧ Below w.heap.size w w' := by
  have Hst := Lib.hid hst
  have Hbg := Lib.hid hbg
  have Hh := Lib.hid hh
  have Ht := Lib.hid ht
  have Hks := Lib.hid hks
  have Ha := Lib.hid habc
  have Hn := Lib.hid hn
  have Hs := Lib.hid hs0
  have Hx := Lib.hid hx
  have Hm : Hid (2000 ≤ c) := Lib.hid (by omega)
  have Hc := Lib.hid hc
  have hd : decide ((2000 : Int) < (n : Int)) = true := by simp; omega
  have hn1 : (2000 : Int) ≤ (c : Int) := by omega
  have hn2 : (c : Int) ≤ 9223372036854775807 := by omega
  clear hlen hnc hc
  have kc := fun (w : World) (C : Array Value) (n c : Nat) => Lib.run_convert_bytes_const (P := Tryd.prog) w 22 5 C n c Tryd.underlying22 Tryd.underlying5
  clear hst hbg hh ht hks habc hn hs0 hx
  go_enter Tryd.func3, Tryd.ntmps3
  go_wp2_with fail
  refine (sum_any h0 ks A 2000 c xs w Hh.out Ht.out Hks.out Hn.out Hs.out Hx.out Hm.out Hc.out).mono ?_
  rintro e w1 ⟨rfl, b1⟩
  have HQ := Lib.hid (fun w' => eql_sums w' (sumW ks h0 xs) (sumW_length _ _ _))
  have HR := Lib.hid ((rsum_any h0 ks A 2000 c xs w1 Hst.out Hbg.out Hh.out Hks.out Hn.out (Hs.out.keep b1) Hx.out Hm.out Hc.out))
  have HT := Lib.hid (fun w2 (b2 : Below w.heap.size w w2) => (text_any h0 ks A 2000 c xs w2 Hh.out (Ht.out.keep b2) Hks.out Hn.out (Hs.out.keep b2) Hx.out Hm.out Hc.out))
  have HU := Lib.hid (fun w3 (b3 : Below w.heap.size w w3) => (rtext_any h0 ks A 2000 c xs w3 Hst.out Hbg.out Hh.out Hks.out Hn.out (Hs.out.keep b3) Hx.out Hm.out Hc.out))
  generalize sumW ks h0 xs = out at *
  go_wp2_with fail
  refine HR.out.mono ?_
  rintro e w2 ⟨rfl, hb2⟩
  have b2 := b1.trans (hb2.mono b1.size)
  clear b1 hb2 HR
  have hq2 := HQ.out
  go_wp2_with fail
  clear hq2
  refine (HT.out w2 b2).mono ?_
  rintro e w3 ⟨rfl, hb3⟩
  have b3 := b2.trans (hb3.mono b2.size)
  clear b2 hb3 HT HQ
  have HU3 := Lib.hid (HU.out w3 b3)
  clear HU
  generalize strOfNums (textW out) = T at *
  go_wp2_with fail
  refine HU3.out.mono ?_
  rintro e w4 ⟨rfl, hb4⟩
  have b4 := b3.trans (hb4.mono b3.size)
  clear b3 hb4 HU3
  have b5 := b4.alloc b4.size (.cells #[.int .u8 97, .int .u8 98, .int .u8 99] 5 (3, 4))
  have S5 := Lib.hid (abc_src w4)
  clear b4
  go_wp2_with fail
  refine (text_any h0 ks (some ⟨w4.heap.size, 0, none⟩) 3 3 [97, 98, 99] _ Hh.out (Ht.out.keep b5) Hks.out rfl S5.out abc_bytes (Nat.le_refl _) (by omega)).mono ?_
  rintro e w6 ⟨rfl, hb6⟩
  rw [Ha.out]
  have b6 := b5.trans (hb6.mono b5.size)
  clear b5 hb6 S5
  unfold abcB
  go_wp2_with fail
  go_ret
  exact ⟨rfl, b6⟩
end Go.Proofs.YtfjkejdnbegomaaDoor.Md5

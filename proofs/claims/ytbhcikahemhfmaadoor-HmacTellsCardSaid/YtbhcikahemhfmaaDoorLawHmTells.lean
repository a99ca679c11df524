/- HmacTells' walk: any bytes have, by any key, the document's code, and its digits; the fox has its own. -/
import Derived.Test.YtbhcikahemhfmaaDoorHmRef
import Derived.Lib.SlBytesConst
namespace Go.Proofs.YtbhcikahemhfmaaDoor.Sha3.Hm
open Go.RowKit

/-- The document's example: its key, its bytes, its digits. -/
def keyB : List Int := [107, 101, 121]
def foxB : List Int := [84, 104, 101, 32, 113, 117, 105, 99, 107, 32, 98, 114, 111, 119, 110, 32, 102, 111, 120, 32, 106, 117, 109, 112, 115, 32, 111, 118, 101, 114, 32, 116, 104, 101, 32, 108, 97, 122, 121, 32, 100, 111, 103]
def foxS : ByteArray := ⟨#[102, 55, 98, 99, 56, 51, 102, 52, 51, 48, 53, 51, 56, 52, 50, 52, 98, 49, 51, 50, 57, 56, 101, 54, 97, 97, 54, 102, 98, 49, 52, 51, 101, 102, 52, 100, 53, 57, 97, 49, 52, 57, 52, 54, 49, 55, 53, 57, 57, 55, 52, 55, 57, 100, 98, 99, 50, 100, 49, 97, 51, 99, 100, 56]⟩
set_option maxRecDepth 100000 in
theorem fox_digits : hexW (macW kW h0W keyB foxB) = numsOf foxS := by decide +kernel
theorem fox_text : strOfNums (hexW (macW kW h0W keyB foxB)) = foxS := by rw [fox_digits, strOfNums_numsOf]
theorem keyB_bytes : IsBytes keyB := by
  intro x hx
  simp [keyB] at hx
  omega
theorem foxB_bytes : IsBytes foxB := by
  intro x hx
  simp [foxB] at hx
  omega
theorem const_src (w : World) (xs : List Int) (f : Nat × Nat) : Src .u8 (w.alloc (.cells (bcells xs) 5 f)) (some ⟨w.heap.size, 0, none⟩) xs := fun _ =>
  ⟨w.heap.size, 0, rfl, by simp, fun i hi => by
    rw [Nat.zero_add]
    exact (cell_of_row _ _ i _ 5 f (heap_alloc_new w _)).trans (bcells_at xs i hi)⟩
theorem const_src2 (w : World) (X : Obj) (xs : List Int) (f : Nat × Nat) : Src .u8 ((w.alloc X).alloc (.cells (bcells xs) 5 f)) (some ⟨w.heap.size + 1, 0, none⟩) xs := by
  have h := const_src (w.alloc X) xs f
  rwa [show (w.alloc X).heap.size = w.heap.size + 1 by show (w.heap.push _).size = _; rw [Array.size_push]] at h
theorem conv_const2 (w : World) (X : Obj) (C : Array Value) (n c : Nat) : (convert 22 22 (.slice (some ⟨w.heap.size + 1, 0, none⟩) n c)).run Tryd.prog ((w.alloc X).alloc (.cells C 5)) = .ok (.slice (some ⟨w.heap.size + 1, 0, none⟩) n c) ((w.alloc X).alloc (.cells C 5 (C.size, C.size + 1))) := by
  have h := Lib.run_convert_bytes_const (P := Tryd.prog) (w.alloc X) 22 5 C n c Tryd.underlying22 Tryd.underlying5
  rwa [show (w.alloc X).heap.size = w.heap.size + 1 by show (w.heap.push _).size = _; rw [Array.size_push]] at h
set_option maxRecDepth 100000 in
set_option maxHeartbeats 4000000 in
theorem tells_ss (h0 ks : List Wd) (A : Option Addr) (n c : Nat) (key : List Int) (A2 : Option Addr) (m d : Nat) (b : List Int) (w : World) (hk : KeysTell ks) (hbg : BeginTells h0) (hh : h0.length = 8) (ht : Tab w h0 ks) (hks : ks.length = 64) (hfox : strOfNums (hexW (macW ks h0 keyB foxB)) = foxS)
    (hn : n = key.length) (hlen : n ≤ 200) (hs0 : Src .u8 w A key) (hx : IsBytes key) (hnc : n ≤ c) (hc : c ≤ 9223372036854775807) (hm : m = b.length) (hlem : m ≤ 500) (hs1 : Src .u8 w A2 b) (hx1 : IsBytes b) :
    Calls Tryd.prog 3 #[.slice A n c, .slice A2 m d] w fun e w' => e = .returned (.bool true) ∧ Below w.heap.size w w' := by
  have Hh := Lib.hid hh
  have Ht := Lib.hid ht
  have Hks := Lib.hid hks
  have Ha := Lib.hid hfox
  have t1 : decide ((200 : Int) < (n : Int)) = false := by simp; omega
  have hn1 : (n : Int) ≤ 200 := by omega
  have t2 : decide ((500 : Int) < (m : Int)) = false := by simp; omega
  have hm1 : (m : Int) ≤ 500 := by omega
  have kc := fun (w : World) (C : Array Value) (n c : Nat) => Lib.run_convert_bytes_const (P := Tryd.prog) w 22 5 C n c Tryd.underlying22 Tryd.underlying5
  have kc2 := conv_const2
  have HQ := Lib.hid (fun w' => eql_sums w' (macW ks h0 key b) (macW_length _ _ _ _))
  have HM := Lib.hid (mac_any h0 ks A n c key A2 m d b w hh ht hks hn hs0 hx (by omega) hc hm hs1 hx1 (by omega))
  have HR := Lib.hid (fun w1 (b1 : Below w.heap.size w w1) => rmac_any h0 ks A n c key A2 m d b w1 hk hbg hh hks hn (hs0.keep b1) hx (by omega) hc hm (hs1.keep b1) hx1 (by omega))
  have HT := Lib.hid (fun w1 (b1 : Below w.heap.size w w1) => mtext_any h0 ks A n c key A2 m d b w1 hh (ht.keep b1) hks hn (hs0.keep b1) hx (by omega) hc hm (hs1.keep b1) hx1 (by omega))
  have HU := Lib.hid (fun w1 (b1 : Below w.heap.size w w1) => rmtext_any h0 ks A n c key A2 m d b w1 hk hbg hh hks hn (hs0.keep b1) hx (by omega) hc hm (hs1.keep b1) hx1 (by omega))
  clear hk hbg hh ht hks hfox hn hlen hs0 hx hnc hc hm hlem hs1 hx1
  generalize macW ks h0 key b = out at *
  go_enter Tryd.func3, Tryd.ntmps3
  go_wp2_with fail
  refine HM.out.mono ?_
  rintro e w1 ⟨rfl, b1⟩
  have HR1 := Lib.hid (HR.out w1 b1)
  clear HM HR
  go_wp2_with fail
  refine HR1.out.mono ?_
  rintro e w2 ⟨rfl, hb2⟩
  have b2 := b1.trans (hb2.mono b1.size)
  clear b1 hb2 HR1
  have hq2 := HQ.out
  go_wp2_with fail
  clear hq2
  refine (HT.out w2 b2).mono ?_
  rintro e w3 ⟨rfl, hb3⟩
  have b3 := b2.trans (hb3.mono b2.size)
  clear b2 hb3 HT HQ
  have HU3 := Lib.hid (HU.out w3 b3)
  clear HU
  generalize strOfNums (hexW out) = T at *
  go_wp2_with fail
  refine HU3.out.mono ?_
  rintro e w4 ⟨rfl, hb4⟩
  have b4 := b3.trans (hb4.mono b3.size)
  clear b3 hb4 HU3
  have b5 := b4.alloc b4.size (.cells (bcells keyB) 5 (3, 4))
  have S5 := const_src w4 keyB (3, 4)
  have b6 := b5.alloc b5.size (.cells (bcells foxB) 5 (43, 44))
  have S6 := Lib.hid (const_src2 w4 (.cells (bcells keyB) 5 (3, 4)) foxB (43, 44))
  have S7 := Lib.hid (S5.keep ((Below.refl _ _).alloc (Nat.le_refl _) (.cells (bcells foxB) 5 (43, 44))))
  clear b4 b5 S5
  go_wp2_with fail
  refine (mtext_any h0 ks (some ⟨w4.heap.size, 0, none⟩) 3 3 keyB (some ⟨w4.heap.size + 1, 0, none⟩) 43 43 foxB _ Hh.out (Ht.out.keep b6) Hks.out rfl S7.out keyB_bytes (Nat.le_refl _) (by omega) rfl S6.out foxB_bytes (by omega)).mono ?_
  rintro e w7 ⟨rfl, hb7⟩
  rw [Ha.out]
  have b7 := b6.trans (hb7.mono b6.size)
  clear b6 hb7 S6 S7 kc kc2
  unfold foxS
  go_wp2_with fail
  go_ret
  exact ⟨rfl, b7⟩
set_option maxRecDepth 100000 in
set_option maxHeartbeats 4000000 in
theorem tells_sb (h0 ks : List Wd) (A : Option Addr) (n c : Nat) (key : List Int) (A2 : Option Addr) (m d : Nat) (b : List Int) (w : World) (hk : KeysTell ks) (hbg : BeginTells h0) (hh : h0.length = 8) (ht : Tab w h0 ks) (hks : ks.length = 64) (hfox : strOfNums (hexW (macW ks h0 keyB foxB)) = foxS)
    (hn : n = key.length) (hlen : n ≤ 200) (hs0 : Src .u8 w A key) (hx : IsBytes key) (hnc : n ≤ c) (hc : c ≤ 9223372036854775807) (hm : 500 = b.length) (hlem : 500 < m) (hs1 : Src .u8 w A2 b) (hx1 : IsBytes b) (hmd : m ≤ d) (hd : d ≤ 9223372036854775807) :
    Calls Tryd.prog 3 #[.slice A n c, .slice A2 m d] w fun e w' => e = .returned (.bool true) ∧ Below w.heap.size w w' := by
  have Hh := Lib.hid hh
  have Ht := Lib.hid ht
  have Hks := Lib.hid hks
  have Ha := Lib.hid hfox
  have t1 : decide ((200 : Int) < (n : Int)) = false := by simp; omega
  have hn1 : (n : Int) ≤ 200 := by omega
  have t2 : decide ((500 : Int) < (m : Int)) = true := by simp; omega
  have hm1 : (500 : Int) ≤ (d : Int) := by omega
  have hm2 : (d : Int) ≤ 9223372036854775807 := by omega
  have kc := fun (w : World) (C : Array Value) (n c : Nat) => Lib.run_convert_bytes_const (P := Tryd.prog) w 22 5 C n c Tryd.underlying22 Tryd.underlying5
  have kc2 := conv_const2
  have HQ := Lib.hid (fun w' => eql_sums w' (macW ks h0 key b) (macW_length _ _ _ _))
  have HM := Lib.hid (mac_any h0 ks A n c key A2 500 d b w hh ht hks hn hs0 hx (by omega) hc hm hs1 hx1 (by omega))
  have HR := Lib.hid (fun w1 (b1 : Below w.heap.size w w1) => rmac_any h0 ks A n c key A2 500 d b w1 hk hbg hh hks hn (hs0.keep b1) hx (by omega) hc hm (hs1.keep b1) hx1 (by omega))
  have HT := Lib.hid (fun w1 (b1 : Below w.heap.size w w1) => mtext_any h0 ks A n c key A2 500 d b w1 hh (ht.keep b1) hks hn (hs0.keep b1) hx (by omega) hc hm (hs1.keep b1) hx1 (by omega))
  have HU := Lib.hid (fun w1 (b1 : Below w.heap.size w w1) => rmtext_any h0 ks A n c key A2 500 d b w1 hk hbg hh hks hn (hs0.keep b1) hx (by omega) hc hm (hs1.keep b1) hx1 (by omega))
  clear hk hbg hh ht hks hfox hn hlen hs0 hx hnc hc hm hlem hs1 hx1 hmd hd
  generalize macW ks h0 key b = out at *
  go_enter Tryd.func3, Tryd.ntmps3
  go_wp2_with fail
  refine HM.out.mono ?_
  rintro e w1 ⟨rfl, b1⟩
  have HR1 := Lib.hid (HR.out w1 b1)
  clear HM HR
  go_wp2_with fail
  refine HR1.out.mono ?_
  rintro e w2 ⟨rfl, hb2⟩
  have b2 := b1.trans (hb2.mono b1.size)
  clear b1 hb2 HR1
  have hq2 := HQ.out
  go_wp2_with fail
  clear hq2
  refine (HT.out w2 b2).mono ?_
  rintro e w3 ⟨rfl, hb3⟩
  have b3 := b2.trans (hb3.mono b2.size)
  clear b2 hb3 HT HQ
  have HU3 := Lib.hid (HU.out w3 b3)
  clear HU
  generalize strOfNums (hexW out) = T at *
  go_wp2_with fail
  refine HU3.out.mono ?_
  rintro e w4 ⟨rfl, hb4⟩
  have b4 := b3.trans (hb4.mono b3.size)
  clear b3 hb4 HU3
  have b5 := b4.alloc b4.size (.cells (bcells keyB) 5 (3, 4))
  have S5 := const_src w4 keyB (3, 4)
  have b6 := b5.alloc b5.size (.cells (bcells foxB) 5 (43, 44))
  have S6 := Lib.hid (const_src2 w4 (.cells (bcells keyB) 5 (3, 4)) foxB (43, 44))
  have S7 := Lib.hid (S5.keep ((Below.refl _ _).alloc (Nat.le_refl _) (.cells (bcells foxB) 5 (43, 44))))
  clear b4 b5 S5
  go_wp2_with fail
  refine (mtext_any h0 ks (some ⟨w4.heap.size, 0, none⟩) 3 3 keyB (some ⟨w4.heap.size + 1, 0, none⟩) 43 43 foxB _ Hh.out (Ht.out.keep b6) Hks.out rfl S7.out keyB_bytes (Nat.le_refl _) (by omega) rfl S6.out foxB_bytes (by omega)).mono ?_
  rintro e w7 ⟨rfl, hb7⟩
  rw [Ha.out]
  have b7 := b6.trans (hb7.mono b6.size)
  clear b6 hb7 S6 S7 kc kc2
  unfold foxS
  go_wp2_with fail
  go_ret
  exact ⟨rfl, b7⟩
set_option maxRecDepth 100000 in
set_option maxHeartbeats 4000000 in
theorem tells_bs (h0 ks : List Wd) (A : Option Addr) (n c : Nat) (key : List Int) (A2 : Option Addr) (m d : Nat) (b : List Int) (w : World) (hk : KeysTell ks) (hbg : BeginTells h0) (hh : h0.length = 8) (ht : Tab w h0 ks) (hks : ks.length = 64) (hfox : strOfNums (hexW (macW ks h0 keyB foxB)) = foxS)
    (hn : 200 = key.length) (hlen : 200 < n) (hs0 : Src .u8 w A key) (hx : IsBytes key) (hnc : n ≤ c) (hc : c ≤ 9223372036854775807) (hm : m = b.length) (hlem : m ≤ 500) (hs1 : Src .u8 w A2 b) (hx1 : IsBytes b) :
    Calls Tryd.prog 3 #[.slice A n c, .slice A2 m d] w fun e w' => e = .returned (.bool true) ∧ Below w.heap.size w w' := by
  have Hh := Lib.hid hh
  have Ht := Lib.hid ht
  have Hks := Lib.hid hks
  have Ha := Lib.hid hfox
  have t1 : decide ((200 : Int) < (n : Int)) = true := by simp; omega
  have hn1 : (200 : Int) ≤ (c : Int) := by omega
  have hn2 : (c : Int) ≤ 9223372036854775807 := by omega
  have t2 : decide ((500 : Int) < (m : Int)) = false := by simp; omega
  have hm1 : (m : Int) ≤ 500 := by omega
  have kc := fun (w : World) (C : Array Value) (n c : Nat) => Lib.run_convert_bytes_const (P := Tryd.prog) w 22 5 C n c Tryd.underlying22 Tryd.underlying5
  have kc2 := conv_const2
  have HQ := Lib.hid (fun w' => eql_sums w' (macW ks h0 key b) (macW_length _ _ _ _))
  have HM := Lib.hid (mac_any h0 ks A 200 c key A2 m d b w hh ht hks hn hs0 hx (by omega) hc hm hs1 hx1 (by omega))
  have HR := Lib.hid (fun w1 (b1 : Below w.heap.size w w1) => rmac_any h0 ks A 200 c key A2 m d b w1 hk hbg hh hks hn (hs0.keep b1) hx (by omega) hc hm (hs1.keep b1) hx1 (by omega))
  have HT := Lib.hid (fun w1 (b1 : Below w.heap.size w w1) => mtext_any h0 ks A 200 c key A2 m d b w1 hh (ht.keep b1) hks hn (hs0.keep b1) hx (by omega) hc hm (hs1.keep b1) hx1 (by omega))
  have HU := Lib.hid (fun w1 (b1 : Below w.heap.size w w1) => rmtext_any h0 ks A 200 c key A2 m d b w1 hk hbg hh hks hn (hs0.keep b1) hx (by omega) hc hm (hs1.keep b1) hx1 (by omega))
  clear hk hbg hh ht hks hfox hn hlen hs0 hx hnc hc hm hlem hs1 hx1
  generalize macW ks h0 key b = out at *
  go_enter Tryd.func3, Tryd.ntmps3
  go_wp2_with fail
  refine HM.out.mono ?_
  rintro e w1 ⟨rfl, b1⟩
  have HR1 := Lib.hid (HR.out w1 b1)
  clear HM HR
  go_wp2_with fail
  refine HR1.out.mono ?_
  rintro e w2 ⟨rfl, hb2⟩
  have b2 := b1.trans (hb2.mono b1.size)
  clear b1 hb2 HR1
  have hq2 := HQ.out
  go_wp2_with fail
  clear hq2
  refine (HT.out w2 b2).mono ?_
  rintro e w3 ⟨rfl, hb3⟩
  have b3 := b2.trans (hb3.mono b2.size)
  clear b2 hb3 HT HQ
  have HU3 := Lib.hid (HU.out w3 b3)
  clear HU
  generalize strOfNums (hexW out) = T at *
  go_wp2_with fail
  refine HU3.out.mono ?_
  rintro e w4 ⟨rfl, hb4⟩
  have b4 := b3.trans (hb4.mono b3.size)
  clear b3 hb4 HU3
  have b5 := b4.alloc b4.size (.cells (bcells keyB) 5 (3, 4))
  have S5 := const_src w4 keyB (3, 4)
  have b6 := b5.alloc b5.size (.cells (bcells foxB) 5 (43, 44))
  have S6 := Lib.hid (const_src2 w4 (.cells (bcells keyB) 5 (3, 4)) foxB (43, 44))
  have S7 := Lib.hid (S5.keep ((Below.refl _ _).alloc (Nat.le_refl _) (.cells (bcells foxB) 5 (43, 44))))
  clear b4 b5 S5
  go_wp2_with fail
  refine (mtext_any h0 ks (some ⟨w4.heap.size, 0, none⟩) 3 3 keyB (some ⟨w4.heap.size + 1, 0, none⟩) 43 43 foxB _ Hh.out (Ht.out.keep b6) Hks.out rfl S7.out keyB_bytes (Nat.le_refl _) (by omega) rfl S6.out foxB_bytes (by omega)).mono ?_
  rintro e w7 ⟨rfl, hb7⟩
  rw [Ha.out]
  have b7 := b6.trans (hb7.mono b6.size)
  clear b6 hb7 S6 S7 kc kc2
  unfold foxS
  go_wp2_with fail
  go_ret
  exact ⟨rfl, b7⟩
set_option maxRecDepth 100000 in
set_option maxHeartbeats 4000000 in
theorem tells_bb (h0 ks : List Wd) (A : Option Addr) (n c : Nat) (key : List Int) (A2 : Option Addr) (m d : Nat) (b : List Int) (w : World) (hk : KeysTell ks) (hbg : BeginTells h0) (hh : h0.length = 8) (ht : Tab w h0 ks) (hks : ks.length = 64) (hfox : strOfNums (hexW (macW ks h0 keyB foxB)) = foxS)
    (hn : 200 = key.length) (hlen : 200 < n) (hs0 : Src .u8 w A key) (hx : IsBytes key) (hnc : n ≤ c) (hc : c ≤ 9223372036854775807) (hm : 500 = b.length) (hlem : 500 < m) (hs1 : Src .u8 w A2 b) (hx1 : IsBytes b) (hmd : m ≤ d) (hd : d ≤ 9223372036854775807) :
    Calls Tryd.prog 3 #[.slice A n c, .slice A2 m d] w fun e w' => e = .returned (.bool true) ∧ Below w.heap.size w w' := by
  have Hh := Lib.hid hh
  have Ht := Lib.hid ht
  have Hks := Lib.hid hks
  have Ha := Lib.hid hfox
  have t1 : decide ((200 : Int) < (n : Int)) = true := by simp; omega
  have hn1 : (200 : Int) ≤ (c : Int) := by omega
  have hn2 : (c : Int) ≤ 9223372036854775807 := by omega
  have t2 : decide ((500 : Int) < (m : Int)) = true := by simp; omega
  have hm1 : (500 : Int) ≤ (d : Int) := by omega
  have hm2 : (d : Int) ≤ 9223372036854775807 := by omega
  have kc := fun (w : World) (C : Array Value) (n c : Nat) => Lib.run_convert_bytes_const (P := Tryd.prog) w 22 5 C n c Tryd.underlying22 Tryd.underlying5
  have kc2 := conv_const2
  have HQ := Lib.hid (fun w' => eql_sums w' (macW ks h0 key b) (macW_length _ _ _ _))
  have HM := Lib.hid (mac_any h0 ks A 200 c key A2 500 d b w hh ht hks hn hs0 hx (by omega) hc hm hs1 hx1 (by omega))
  have HR := Lib.hid (fun w1 (b1 : Below w.heap.size w w1) => rmac_any h0 ks A 200 c key A2 500 d b w1 hk hbg hh hks hn (hs0.keep b1) hx (by omega) hc hm (hs1.keep b1) hx1 (by omega))
  have HT := Lib.hid (fun w1 (b1 : Below w.heap.size w w1) => mtext_any h0 ks A 200 c key A2 500 d b w1 hh (ht.keep b1) hks hn (hs0.keep b1) hx (by omega) hc hm (hs1.keep b1) hx1 (by omega))
  have HU := Lib.hid (fun w1 (b1 : Below w.heap.size w w1) => rmtext_any h0 ks A 200 c key A2 500 d b w1 hk hbg hh hks hn (hs0.keep b1) hx (by omega) hc hm (hs1.keep b1) hx1 (by omega))
  clear hk hbg hh ht hks hfox hn hlen hs0 hx hnc hc hm hlem hs1 hx1 hmd hd
  generalize macW ks h0 key b = out at *
  go_enter Tryd.func3, Tryd.ntmps3
  go_wp2_with fail
  refine HM.out.mono ?_
  rintro e w1 ⟨rfl, b1⟩
  have HR1 := Lib.hid (HR.out w1 b1)
  clear HM HR
  go_wp2_with fail
  refine HR1.out.mono ?_
  rintro e w2 ⟨rfl, hb2⟩
  have b2 := b1.trans (hb2.mono b1.size)
  clear b1 hb2 HR1
  have hq2 := HQ.out
  go_wp2_with fail
  clear hq2
  refine (HT.out w2 b2).mono ?_
  rintro e w3 ⟨rfl, hb3⟩
  have b3 := b2.trans (hb3.mono b2.size)
  clear b2 hb3 HT HQ
  have HU3 := Lib.hid (HU.out w3 b3)
  clear HU
  generalize strOfNums (hexW out) = T at *
  go_wp2_with fail
  refine HU3.out.mono ?_
  rintro e w4 ⟨rfl, hb4⟩
  have b4 := b3.trans (hb4.mono b3.size)
  clear b3 hb4 HU3
  have b5 := b4.alloc b4.size (.cells (bcells keyB) 5 (3, 4))
  have S5 := const_src w4 keyB (3, 4)
  have b6 := b5.alloc b5.size (.cells (bcells foxB) 5 (43, 44))
  have S6 := Lib.hid (const_src2 w4 (.cells (bcells keyB) 5 (3, 4)) foxB (43, 44))
  have S7 := Lib.hid (S5.keep ((Below.refl _ _).alloc (Nat.le_refl _) (.cells (bcells foxB) 5 (43, 44))))
  clear b4 b5 S5
  go_wp2_with fail
  refine (mtext_any h0 ks (some ⟨w4.heap.size, 0, none⟩) 3 3 keyB (some ⟨w4.heap.size + 1, 0, none⟩) 43 43 foxB _ Hh.out (Ht.out.keep b6) Hks.out rfl S7.out keyB_bytes (Nat.le_refl _) (by omega) rfl S6.out foxB_bytes (by omega)).mono ?_
  rintro e w7 ⟨rfl, hb7⟩
  rw [Ha.out]
  have b7 := b6.trans (hb7.mono b6.size)
  clear b6 hb7 S6 S7 kc kc2
  unfold foxS
  go_wp2_with fail
  go_ret
  exact ⟨rfl, b7⟩
end Go.Proofs.YtbhcikahemhfmaaDoor.Sha3.Hm

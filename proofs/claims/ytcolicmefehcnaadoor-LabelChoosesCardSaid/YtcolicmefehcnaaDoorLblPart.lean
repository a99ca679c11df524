/- What Open calls: a part of the bytes as a number (its closure), and bytes.Equal. No conditions but those that stand in each lemma. -/
import Derived.Test.YtcolicmefehcnaaDoorLblSeal
import Derived.Test.YtcolicmefehcnaaDoorPtrReadAny
namespace Go.Proofs.YtcolicmefehcnaaDoor
open Go.RowKit

set_option maxHeartbeats 1000000 in
theorem part_sum (R b o n c : Nat) (xs : List Int) (w : World) (hr : Row w R 28 #[.slice (some ⟨b, o, none⟩) n c]) (hn : n = xs.length) (hs : Src .u8 w (some ⟨b, o, none⟩) xs) (hx : IsBytes xs) (h : 512 ≤ n) (hnc : n ≤ c) (hc : c ≤ 9223372036854775807) :
    Calls Tryd.prog 22 #[.int .i64 500, .int .i64 4, .pointer (some ⟨R, 0, none⟩)] w fun e w' => e = .returned (.int .u64 (numAt xs 500 4)) ∧ Below w.heap.size w w' := by
  have h52 : (504 : Int) ≤ (c : Int) := by omega
  have hc4 : 500 < c := by omega
  have hne : ¬ c = 500 := by omega
  have HL := Lib.hid (show 512 ≤ xs.length by omega)
  have HC := Lib.hid (show xs.length ≤ c by omega)
  have HS := Lib.hid hs
  have HX := Lib.hid hx
  have c0 : w.cell? ⟨R, 0, none⟩ = some (.slice (some ⟨b, o, none⟩) n c) := hr.cell (j := 0) rfl
  have HT : Hid (takeNum ((xs.drop 500).take 4) 4 = numAt xs 500 4) := Lib.hid (takeNum_full ((xs.drop 500).take 4) 4 (by rw [List.length_take, List.length_drop]; omega) (by omega) (by omega))
  have HK : Hid (Calls Tryd.prog 23 #[.slice (some ⟨b, o + 500, none⟩) 4 (c - 500), .int .i64 4] w (TakeEnds ((xs.drop 500).take 4) 4 w)) :=
    Lib.hid (take_any (some ⟨b, o + 500, none⟩) 4 (c - 500) ((xs.drop 500).take 4) 4 w (by rw [List.length_take, List.length_drop]; omega) (src_cut HS.out 500 4 (by omega) HC.out) ((HX.out.drop _).take _) (by omega) (by omega) (by omega) (by omega) (by omega))
  clear hr hn hs hx h hnc hc
  go_enter Tryd.func22, Tryd.ntmps22
  go_wp2_with fail
  refine HK.out.mono ?_
  rintro e w1 ⟨A1, n1, c1, rfl, hn1, ho1, hb1⟩
  rw [HT.out]
  obtain ⟨V, hV⟩ : ∃ V, V = numAt xs 500 4 := ⟨_, rfl⟩
  rw [← hV]
  have HV := Lib.hid hV
  generalize takeOk ((xs.drop 500).take 4).length 4 = T1
  clear hV c0 hn1 ho1
  go_wp2_with fail
  go_ret
  exact ⟨by rw [HV.out]; rfl, hb1⟩
set_option maxHeartbeats 1000000 in
theorem part_epoch (R b o n c : Nat) (xs : List Int) (w : World) (hr : Row w R 28 #[.slice (some ⟨b, o, none⟩) n c]) (hn : n = xs.length) (hs : Src .u8 w (some ⟨b, o, none⟩) xs) (hx : IsBytes xs) (h : 512 ≤ n) (hnc : n ≤ c) (hc : c ≤ 9223372036854775807) :
    Calls Tryd.prog 22 #[.int .i64 0, .int .i64 8, .pointer (some ⟨R, 0, none⟩)] w fun e w' => e = .returned (.int .u64 (numAt xs 0 8)) ∧ Below w.heap.size w w' := by
  have h52 : (8 : Int) ≤ (c : Int) := by omega
  have hc4 : 0 < c := by omega
  have hne : ¬ c = 0 := by omega
  have HL := Lib.hid (show 512 ≤ xs.length by omega)
  have HC := Lib.hid (show xs.length ≤ c by omega)
  have HS := Lib.hid hs
  have HX := Lib.hid hx
  have c0 : w.cell? ⟨R, 0, none⟩ = some (.slice (some ⟨b, o, none⟩) n c) := hr.cell (j := 0) rfl
  have HT : Hid (takeNum (xs.take 8) 8 = numAt xs 0 8) := Lib.hid (takeNum_full (xs.take 8) 8 (by rw [List.length_take]; omega) (by omega) (by omega))
  have HK : Hid (Calls Tryd.prog 23 #[.slice (some ⟨b, o, none⟩) 8 c, .int .i64 8] w (TakeEnds (xs.take 8) 8 w)) :=
    Lib.hid (take_any (some ⟨b, o, none⟩) 8 c (xs.take 8) 8 w (by rw [List.length_take]; omega) (HS.out.take 8) (HX.out.take _) (by omega) (by omega) (by omega) (by omega) (by omega))
  clear hr hn hs hx h hnc hc
  go_enter Tryd.func22, Tryd.ntmps22
  go_wp2_with fail
  refine HK.out.mono ?_
  rintro e w1 ⟨A1, n1, c1, rfl, hn1, ho1, hb1⟩
  rw [HT.out]
  obtain ⟨V, hV⟩ : ∃ V, V = numAt xs 0 8 := ⟨_, rfl⟩
  rw [← hV]
  have HV := Lib.hid hV
  generalize takeOk (xs.take 8).length 8 = T1
  clear hV c0 hn1 ho1
  go_wp2_with fail
  go_ret
  exact ⟨by rw [HV.out]; rfl, hb1⟩
set_option maxHeartbeats 1000000 in
theorem part_next (R b o n c : Nat) (xs : List Int) (w : World) (hr : Row w R 28 #[.slice (some ⟨b, o, none⟩) n c]) (hn : n = xs.length) (hs : Src .u8 w (some ⟨b, o, none⟩) xs) (hx : IsBytes xs) (h : 512 ≤ n) (hnc : n ≤ c) (hc : c ≤ 9223372036854775807) :
    Calls Tryd.prog 22 #[.int .i64 12, .int .i64 8, .pointer (some ⟨R, 0, none⟩)] w fun e w' => e = .returned (.int .u64 (numAt xs 12 8)) ∧ Below w.heap.size w w' := by
  have h52 : (20 : Int) ≤ (c : Int) := by omega
  have hc4 : 12 < c := by omega
  have hne : ¬ c = 12 := by omega
  have HL := Lib.hid (show 512 ≤ xs.length by omega)
  have HC := Lib.hid (show xs.length ≤ c by omega)
  have HS := Lib.hid hs
  have HX := Lib.hid hx
  have c0 : w.cell? ⟨R, 0, none⟩ = some (.slice (some ⟨b, o, none⟩) n c) := hr.cell (j := 0) rfl
  have HT : Hid (takeNum ((xs.drop 12).take 8) 8 = numAt xs 12 8) := Lib.hid (takeNum_full ((xs.drop 12).take 8) 8 (by rw [List.length_take, List.length_drop]; omega) (by omega) (by omega))
  have HK : Hid (Calls Tryd.prog 23 #[.slice (some ⟨b, o + 12, none⟩) 8 (c - 12), .int .i64 8] w (TakeEnds ((xs.drop 12).take 8) 8 w)) :=
    Lib.hid (take_any (some ⟨b, o + 12, none⟩) 8 (c - 12) ((xs.drop 12).take 8) 8 w (by rw [List.length_take, List.length_drop]; omega) (src_cut HS.out 12 8 (by omega) HC.out) ((HX.out.drop _).take _) (by omega) (by omega) (by omega) (by omega) (by omega))
  clear hr hn hs hx h hnc hc
  go_enter Tryd.func22, Tryd.ntmps22
  go_wp2_with fail
  refine HK.out.mono ?_
  rintro e w1 ⟨A1, n1, c1, rfl, hn1, ho1, hb1⟩
  rw [HT.out]
  obtain ⟨V, hV⟩ : ∃ V, V = numAt xs 12 8 := ⟨_, rfl⟩
  rw [← hV]
  have HV := Lib.hid hV
  generalize takeOk ((xs.drop 12).take 8).length 8 = T1
  clear hV c0 hn1 ho1
  go_wp2_with fail
  go_ret
  exact ⟨by rw [HV.out]; rfl, hb1⟩
theorem text_same {xs ys : List Int} (hx : IsBytes xs) (hy : IsBytes ys) : ((strOfNums xs).toList == (strOfNums ys).toList) = decide (xs = ys) := by
  rw [Bool.eq_iff_iff, beq_iff_eq, decide_eq_true_iff]
  refine ⟨fun h => ?_, fun h => by rw [h]⟩
  have h2 : strOfNums xs = strOfNums ys := by
    rw [ByteArray.toList_eq, ByteArray.toList_eq] at h
    exact ByteArray.ext (Array.ext' h)
  rw [← numsOf_strOfNums xs hx, ← numsOf_strOfNums ys hy, h2]
theorem equal_any (A : Option Addr) (n c : Nat) (xs : List Int) (B : Option Addr) (m d : Nat) (ys : List Int) (w : World) (hn : n = xs.length) (hs : Src .u8 w A xs) (hx : IsBytes xs) (hm : m = ys.length) (ht : Src .u8 w B ys) (hy : IsBytes ys) :
    Calls Tryd.prog 25 #[.slice A n c, .slice B m d] w fun e w' => e = .returned (.bool (decide (xs = ys))) ∧ w = w' := by
  have tx := run_text w A n c xs hn hs
  have ty := run_text w B m d ys hm ht
  have HE := Lib.hid (text_same hx hy)
  clear hn hs hx hm ht hy
  generalize strOfNums xs = S at *
  generalize strOfNums ys = T at *
  go_enter Tryd.func25, Tryd.ntmps25
  go_wp2_with fail
  go_ret
  exact ⟨by rw [← HE.out]; rfl, rfl⟩
end Go.Proofs.YtcolicmefehcnaaDoor

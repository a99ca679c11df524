/- UtfClean's walk: any text that is cleaned is right, and cleaned again as it is; a right one is as it was; it has at most as many characters as it had bytes. Conditions: the tables lie where they were laid; the text is at most 2^63 - 1 bytes. -/
import Derived.Test.YthifoodhndjmdaaDoorUtfRefCount
namespace Go.Proofs.YthifoodhndjmdaaDoor
open Go.RowKit
namespace Utf

theorem clean_ff : strOfNums (cleanI (numsOf ⟨#[255]⟩)) = ⟨#[239, 191, 189]⟩ := by
  rw [show numsOf ⟨#[255]⟩ = [255] from rfl, clean_none (by simp) (by decide), show List.drop 1 [(255 : Int)] = [] from rfl, clean_nil]
  decide
set_option maxRecDepth 100000 in
set_option maxHeartbeats 4000000 in
theorem clean_small (s : ByteArray) (w : World) (ht : Tab w) (hl : s.size ≤ 2000) :
    Calls Tryd.prog 6 #[.string s] w fun e w' => e = .returned (.bool true) ∧ Below w.heap.size w w' := by
  have htl := hl
  have hd : decide ((2000 : Int) < (s.size : Int)) = false := by simp; omega
  have Ht := Lib.hid ht
  have HX := numsOf_bytes s
  have HXL := numsOf_length s
  have HCL := clean_length (numsOf s) HX
  have HCB := clean_bytes (numsOf s) HX
  obtain ⟨m, hm1, hm2⟩ := clean_right (numsOf s) HX
  have HCC := clean_clean (numsOf s) HX
  have HRI := right_iff (numsOf s) HX
  have hSt := str_eq (cleanI (numsOf s)) s HCB
  have hSn : numsOf (strOfNums (cleanI (numsOf s))) = cleanI (numsOf s) := numsOf_strOfNums _ HCB
  have hSs : (strOfNums (cleanI (numsOf s))).size ≤ 8000 := by rw [← numsOf_length, hSn]; omega
  have HC := Lib.hid (clean_any s w ht (by omega))
  have HRi := Lib.hid (fun w' h => right_any s w' h (by omega))
  have HS1 := Lib.hid (fun w' h => right_any (strOfNums (cleanI (numsOf s))) w' h (by omega))
  have HS2 := Lib.hid (fun w' h => clean_any (strOfNums (cleanI (numsOf s))) w' h (by omega))
  have HS3 := Lib.hid (fun w' h => count_any (strOfNums (cleanI (numsOf s))) w' h (by omega))
  rw [hSn] at HS1 HS2 HS3
  rw [HCC] at HS2
  rw [countV_some hm1] at HS3
  rw [hm1] at HS1
  obtain ⟨b, eb⟩ : ∃ b, (countO (numsOf s)).isSome = b := ⟨_, rfl⟩
  rw [eb] at HRi HRI
  have hE1 : (strOfNums (cleanI (numsOf s)) == s) = b := by
    rw [hSt, Bool.eq_iff_iff, decide_eq_true_eq]
    exact HRI.symm
  generalize strOfNums (cleanI (numsOf s)) = S at *
  have hE2 : (S.toList == s.toList) = b := by rw [← beq_toListBytes]; exact hE1
  have hm3 : (m : Int) ≤ (s.size : Int) := by omega
  have HE1 := Lib.hid hE1
  have HE2 := Lib.hid hE2
  clear ht HX HXL HCL HCB hm1 hm2 HCC HRI hSt hSn hSs eb hl hE1 hE2
  go_enter Tryd.func6, Tryd.ntmps6
  go_wp2_with fail
  refine HC.out.mono ?_
  rintro e w1 ⟨rfl, b1⟩
  have HT1 := Lib.hid (Ht.out.keep b1)
  go_wp2_with fail
  refine (HS1.out _ HT1.out).mono ?_
  rintro e w2 ⟨rfl, hb2⟩
  have b2 := b1.trans (hb2.mono b1.size)
  have HT2 := Lib.hid (Ht.out.keep b2)
  rw [show (some m).isSome = true from rfl]
  go_wp2_with fail
  refine (HS2.out _ HT2.out).mono ?_
  rintro e w3 ⟨rfl, hb3⟩
  have b3 := b2.trans (hb3.mono b2.size)
  have HT3 := Lib.hid (Ht.out.keep b3)
  go_wp2_with fail
  refine (HRi.out _ HT3.out).mono ?_
  rintro e w4 ⟨rfl, hb4⟩
  have b4 := b3.trans (hb4.mono b3.size)
  have HT4 := Lib.hid (Ht.out.keep b4)
  have hE1 := HE1.out
  have hE2 := HE2.out
  go_wp2_with fail
  refine (HS3.out _ HT4.out).mono ?_
  rintro e w5 ⟨rfl, hb5⟩
  have b5 := b4.trans (hb5.mono b4.size)
  have HT5 := Lib.hid (Ht.out.keep b5)
  go_wp2_with fail
  refine (clean_any _ _ HT5.out (by decide)).mono ?_
  rintro e w6 ⟨rfl, hb6⟩
  have b6 := b5.trans (hb6.mono b5.size)
  rw [clean_ff]
  go_wp2_with fail
  go_ret
  exact ⟨rfl, b6⟩
set_option maxRecDepth 100000 in
set_option maxHeartbeats 4000000 in
theorem clean_big (s : ByteArray) (w : World) (ht : Tab w) (hl : 2000 < s.size) (hm : s.size ≤ 9223372036854775807) :
    Calls Tryd.prog 6 #[.string s] w fun e w' => e = .returned (.bool true) ∧ Below w.heap.size w w' := by
  obtain ⟨t, et⟩ : ∃ t, s.extract 0 2000 = t := ⟨_, rfl⟩
  have htl : t.size ≤ 2000 := by rw [← et, ByteArray.size_extract]; omega
  have hd : decide ((2000 : Int) < (s.size : Int)) = true := by simp; omega
  have hb2 : (2000 : Int) ≤ (s.size : Int) := by omega
  have hb3 : (s.size : Int) ≤ 9223372036854775807 := by omega
  have Ht := Lib.hid ht
  have HX := numsOf_bytes t
  have HXL := numsOf_length t
  have HCL := clean_length (numsOf t) HX
  have HCB := clean_bytes (numsOf t) HX
  obtain ⟨m, hm1, hm2⟩ := clean_right (numsOf t) HX
  have HCC := clean_clean (numsOf t) HX
  have HRI := right_iff (numsOf t) HX
  have hSt := str_eq (cleanI (numsOf t)) t HCB
  have hSn : numsOf (strOfNums (cleanI (numsOf t))) = cleanI (numsOf t) := numsOf_strOfNums _ HCB
  have hSs : (strOfNums (cleanI (numsOf t))).size ≤ 8000 := by rw [← numsOf_length, hSn]; omega
  have HC := Lib.hid (clean_any t w ht (by omega))
  have HRi := Lib.hid (fun w' h => right_any t w' h (by omega))
  have HS1 := Lib.hid (fun w' h => right_any (strOfNums (cleanI (numsOf t))) w' h (by omega))
  have HS2 := Lib.hid (fun w' h => clean_any (strOfNums (cleanI (numsOf t))) w' h (by omega))
  have HS3 := Lib.hid (fun w' h => count_any (strOfNums (cleanI (numsOf t))) w' h (by omega))
  rw [hSn] at HS1 HS2 HS3
  rw [HCC] at HS2
  rw [countV_some hm1] at HS3
  rw [hm1] at HS1
  obtain ⟨b, eb⟩ : ∃ b, (countO (numsOf t)).isSome = b := ⟨_, rfl⟩
  rw [eb] at HRi HRI
  have hE1 : (strOfNums (cleanI (numsOf t)) == t) = b := by
    rw [hSt, Bool.eq_iff_iff, decide_eq_true_eq]
    exact HRI.symm
  generalize strOfNums (cleanI (numsOf t)) = S at *
  have hE2 : (S.toList == t.toList) = b := by rw [← beq_toListBytes]; exact hE1
  have hm3 : (m : Int) ≤ (t.size : Int) := by omega
  have HE1 := Lib.hid hE1
  have HE2 := Lib.hid hE2
  clear ht HX HXL HCL HCB hm1 hm2 HCC HRI hSt hSn hSs eb hl hE1 hE2 hm
  go_enter Tryd.func6, Tryd.ntmps6
  go_wp2_with fail
  refine HC.out.mono ?_
  rintro e w1 ⟨rfl, b1⟩
  have HT1 := Lib.hid (Ht.out.keep b1)
  go_wp2_with fail
  refine (HS1.out _ HT1.out).mono ?_
  rintro e w2 ⟨rfl, hb2⟩
  have b2 := b1.trans (hb2.mono b1.size)
  have HT2 := Lib.hid (Ht.out.keep b2)
  rw [show (some m).isSome = true from rfl]
  go_wp2_with fail
  refine (HS2.out _ HT2.out).mono ?_
  rintro e w3 ⟨rfl, hb3⟩
  have b3 := b2.trans (hb3.mono b2.size)
  have HT3 := Lib.hid (Ht.out.keep b3)
  go_wp2_with fail
  refine (HRi.out _ HT3.out).mono ?_
  rintro e w4 ⟨rfl, hb4⟩
  have b4 := b3.trans (hb4.mono b3.size)
  have HT4 := Lib.hid (Ht.out.keep b4)
  have hE1 := HE1.out
  have hE2 := HE2.out
  go_wp2_with fail
  refine (HS3.out _ HT4.out).mono ?_
  rintro e w5 ⟨rfl, hb5⟩
  have b5 := b4.trans (hb5.mono b4.size)
  have HT5 := Lib.hid (Ht.out.keep b5)
  go_wp2_with fail
  refine (clean_any _ _ HT5.out (by decide)).mono ?_
  rintro e w6 ⟨rfl, hb6⟩
  have b6 := b5.trans (hb6.mono b5.size)
  rw [clean_ff]
  go_wp2_with fail
  go_ret
  exact ⟨rfl, b6⟩
end Utf
end Go.Proofs.YthifoodhndjmdaaDoor

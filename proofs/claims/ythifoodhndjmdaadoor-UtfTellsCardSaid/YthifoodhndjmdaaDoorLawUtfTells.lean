/- UtfTells' walk: any text begins with the document's character, or none, is right, or not, and as many characters, and is cleaned as it says. Conditions: the tables lie where they were laid; the text is at most 2^63 - 1 bytes. -/
import Derived.Test.YthifoodhndjmdaaDoorUtfRefCount
namespace Go.Proofs.YthifoodhndjmdaaDoor
open Go.RowKit
namespace Utf

theorem count_two : countV (numsOf ⟨#[97, 195, 169]⟩) = 2 := by
  refine countV_some ?_
  rw [show numsOf ⟨#[97, 195, 169]⟩ = [97, 195, 169] from rfl, count_next (by simp) (by decide), show (nextI [97, 195, 169]).2 = 1 by decide, show List.drop 1 [(97 : Int), 195, 169] = [195, 169] from rfl,
    count_next (by simp) (by decide), show (nextI [195, 169]).2 = 2 by decide, show List.drop 2 [(195 : Int), 169] = [] from rfl, count_nil]
  rfl
set_option maxRecDepth 100000 in
set_option maxHeartbeats 4000000 in
theorem tells_small (s : ByteArray) (w : World) (ht : Tab w) (hl : s.size ≤ 2000) :
    Calls Tryd.prog 3 #[.string s] w fun e w' => e = .returned (.bool true) ∧ Below w.heap.size w w' := by
  have htl := hl
  have hd : decide ((2000 : Int) < (s.size : Int)) = false := by simp; omega
  have Htl := Lib.hid htl
  have Ht := Lib.hid ht
  have HE := Lib.hid (countV_right (numsOf s))
  have HN := Lib.hid (next_any s w ht (by omega))
  have HR := Lib.hid (fun w' => rnext_any s w' (by omega))
  have HRi := Lib.hid (fun w' h => right_any s w' h (by omega))
  have HC := Lib.hid (fun w' h => count_any s w' h (by omega))
  have HRC := Lib.hid (fun w' => rcount_any s w' (by omega))
  have HCl := Lib.hid (fun w' h => clean_any s w' h (by omega))
  have HRCl := Lib.hid (fun w' => rclean_any s w' (by omega))
  generalize (nextI (numsOf s)).1 = c at *
  generalize (nextI (numsOf s)).2 = q at *
  generalize (countO (numsOf s)).isSome = b at *
  generalize countV (numsOf s) = v at *
  generalize strOfNums (cleanI (numsOf s)) = S at *
  clear ht htl hl
  go_enter Tryd.func3, Tryd.ntmps3
  go_wp2_with fail
  refine HN.out.mono ?_
  rintro e w1 ⟨rfl, b1⟩
  have HT1 := Lib.hid (Ht.out.keep b1)
  go_wp2_with fail
  refine (HR.out _).mono ?_
  rintro e w2 ⟨rfl, hb2⟩
  have b2 := b1.trans (hb2.mono b1.size)
  have HT2 := Lib.hid (Ht.out.keep b2)
  go_wp2_with fail
  refine (HRi.out _ HT2.out).mono ?_
  rintro e w3 ⟨rfl, hb3⟩
  have b3 := b2.trans (hb3.mono b2.size)
  go_wp2_with fail
  refine (HRC.out _).mono ?_
  rintro e w4 ⟨rfl, hb4⟩
  have b4 := b3.trans (hb4.mono b3.size)
  have HT4 := Lib.hid (Ht.out.keep b4)
  have he := HE.out
  go_wp2_with fail
  refine (HC.out _ HT4.out).mono ?_
  rintro e w5 ⟨rfl, hb5⟩
  have b5 := b4.trans (hb5.mono b4.size)
  go_wp2_with fail
  refine (HRC.out _).mono ?_
  rintro e w6 ⟨rfl, hb6⟩
  have b6 := b5.trans (hb6.mono b5.size)
  have HT6 := Lib.hid (Ht.out.keep b6)
  go_wp2_with fail
  refine (HCl.out _ HT6.out).mono ?_
  rintro e w7 ⟨rfl, hb7⟩
  have b7 := b6.trans (hb7.mono b6.size)
  go_wp2_with fail
  refine (HRCl.out _).mono ?_
  rintro e w8 ⟨rfl, hb8⟩
  have b8 := b7.trans (hb8.mono b7.size)
  have HT8 := Lib.hid (Ht.out.keep b8)
  go_wp2_with fail
  refine (count_any _ _ HT8.out (by decide)).mono ?_
  rintro e w9 ⟨rfl, hb9⟩
  have b9 := b8.trans (hb9.mono b8.size)
  rw [count_two]
  go_wp2_with fail
  go_ret
  exact ⟨rfl, b9⟩
set_option maxRecDepth 100000 in
set_option maxHeartbeats 4000000 in
theorem tells_big (s : ByteArray) (w : World) (ht : Tab w) (hl : 2000 < s.size) (hm : s.size ≤ 9223372036854775807) :
    Calls Tryd.prog 3 #[.string s] w fun e w' => e = .returned (.bool true) ∧ Below w.heap.size w w' := by
  obtain ⟨t, et⟩ : ∃ t, s.extract 0 2000 = t := ⟨_, rfl⟩
  have htl : t.size ≤ 2000 := by rw [← et, ByteArray.size_extract]; omega
  have hd : decide ((2000 : Int) < (s.size : Int)) = true := by simp; omega
  have hb2 : (2000 : Int) ≤ (s.size : Int) := by omega
  have hb3 : (s.size : Int) ≤ 9223372036854775807 := by omega
  have Htl := Lib.hid htl
  have Ht := Lib.hid ht
  have HE := Lib.hid (countV_right (numsOf t))
  have HN := Lib.hid (next_any t w ht (by omega))
  have HR := Lib.hid (fun w' => rnext_any t w' (by omega))
  have HRi := Lib.hid (fun w' h => right_any t w' h (by omega))
  have HC := Lib.hid (fun w' h => count_any t w' h (by omega))
  have HRC := Lib.hid (fun w' => rcount_any t w' (by omega))
  have HCl := Lib.hid (fun w' h => clean_any t w' h (by omega))
  have HRCl := Lib.hid (fun w' => rclean_any t w' (by omega))
  generalize (nextI (numsOf t)).1 = c at *
  generalize (nextI (numsOf t)).2 = q at *
  generalize (countO (numsOf t)).isSome = b at *
  generalize countV (numsOf t) = v at *
  generalize strOfNums (cleanI (numsOf t)) = S at *
  clear ht htl hl hm
  go_enter Tryd.func3, Tryd.ntmps3
  go_wp2_with fail
  refine HN.out.mono ?_
  rintro e w1 ⟨rfl, b1⟩
  have HT1 := Lib.hid (Ht.out.keep b1)
  go_wp2_with fail
  refine (HR.out _).mono ?_
  rintro e w2 ⟨rfl, hb2⟩
  have b2 := b1.trans (hb2.mono b1.size)
  have HT2 := Lib.hid (Ht.out.keep b2)
  go_wp2_with fail
  refine (HRi.out _ HT2.out).mono ?_
  rintro e w3 ⟨rfl, hb3⟩
  have b3 := b2.trans (hb3.mono b2.size)
  go_wp2_with fail
  refine (HRC.out _).mono ?_
  rintro e w4 ⟨rfl, hb4⟩
  have b4 := b3.trans (hb4.mono b3.size)
  have HT4 := Lib.hid (Ht.out.keep b4)
  have he := HE.out
  go_wp2_with fail
  refine (HC.out _ HT4.out).mono ?_
  rintro e w5 ⟨rfl, hb5⟩
  have b5 := b4.trans (hb5.mono b4.size)
  go_wp2_with fail
  refine (HRC.out _).mono ?_
  rintro e w6 ⟨rfl, hb6⟩
  have b6 := b5.trans (hb6.mono b5.size)
  have HT6 := Lib.hid (Ht.out.keep b6)
  go_wp2_with fail
  refine (HCl.out _ HT6.out).mono ?_
  rintro e w7 ⟨rfl, hb7⟩
  have b7 := b6.trans (hb7.mono b6.size)
  go_wp2_with fail
  refine (HRCl.out _).mono ?_
  rintro e w8 ⟨rfl, hb8⟩
  have b8 := b7.trans (hb8.mono b7.size)
  have HT8 := Lib.hid (Ht.out.keep b8)
  go_wp2_with fail
  refine (count_any _ _ HT8.out (by decide)).mono ?_
  rintro e w9 ⟨rfl, hb9⟩
  have b9 := b8.trans (hb9.mono b8.size)
  rw [count_two]
  go_wp2_with fail
  go_ret
  exact ⟨rfl, b9⟩
end Utf
end Go.Proofs.YthifoodhndjmdaaDoor

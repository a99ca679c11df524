/- Iso and Short of the program, of any time. Nothing that was there is written. Conditions: the listed tables lie where they were laid. -/
import Derived.Test.YtfbgcjpakahocaaDoorClkTell
import Derived.Test.YtfbgcjpakahocaaDoorClkOf
namespace Go.Proofs.YtfbgcjpakahocaaDoor
open Go.RowKit
namespace Clk

theorem nums_nil : (⟨#[]⟩ : ByteArray) = strOfNums [] := rfl
theorem tell_yes {W : Tm → List Int} {t : Tm} (h : t.Right) : tellW W t = W t := if_pos h
theorem tell_no {W : Tm → List Int} {t : Tm} (h : ¬ t.Right) : tellW W t = [] := if_neg h
theorem iso_str (t : Tm) : strOfNums (digK 4 t.y) ++ ⟨#[45]⟩ ++ strOfNums (digK 2 t.m) ++ ⟨#[45]⟩ ++ strOfNums (digK 2 t.d) ++ ⟨#[84]⟩ ++ (strOfNums (digK 2 t.h) ++ ⟨#[58]⟩ ++ strOfNums (digK 2 t.i) ++ ⟨#[58]⟩ ++ strOfNums (digK 2 t.s)) ++ ⟨#[46, 48, 48, 48, 90]⟩ = strOfNums (isoW t) := by
  rw [show (⟨#[45]⟩ : ByteArray) = strOfNums [45] from rfl, show (⟨#[84]⟩ : ByteArray) = strOfNums [84] from rfl, show (⟨#[58]⟩ : ByteArray) = strOfNums [58] from rfl, show (⟨#[46, 48, 48, 48, 90]⟩ : ByteArray) = strOfNums [46, 48, 48, 48, 90] from rfl]
  simp only [nums_append]
  unfold isoW yearW dayW
  simp only [List.append_assoc, List.cons_append, List.nil_append]
theorem short_str (t : Tm) : strOfNums (digK 4 t.y) ++ ⟨#[]⟩ ++ strOfNums (digK 2 t.m) ++ ⟨#[]⟩ ++ strOfNums (digK 2 t.d) ++ ⟨#[84]⟩ ++ (strOfNums (digK 2 t.h) ++ ⟨#[]⟩ ++ strOfNums (digK 2 t.i) ++ ⟨#[]⟩ ++ strOfNums (digK 2 t.s)) ++ ⟨#[90]⟩ = strOfNums (shortW t) := by
  rw [show (⟨#[]⟩ : ByteArray) = strOfNums [] from rfl, show (⟨#[84]⟩ : ByteArray) = strOfNums [84] from rfl, show (⟨#[90]⟩ : ByteArray) = strOfNums [90] from rfl]
  simp only [nums_append]
  unfold shortW yearW dayW
  simp only [List.append_assoc, List.cons_append, List.nil_append]
set_option maxRecDepth 100000 in
set_option maxHeartbeats 2000000 in
theorem iso_any (t : Tm) (w : World) (ht : Tabs w) : Calls Tryd.prog 15 #[tmV t] w fun e w' => e = .returned (.string (strOfNums (tellW isoW t))) ∧ Below w.heap.size w w' := by
  have Ht := Lib.hid ht
  have HP := Lib.hid (fun (w' : World) (h : Tabs w') => right_any t w' h)
  clear ht
  by_cases hr : t.Right
  · rw [rightB_yes hr] at HP
    rw [tell_yes hr]
    have HY := Lib.hid (fun (w' : World) (h : Tabs w') => ofYear_any t ⟨#[45]⟩ w' h hr (by decide))
    have HD := Lib.hid (fun (w' : World) (h : Tabs w') => ofDay_any t ⟨#[58]⟩ w' h hr (by decide))
    have HE := Lib.hid (iso_str t)
    have sY : (strOfNums (digK 4 t.y) ++ ⟨#[45]⟩ ++ strOfNums (digK 2 t.m) ++ ⟨#[45]⟩ ++ strOfNums (digK 2 t.d)).size ≤ 20 := by simp only [ByteArray.size_append, nums_size, digK_length]; decide
    have sD : (strOfNums (digK 2 t.h) ++ ⟨#[58]⟩ ++ strOfNums (digK 2 t.i) ++ ⟨#[58]⟩ ++ strOfNums (digK 2 t.s)).size ≤ 20 := by simp only [ByteArray.size_append, nums_size, digK_length]; decide
    generalize strOfNums (isoW t) = Z at *
    generalize strOfNums (digK 4 t.y) ++ ⟨#[45]⟩ ++ strOfNums (digK 2 t.m) ++ ⟨#[45]⟩ ++ strOfNums (digK 2 t.d) = Y at *
    generalize strOfNums (digK 2 t.h) ++ ⟨#[58]⟩ ++ strOfNums (digK 2 t.i) ++ ⟨#[58]⟩ ++ strOfNums (digK 2 t.s) = D at *
    unfold tmV at HP HY HD ⊢
    clear hr
    go_enter Tryd.func15, Tryd.ntmps15
    go_wp2_with (first
      | (refine wpList_boxT ttP rfl (.tmp 0) rfl t rfl ?_; intro W r1 b1 z1; clear z1; have HT1 := Lib.hid (Ht.out.keep b1); have HB1 := Lib.hid b1; clear b1)
      | (refine wpList_loadT ttP (.tmp 1) rfl rfl w.heap.size rfl t r1 ?_))
    refine (HP.out _ HT1.out).mono ?_
    rintro e w2 ⟨rfl, hb2⟩
    have HR2 := Lib.hid (r1.keep hb2)
    have HT2 := Lib.hid (HT1.out.keep hb2)
    have HB2 := Lib.hid (HB1.out.trans (hb2.mono HB1.out.size))
    clear r1 hb2 HT1 HB1 HP Ht
    go_wp2_with fail
    refine wp_region_segs [([0, 3], 1), ([2], 4)] [5, 6, 7] (by kernel_rfl) (by kernel_rfl) (by kernel_rfl) (by kernel_rfl) (fun _ _ d _ _ h => by cases d <;> exact h) ?_
    refine wpSegs_next (by simp [pickOps]; rfl) ?_
    refine wpQuiet_loadT ttP (.tmp 1) rfl rfl w.heap.size rfl t HR2.out.drew ?_
    go_simp
    refine wpQuiet_loadT ttP (.tmp 1) rfl rfl w.heap.size rfl t HR2.out.drew ?_
    go_simp
    refine wpQuiet_nil ?_
    refine wpOp_alone rfl rfl (fun K hK => ?_)
    go_simp
    refine (HY.out _ (HT2.out.keep (below_drewN (Below.refl _ _) 1))).mono ?_
    rintro e w3 ⟨rfl, hb3⟩
    refine hK _ _ ⟨hb3, ?_⟩
    have HB3 := Lib.hid (HB2.out.trans ((below_drewN (Below.refl _ w2) 1).trans hb3 |>.mono HB2.out.size))
    have HT3 := Lib.hid (HT2.out.keep ((below_drewN (Below.refl _ w2) 1).trans hb3))
    clear hK K hb3
    refine wpSegs_next (by simp [pickOps]; rfl) ?_
    repeat (go_big_quiet_step (fail))
    refine wpQuiet_nil ?_
    refine wpOp_alone rfl rfl (fun K hK => ?_)
    go_simp
    refine (HD.out _ HT3.out).mono ?_
    rintro e w4 ⟨rfl, hb4⟩
    refine hK _ _ ⟨hb4, ?_⟩
    have HB4 := Lib.hid (HB3.out.trans (hb4.mono HB3.out.size))
    clear hK K hb4
    refine wpSegs_last (by simp [pickOps]; rfl) ?_
    repeat (go_big_quiet_step (fail))
    refine wpQuiet_nil ?_
    go_wp2_with fail
    go_ret
    exact ⟨by rw [← HE.out]; rfl, HB4.out⟩
  · rw [rightB_no hr] at HP
    rw [tell_no hr]
    unfold tmV at HP ⊢
    clear hr
    go_enter Tryd.func15, Tryd.ntmps15
    go_wp2_with (first
      | (refine wpList_boxT ttP rfl (.tmp 0) rfl t rfl ?_; intro W r1 b1 z1; clear z1; have HT1 := Lib.hid (Ht.out.keep b1); have HB1 := Lib.hid b1; clear b1)
      | (refine wpList_loadT ttP (.tmp 1) rfl rfl w.heap.size rfl t r1 ?_))
    refine (HP.out _ HT1.out).mono ?_
    rintro e w2 ⟨rfl, hb2⟩
    have HB2 := Lib.hid (HB1.out.trans (hb2.mono HB1.out.size))
    clear r1 hb2 HT1 HB1 HP Ht
    go_wp2_with fail
    go_ret
    exact ⟨rfl, HB2.out⟩
set_option maxRecDepth 100000 in
set_option maxHeartbeats 2000000 in
theorem short_any (t : Tm) (w : World) (ht : Tabs w) : Calls Tryd.prog 17 #[tmV t] w fun e w' => e = .returned (.string (strOfNums (tellW shortW t))) ∧ Below w.heap.size w w' := by
  have Ht := Lib.hid ht
  have HP := Lib.hid (fun (w' : World) (h : Tabs w') => right_any t w' h)
  clear ht
  by_cases hr : t.Right
  · rw [rightB_yes hr] at HP
    rw [tell_yes hr]
    have HY := Lib.hid (fun (w' : World) (h : Tabs w') => ofYear_any t ⟨#[]⟩ w' h hr (by decide))
    have HD := Lib.hid (fun (w' : World) (h : Tabs w') => ofDay_any t ⟨#[]⟩ w' h hr (by decide))
    have HE := Lib.hid (short_str t)
    have sY : (strOfNums (digK 4 t.y) ++ ⟨#[]⟩ ++ strOfNums (digK 2 t.m) ++ ⟨#[]⟩ ++ strOfNums (digK 2 t.d)).size ≤ 20 := by simp only [ByteArray.size_append, nums_size, digK_length]; decide
    have sD : (strOfNums (digK 2 t.h) ++ ⟨#[]⟩ ++ strOfNums (digK 2 t.i) ++ ⟨#[]⟩ ++ strOfNums (digK 2 t.s)).size ≤ 20 := by simp only [ByteArray.size_append, nums_size, digK_length]; decide
    generalize strOfNums (shortW t) = Z at *
    generalize strOfNums (digK 4 t.y) ++ ⟨#[]⟩ ++ strOfNums (digK 2 t.m) ++ ⟨#[]⟩ ++ strOfNums (digK 2 t.d) = Y at *
    generalize strOfNums (digK 2 t.h) ++ ⟨#[]⟩ ++ strOfNums (digK 2 t.i) ++ ⟨#[]⟩ ++ strOfNums (digK 2 t.s) = D at *
    unfold tmV at HP HY HD ⊢
    clear hr
    go_enter Tryd.func17, Tryd.ntmps17
    go_wp2_with (first
      | (refine wpList_boxT ttP rfl (.tmp 0) rfl t rfl ?_; intro W r1 b1 z1; clear z1; have HT1 := Lib.hid (Ht.out.keep b1); have HB1 := Lib.hid b1; clear b1)
      | (refine wpList_loadT ttP (.tmp 1) rfl rfl w.heap.size rfl t r1 ?_))
    refine (HP.out _ HT1.out).mono ?_
    rintro e w2 ⟨rfl, hb2⟩
    have HR2 := Lib.hid (r1.keep hb2)
    have HT2 := Lib.hid (HT1.out.keep hb2)
    have HB2 := Lib.hid (HB1.out.trans (hb2.mono HB1.out.size))
    clear r1 hb2 HT1 HB1 HP Ht
    go_wp2_with fail
    refine wp_region_segs [([0, 3], 1), ([2], 4)] [5, 6, 7] (by kernel_rfl) (by kernel_rfl) (by kernel_rfl) (by kernel_rfl) (fun _ _ d _ _ h => by cases d <;> exact h) ?_
    refine wpSegs_next (by simp [pickOps]; rfl) ?_
    refine wpQuiet_loadT ttP (.tmp 1) rfl rfl w.heap.size rfl t HR2.out.drew ?_
    go_simp
    refine wpQuiet_loadT ttP (.tmp 1) rfl rfl w.heap.size rfl t HR2.out.drew ?_
    go_simp
    refine wpQuiet_nil ?_
    refine wpOp_alone rfl rfl (fun K hK => ?_)
    go_simp
    refine (HY.out _ (HT2.out.keep (below_drewN (Below.refl _ _) 1))).mono ?_
    rintro e w3 ⟨rfl, hb3⟩
    refine hK _ _ ⟨hb3, ?_⟩
    have HB3 := Lib.hid (HB2.out.trans ((below_drewN (Below.refl _ w2) 1).trans hb3 |>.mono HB2.out.size))
    have HT3 := Lib.hid (HT2.out.keep ((below_drewN (Below.refl _ w2) 1).trans hb3))
    clear hK K hb3
    refine wpSegs_next (by simp [pickOps]; rfl) ?_
    repeat (go_big_quiet_step (fail))
    refine wpQuiet_nil ?_
    refine wpOp_alone rfl rfl (fun K hK => ?_)
    go_simp
    refine (HD.out _ HT3.out).mono ?_
    rintro e w4 ⟨rfl, hb4⟩
    refine hK _ _ ⟨hb4, ?_⟩
    have HB4 := Lib.hid (HB3.out.trans (hb4.mono HB3.out.size))
    clear hK K hb4
    refine wpSegs_last (by simp [pickOps]; rfl) ?_
    repeat (go_big_quiet_step (fail))
    refine wpQuiet_nil ?_
    go_wp2_with fail
    go_ret
    exact ⟨by rw [← HE.out]; rfl, HB4.out⟩
  · rw [rightB_no hr] at HP
    rw [tell_no hr]
    unfold tmV at HP ⊢
    clear hr
    go_enter Tryd.func17, Tryd.ntmps17
    go_wp2_with (first
      | (refine wpList_boxT ttP rfl (.tmp 0) rfl t rfl ?_; intro W r1 b1 z1; clear z1; have HT1 := Lib.hid (Ht.out.keep b1); have HB1 := Lib.hid b1; clear b1)
      | (refine wpList_loadT ttP (.tmp 1) rfl rfl w.heap.size rfl t r1 ?_))
    refine (HP.out _ HT1.out).mono ?_
    rintro e w2 ⟨rfl, hb2⟩
    have HB2 := Lib.hid (HB1.out.trans (hb2.mono HB1.out.size))
    clear r1 hb2 HT1 HB1 HP Ht
    go_wp2_with fail
    go_ret
    exact ⟨rfl, HB2.out⟩
end Clk
end Go.Proofs.YtfbgcjpakahocaaDoor

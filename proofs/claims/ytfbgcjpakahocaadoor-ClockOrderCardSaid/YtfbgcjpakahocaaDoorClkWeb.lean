/- Web of the program, of any time. Nothing that was there is written. Conditions: the listed tables lie where they were laid. -/
import Derived.Test.YtfbgcjpakahocaaDoorClkIso
namespace Go.Proofs.YtfbgcjpakahocaaDoor
open Go.RowKit
namespace Clk

theorem web_str (t : Tm) (a b : Nat) (ha : t.wd.toNat = a) (hb : (t.m - 1).toNat = b) : strOfNums (wdN a) ++ ⟨#[44, 32]⟩ ++ strOfNums (digK 2 t.d) ++ ⟨#[32]⟩ ++ strOfNums (moN b) ++ ⟨#[32]⟩ ++ strOfNums (digK 4 t.y) ++ ⟨#[32]⟩ ++ (strOfNums (digK 2 t.h) ++ ⟨#[58]⟩ ++ strOfNums (digK 2 t.i) ++ ⟨#[58]⟩ ++ strOfNums (digK 2 t.s)) ++ ⟨#[32, 71, 77, 84]⟩ = strOfNums (webW t) := by
  subst ha hb
  rw [show (⟨#[44, 32]⟩ : ByteArray) = strOfNums [44, 32] from rfl, show (⟨#[32]⟩ : ByteArray) = strOfNums [32] from rfl, show (⟨#[58]⟩ : ByteArray) = strOfNums [58] from rfl, show (⟨#[32, 71, 77, 84]⟩ : ByteArray) = strOfNums [32, 71, 77, 84] from rfl]
  simp only [nums_append]
  unfold webW dayW
  simp only [List.append_assoc, List.cons_append, List.nil_append]
set_option maxRecDepth 100000 in
set_option maxHeartbeats 4000000 in
theorem web_any (t : Tm) (w : World) (ht : Tabs w) : Calls Tryd.prog 13 #[tmV t] w fun e w' => e = .returned (.string (strOfNums (tellW webW t))) ∧ Below w.heap.size w w' := by
  have Ht := Lib.hid ht
  have HP := Lib.hid (fun (w' : World) (h : Tabs w') => right_any t w' h)
  clear ht
  by_cases hr : t.Right
  · rw [rightB_yes hr] at HP
    rw [tell_yes hr]
    obtain ⟨a, hwa⟩ : ∃ a : Nat, t.wd = (a : Int) := ⟨t.wd.toNat, by have := wd_range t; omega⟩
    obtain ⟨b, hmb⟩ : ∃ b : Nat, t.m = (b : Int) + 1 := ⟨(t.m - 1).toNat, by have := hr.2.1; omega⟩
    have ha : a < 7 := by have := wd_range t; omega
    have hb : b < 12 := by have := hr.2.1; omega
    have HW := Lib.hid (fun (w' : World) (h : Tabs w') => weekday_any t w' h)
    rw [show wdI t = (a : Int) by unfold wdI; rw [if_pos hr, hwa]] at HW
    obtain ⟨ry, rm, rd, _, _, _⟩ := right_range hr
    have HA := Lib.hid (fun w' h => digits_any 2 t.d w' h (by omega) rd.1 rd.2)
    have HC := Lib.hid (fun w' h => digits_any 4 t.y w' h (by omega) ry.1 ry.2)
    have HD := Lib.hid (fun (w' : World) (h : Tabs w') => ofDay_any t ⟨#[58]⟩ w' h hr (by decide))
    have HE := Lib.hid (web_str t a b (by omega) (by omega))
    have sA : (strOfNums (digK 2 t.d)).size = 2 := by rw [nums_size, digK_length]
    have sC : (strOfNums (digK 4 t.y)).size = 4 := by rw [nums_size, digK_length]
    have sM : (strOfNums (moN b)).size = 3 := by rw [nums_size, moN_length]
    have sW : (strOfNums (wdN a)).size = 3 := by rw [nums_size, wdN_length]
    have sD : (strOfNums (digK 2 t.h) ++ ⟨#[58]⟩ ++ strOfNums (digK 2 t.i) ++ ⟨#[58]⟩ ++ strOfNums (digK 2 t.s)).size ≤ 20 := by simp only [ByteArray.size_append, nums_size, digK_length]; decide
    have HMO := Lib.hid (moC_at b hb)
    have HWD := Lib.hid (fun (w' : World) (h : Tabs w') => h.wds a ha)
    generalize strOfNums (webW t) = Z at *
    generalize strOfNums (digK 2 t.h) ++ ⟨#[58]⟩ ++ strOfNums (digK 2 t.i) ++ ⟨#[58]⟩ ++ strOfNums (digK 2 t.s) = D at *
    generalize strOfNums (digK 2 t.d) = SA at *
    generalize strOfNums (digK 4 t.y) = SC at *
    generalize strOfNums (moN b) = SM at *
    generalize strOfNums (wdN a) = SW at *
    unfold tmV at HP HW HD ⊢
    have hm0 : t.m - 1 = (b : Int) := by omega
    clear hr hwa ry rm rd
    go_enter Tryd.func13, Tryd.ntmps13
    go_wp2_with (first
      | (refine wpList_boxT ttP rfl (.tmp 0) rfl t rfl ?_; intro W r1 b1 z1; clear z1; have HT1 := Lib.hid (Ht.out.keep b1); have HB1 := Lib.hid b1; clear b1)
      | (refine wpList_loadT ttP (.tmp 1) rfl rfl w.heap.size rfl t r1 ?_))
    refine (HP.out _ HT1.out).mono ?_
    rintro e w2 ⟨rfl, hb2⟩
    have HR2 := Lib.hid (r1.keep hb2)
    have HT2 := Lib.hid (HT1.out.keep hb2)
    have HB2 := Lib.hid (HB1.out.trans (hb2.mono HB1.out.size))
    clear r1 hb2 HT1 HB1 HP Ht
    go_wp2_with fail
    have hbi : (b : Int) < 12 := by omega
    have hai : (a : Int) < 7 := by omega
    have HT3 := Lib.hid (HT2.out.keep (below_drewN (Below.refl _ w2) 1))
    have HB3 := Lib.hid (HB2.out.trans (below_drewN (Below.refl _ w2) 1 |>.mono HB2.out.size))
    have d0 : ∀ x : Above w2.drew, x.1.cell? ⟨w.heap.size, 0, none⟩ = some (.int .i64 t.y) := HR2.out.drew.above rfl
    have d1 : ∀ x : Above w2.drew, x.1.cell? ⟨w.heap.size, 1, none⟩ = some (.int .i64 t.m) := HR2.out.drew.above rfl
    have d2 : ∀ x : Above w2.drew, x.1.cell? ⟨w.heap.size, 2, none⟩ = some (.int .i64 t.d) := HR2.out.drew.above rfl
    have dM : ∀ x : Above w2.drew, x.1.cell? ⟨1, b, none⟩ = some (.string SM) := fun x => by
      have := (HT3.out.keep x.2).names b _ HMO.out
      rw [Nat.zero_add] at this
      exact this
    refine wp_region_segs [([0, 22, 5, 6, 10, 11, 12, 13, 14, 17, 18], 1), ([2, 3, 4], 7), ([8, 9, 15, 16], 19), ([20, 21], 23)] [24, 25, 26] (by kernel_rfl) (by kernel_rfl) (by kernel_rfl) (by kernel_rfl) (fun _ _ d _ _ h => by cases d <;> exact h) ?_
    refine wpSegs_next (by simp [pickOps]; rfl) ?_
    refine wpQuiet_loadT ttP (.tmp 1) rfl rfl w.heap.size rfl t HR2.out.drew ?_
    go_simp
    refine wpQuiet_loadT ttP (.tmp 1) rfl rfl w.heap.size rfl t HR2.out.drew ?_
    go_simp
    repeat (go_big_quiet_step (fail))
    refine wpQuiet_nil ?_
    refine wpOp_alone rfl rfl (fun K hK => ?_)
    go_simp
    refine (HW.out _ HT3.out).mono ?_
    rintro e w3 ⟨rfl, hb3⟩
    refine hK _ _ ⟨hb3, ?_⟩
    have HT4 := Lib.hid (HT3.out.keep hb3)
    have HB4 := Lib.hid (HB3.out.trans (hb3.mono HB3.out.size))
    have dW : ∀ x : Above w3, x.1.cell? ⟨0, a, none⟩ = some (.string SW) := fun x => HWD.out _ (HT4.out.keep x.2)
    clear hK K hb3 d0 d1 d2 dM HT3 HB3 HW
    refine wpSegs_next (by simp [pickOps]; rfl) ?_
    repeat (go_big_quiet_step (fail))
    refine wpQuiet_nil ?_
    refine wpOp_alone rfl rfl (fun K hK => ?_)
    go_simp
    refine (HA.out _ HT4.out.pow).mono ?_
    rintro e w4 ⟨rfl, hb4⟩
    refine hK _ _ ⟨hb4, ?_⟩
    have HT5 := Lib.hid (HT4.out.keep hb4)
    have HB5 := Lib.hid (HB4.out.trans (hb4.mono HB4.out.size))
    clear hK K hb4 dW HT4 HB4 HA
    refine wpSegs_next (by simp [pickOps]; rfl) ?_
    repeat (go_big_quiet_step (fail))
    refine wpQuiet_nil ?_
    refine wpOp_alone rfl rfl (fun K hK => ?_)
    go_simp
    refine (HC.out _ HT5.out.pow).mono ?_
    rintro e w5 ⟨rfl, hb5⟩
    refine hK _ _ ⟨hb5, ?_⟩
    have HT6 := Lib.hid (HT5.out.keep hb5)
    have HB6 := Lib.hid (HB5.out.trans (hb5.mono HB5.out.size))
    clear hK K hb5 HT5 HB5 HC
    refine wpSegs_next (by simp [pickOps]; rfl) ?_
    repeat (go_big_quiet_step (fail))
    refine wpQuiet_nil ?_
    refine wpOp_alone rfl rfl (fun K hK => ?_)
    go_simp
    refine (HD.out _ HT6.out).mono ?_
    rintro e w6 ⟨rfl, hb6⟩
    refine hK _ _ ⟨hb6, ?_⟩
    have HB7 := Lib.hid (HB6.out.trans (hb6.mono HB6.out.size))
    clear hK K hb6 HT6 HB6 HD
    refine wpSegs_last (by simp [pickOps]; rfl) ?_
    repeat (go_big_quiet_step (fail))
    refine wpQuiet_nil ?_
    go_wp2_with fail
    go_ret
    exact ⟨by rw [← HE.out]; rfl, HB7.out⟩
  · rw [rightB_no hr] at HP
    rw [tell_no hr]
    unfold tmV at HP ⊢
    clear hr
    go_enter Tryd.func13, Tryd.ntmps13
    go_wp2_with (first
      | (refine wpList_boxT ttP rfl (.tmp 0) rfl t rfl ?_; intro W r1 b1 z1; clear z1; have HT1 := Lib.hid (Ht.out.keep b1); have HB1 := Lib.hid b1; clear b1)
      | (refine wpList_loadT ttP (.tmp 1) rfl rfl w.heap.size rfl t r1 ?_))
    refine (HP.out _ HT1.out).mono ?_
    rintro e w2 ⟨rfl, hb2⟩
    have HB2 := Lib.hid (HB1.out.trans (hb2.mono HB1.out.size))
    clear r1 hb2 HT1 HB1 HP Ht
    go_wp2_with fail
    go_ret
    exact ⟨rfl, HB2.out⟩
end Clk
end Go.Proofs.YtfbgcjpakahocaaDoor

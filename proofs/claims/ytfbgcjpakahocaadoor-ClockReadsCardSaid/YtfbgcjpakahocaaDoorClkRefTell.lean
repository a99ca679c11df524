/- Iso and Short of the document, of any time. Nothing that was there is written. No conditions. -/
import Derived.Test.YtfbgcjpakahocaaDoorClkRefNum
import Derived.Test.YtfbgcjpakahocaaDoorClkIso
namespace Go.Proofs.YtfbgcjpakahocaaDoor
open Go.RowKit
namespace Clk

theorem riso_str (t : Tm) : strOfNums (digK 4 t.y) ++ ⟨#[45]⟩ ++ strOfNums (digK 2 t.m) ++ ⟨#[45]⟩ ++ strOfNums (digK 2 t.d) ++ ⟨#[84]⟩ ++ strOfNums (digK 2 t.h) ++ ⟨#[58]⟩ ++ strOfNums (digK 2 t.i) ++ ⟨#[58]⟩ ++ strOfNums (digK 2 t.s) ++ ⟨#[46, 48, 48, 48, 90]⟩ = strOfNums (isoW t) := by
  rw [show (⟨#[45]⟩ : ByteArray) = strOfNums [45] from rfl, show (⟨#[84]⟩ : ByteArray) = strOfNums [84] from rfl, show (⟨#[58]⟩ : ByteArray) = strOfNums [58] from rfl, show (⟨#[46, 48, 48, 48, 90]⟩ : ByteArray) = strOfNums [46, 48, 48, 48, 90] from rfl]
  simp only [nums_append]
  unfold isoW yearW dayW
  simp only [List.append_assoc, List.cons_append, List.nil_append]
theorem rshort_str (t : Tm) : strOfNums (digK 4 t.y) ++ strOfNums (digK 2 t.m) ++ strOfNums (digK 2 t.d) ++ ⟨#[84]⟩ ++ strOfNums (digK 2 t.h) ++ strOfNums (digK 2 t.i) ++ strOfNums (digK 2 t.s) ++ ⟨#[90]⟩ = strOfNums (shortW t) := by
  rw [show (⟨#[84]⟩ : ByteArray) = strOfNums [84] from rfl, show (⟨#[90]⟩ : ByteArray) = strOfNums [90] from rfl]
  simp only [nums_append]
  unfold shortW yearW dayW
  simp only [List.append_assoc, List.cons_append, List.nil_append]
set_option maxRecDepth 100000 in
set_option maxHeartbeats 2000000 in
theorem riso_any (t : Tm) (w : World) : Calls Tryd.prog 16 #[tmV t] w fun e w' => e = .returned (.string (strOfNums (tellW isoW t))) ∧ Below w.heap.size w w' := by
  have HP := Lib.hid (fun (w' : World) => rright_any t w')
  by_cases hr : t.Right
  · rw [rightB_yes hr] at HP
    rw [tell_yes hr]
    obtain ⟨ry, rm, rd, rh, ri, rs⟩ := right_range hr
    have N0 := Lib.hid (fun w' => rnumber_any 4 t.y w' (by omega) ry.1 (by omega))
    have z0 : (strOfNums (digK 4 t.y)).size = 4 := by rw [nums_size, digK_length]
    have N1 := Lib.hid (fun w' => rnumber_any 2 t.m w' (by omega) rm.1 (by omega))
    have z1 : (strOfNums (digK 2 t.m)).size = 2 := by rw [nums_size, digK_length]
    have N2 := Lib.hid (fun w' => rnumber_any 2 t.d w' (by omega) rd.1 (by omega))
    have z2 : (strOfNums (digK 2 t.d)).size = 2 := by rw [nums_size, digK_length]
    have N3 := Lib.hid (fun w' => rnumber_any 2 t.h w' (by omega) rh.1 (by omega))
    have z3 : (strOfNums (digK 2 t.h)).size = 2 := by rw [nums_size, digK_length]
    have N4 := Lib.hid (fun w' => rnumber_any 2 t.i w' (by omega) ri.1 (by omega))
    have z4 : (strOfNums (digK 2 t.i)).size = 2 := by rw [nums_size, digK_length]
    have N5 := Lib.hid (fun w' => rnumber_any 2 t.s w' (by omega) rs.1 (by omega))
    have z5 : (strOfNums (digK 2 t.s)).size = 2 := by rw [nums_size, digK_length]
    have HE := Lib.hid (riso_str t)
    generalize strOfNums (isoW t) = Z at *
    generalize strOfNums (digK 4 t.y) = s0 at *
    generalize strOfNums (digK 2 t.m) = s1 at *
    generalize strOfNums (digK 2 t.d) = s2 at *
    generalize strOfNums (digK 2 t.h) = s3 at *
    generalize strOfNums (digK 2 t.i) = s4 at *
    generalize strOfNums (digK 2 t.s) = s5 at *
    unfold tmV at HP ⊢
    clear hr ry rm rd rh ri rs
    go_enter Tryd.func16, Tryd.ntmps16
    go_wp2_with (first
      | (refine wpList_boxT ttR rfl (.tmp 0) rfl t rfl ?_; intro W r1 b1 z1; clear z1; have HB1 := Lib.hid b1; clear b1)
      | (refine wpList_loadT ttR (.tmp 1) rfl rfl w.heap.size rfl t r1 ?_))
    refine (HP.out _).mono ?_
    rintro e w2 ⟨rfl, hb2⟩
    have HR2 := Lib.hid (r1.keep hb2)
    have HB2 := Lib.hid (HB1.out.trans (hb2.mono HB1.out.size))
    clear r1 hb2 HB1 HP
    go_wp2_with fail
    have HB3 := Lib.hid (HB2.out.trans (below_drewN (Below.refl _ w2) 1 |>.mono HB2.out.size))
    have a0 : ∀ x : Above w2.drew, x.1.cell? ⟨w.heap.size, 0, none⟩ = some (.int .i64 t.y) := HR2.out.drew.above rfl
    have a1 : ∀ x : Above w2.drew, x.1.cell? ⟨w.heap.size, 1, none⟩ = some (.int .i64 t.m) := HR2.out.drew.above rfl
    have a2 : ∀ x : Above w2.drew, x.1.cell? ⟨w.heap.size, 2, none⟩ = some (.int .i64 t.d) := HR2.out.drew.above rfl
    have a3 : ∀ x : Above w2.drew, x.1.cell? ⟨w.heap.size, 3, none⟩ = some (.int .i64 t.h) := HR2.out.drew.above rfl
    have a4 : ∀ x : Above w2.drew, x.1.cell? ⟨w.heap.size, 4, none⟩ = some (.int .i64 t.i) := HR2.out.drew.above rfl
    have a5 : ∀ x : Above w2.drew, x.1.cell? ⟨w.heap.size, 5, none⟩ = some (.int .i64 t.s) := HR2.out.drew.above rfl
    refine wp_region_segs [([0, 1, 4, 5, 9, 10, 14, 15, 19, 20, 24, 25], 2), ([3], 6), ([7, 8], 11), ([12, 13], 16), ([17, 18], 21), ([22, 23], 26)] [27, 28, 29] (by kernel_rfl) (by kernel_rfl) (by kernel_rfl) (by kernel_rfl) (fun _ _ d _ _ h => by cases d <;> exact h) ?_
    refine wpSegs_next (by simp [pickOps]; rfl) ?_
    repeat (go_big_quiet_step (fail))
    refine wpQuiet_nil ?_
    refine wpOp_alone rfl rfl (fun K hK => ?_)
    go_simp
    refine (N0.out _).mono ?_
    rintro e w3 ⟨rfl, rfl⟩
    refine hK _ _ ⟨Ext.refl _, ?_⟩
    clear hK K
    clear a0 a1 a2 a3 a4 a5
    refine wpSegs_next (by simp [pickOps]; rfl) ?_
    repeat (go_big_quiet_step (fail))
    refine wpQuiet_nil ?_
    refine wpOp_alone rfl rfl (fun K hK => ?_)
    go_simp
    refine (N1.out _).mono ?_
    rintro e w4 ⟨rfl, rfl⟩
    refine hK _ _ ⟨Ext.refl _, ?_⟩
    clear hK K
    refine wpSegs_next (by simp [pickOps]; rfl) ?_
    repeat (go_big_quiet_step (fail))
    refine wpQuiet_nil ?_
    refine wpOp_alone rfl rfl (fun K hK => ?_)
    go_simp
    refine (N2.out _).mono ?_
    rintro e w5 ⟨rfl, rfl⟩
    refine hK _ _ ⟨Ext.refl _, ?_⟩
    clear hK K
    refine wpSegs_next (by simp [pickOps]; rfl) ?_
    repeat (go_big_quiet_step (fail))
    refine wpQuiet_nil ?_
    refine wpOp_alone rfl rfl (fun K hK => ?_)
    go_simp
    refine (N3.out _).mono ?_
    rintro e w6 ⟨rfl, rfl⟩
    refine hK _ _ ⟨Ext.refl _, ?_⟩
    clear hK K
    refine wpSegs_next (by simp [pickOps]; rfl) ?_
    repeat (go_big_quiet_step (fail))
    refine wpQuiet_nil ?_
    refine wpOp_alone rfl rfl (fun K hK => ?_)
    go_simp
    refine (N4.out _).mono ?_
    rintro e w7 ⟨rfl, rfl⟩
    refine hK _ _ ⟨Ext.refl _, ?_⟩
    clear hK K
    refine wpSegs_next (by simp [pickOps]; rfl) ?_
    repeat (go_big_quiet_step (fail))
    refine wpQuiet_nil ?_
    refine wpOp_alone rfl rfl (fun K hK => ?_)
    go_simp
    refine (N5.out _).mono ?_
    rintro e w8 ⟨rfl, rfl⟩
    refine hK _ _ ⟨Ext.refl _, ?_⟩
    clear hK K
    refine wpSegs_last (by simp [pickOps]; rfl) ?_
    repeat (go_big_quiet_step (fail))
    refine wpQuiet_nil ?_
    go_wp2_with fail
    go_ret
    exact ⟨by rw [← HE.out]; rfl, HB3.out⟩
  · rw [rightB_no hr] at HP
    rw [tell_no hr]
    unfold tmV at HP ⊢
    clear hr
    go_enter Tryd.func16, Tryd.ntmps16
    go_wp2_with (first
      | (refine wpList_boxT ttR rfl (.tmp 0) rfl t rfl ?_; intro W r1 b1 z1; clear z1; have HB1 := Lib.hid b1; clear b1)
      | (refine wpList_loadT ttR (.tmp 1) rfl rfl w.heap.size rfl t r1 ?_))
    refine (HP.out _).mono ?_
    rintro e w2 ⟨rfl, hb2⟩
    have HB2 := Lib.hid (HB1.out.trans (hb2.mono HB1.out.size))
    clear r1 hb2 HB1 HP
    go_wp2_with fail
    go_ret
    exact ⟨rfl, HB2.out⟩
set_option maxRecDepth 100000 in
set_option maxHeartbeats 2000000 in
theorem rshort_any (t : Tm) (w : World) : Calls Tryd.prog 18 #[tmV t] w fun e w' => e = .returned (.string (strOfNums (tellW shortW t))) ∧ Below w.heap.size w w' := by
  have HP := Lib.hid (fun (w' : World) => rright_any t w')
  by_cases hr : t.Right
  · rw [rightB_yes hr] at HP
    rw [tell_yes hr]
    obtain ⟨ry, rm, rd, rh, ri, rs⟩ := right_range hr
    have N0 := Lib.hid (fun w' => rnumber_any 4 t.y w' (by omega) ry.1 (by omega))
    have z0 : (strOfNums (digK 4 t.y)).size = 4 := by rw [nums_size, digK_length]
    have N1 := Lib.hid (fun w' => rnumber_any 2 t.m w' (by omega) rm.1 (by omega))
    have z1 : (strOfNums (digK 2 t.m)).size = 2 := by rw [nums_size, digK_length]
    have N2 := Lib.hid (fun w' => rnumber_any 2 t.d w' (by omega) rd.1 (by omega))
    have z2 : (strOfNums (digK 2 t.d)).size = 2 := by rw [nums_size, digK_length]
    have N3 := Lib.hid (fun w' => rnumber_any 2 t.h w' (by omega) rh.1 (by omega))
    have z3 : (strOfNums (digK 2 t.h)).size = 2 := by rw [nums_size, digK_length]
    have N4 := Lib.hid (fun w' => rnumber_any 2 t.i w' (by omega) ri.1 (by omega))
    have z4 : (strOfNums (digK 2 t.i)).size = 2 := by rw [nums_size, digK_length]
    have N5 := Lib.hid (fun w' => rnumber_any 2 t.s w' (by omega) rs.1 (by omega))
    have z5 : (strOfNums (digK 2 t.s)).size = 2 := by rw [nums_size, digK_length]
    have HE := Lib.hid (rshort_str t)
    generalize strOfNums (shortW t) = Z at *
    generalize strOfNums (digK 4 t.y) = s0 at *
    generalize strOfNums (digK 2 t.m) = s1 at *
    generalize strOfNums (digK 2 t.d) = s2 at *
    generalize strOfNums (digK 2 t.h) = s3 at *
    generalize strOfNums (digK 2 t.i) = s4 at *
    generalize strOfNums (digK 2 t.s) = s5 at *
    unfold tmV at HP ⊢
    clear hr ry rm rd rh ri rs
    go_enter Tryd.func18, Tryd.ntmps18
    go_wp2_with (first
      | (refine wpList_boxT ttR rfl (.tmp 0) rfl t rfl ?_; intro W r1 b1 z1; clear z1; have HB1 := Lib.hid b1; clear b1)
      | (refine wpList_loadT ttR (.tmp 1) rfl rfl w.heap.size rfl t r1 ?_))
    refine (HP.out _).mono ?_
    rintro e w2 ⟨rfl, hb2⟩
    have HR2 := Lib.hid (r1.keep hb2)
    have HB2 := Lib.hid (HB1.out.trans (hb2.mono HB1.out.size))
    clear r1 hb2 HB1 HP
    go_wp2_with fail
    have HB3 := Lib.hid (HB2.out.trans (below_drewN (Below.refl _ w2) 1 |>.mono HB2.out.size))
    have a0 : ∀ x : Above w2.drew, x.1.cell? ⟨w.heap.size, 0, none⟩ = some (.int .i64 t.y) := HR2.out.drew.above rfl
    have a1 : ∀ x : Above w2.drew, x.1.cell? ⟨w.heap.size, 1, none⟩ = some (.int .i64 t.m) := HR2.out.drew.above rfl
    have a2 : ∀ x : Above w2.drew, x.1.cell? ⟨w.heap.size, 2, none⟩ = some (.int .i64 t.d) := HR2.out.drew.above rfl
    have a3 : ∀ x : Above w2.drew, x.1.cell? ⟨w.heap.size, 3, none⟩ = some (.int .i64 t.h) := HR2.out.drew.above rfl
    have a4 : ∀ x : Above w2.drew, x.1.cell? ⟨w.heap.size, 4, none⟩ = some (.int .i64 t.i) := HR2.out.drew.above rfl
    have a5 : ∀ x : Above w2.drew, x.1.cell? ⟨w.heap.size, 5, none⟩ = some (.int .i64 t.s) := HR2.out.drew.above rfl
    refine wp_region_segs [([0, 1, 3, 4, 7, 8, 12, 13, 16, 17, 20, 21], 2), ([], 5), ([6], 9), ([10, 11], 14), ([15], 18), ([19], 22)] [23, 24, 25] (by kernel_rfl) (by kernel_rfl) (by kernel_rfl) (by kernel_rfl) (fun _ _ d _ _ h => by cases d <;> exact h) ?_
    refine wpSegs_next (by simp [pickOps]; rfl) ?_
    repeat (go_big_quiet_step (fail))
    refine wpQuiet_nil ?_
    refine wpOp_alone rfl rfl (fun K hK => ?_)
    go_simp
    refine (N0.out _).mono ?_
    rintro e w3 ⟨rfl, rfl⟩
    refine hK _ _ ⟨Ext.refl _, ?_⟩
    clear hK K
    clear a0 a1 a2 a3 a4 a5
    refine wpSegs_next (by simp [pickOps]; rfl) ?_
    repeat (go_big_quiet_step (fail))
    refine wpQuiet_nil ?_
    refine wpOp_alone rfl rfl (fun K hK => ?_)
    go_simp
    refine (N1.out _).mono ?_
    rintro e w4 ⟨rfl, rfl⟩
    refine hK _ _ ⟨Ext.refl _, ?_⟩
    clear hK K
    refine wpSegs_next (by simp [pickOps]; rfl) ?_
    repeat (go_big_quiet_step (fail))
    refine wpQuiet_nil ?_
    refine wpOp_alone rfl rfl (fun K hK => ?_)
    go_simp
    refine (N2.out _).mono ?_
    rintro e w5 ⟨rfl, rfl⟩
    refine hK _ _ ⟨Ext.refl _, ?_⟩
    clear hK K
    refine wpSegs_next (by simp [pickOps]; rfl) ?_
    repeat (go_big_quiet_step (fail))
    refine wpQuiet_nil ?_
    refine wpOp_alone rfl rfl (fun K hK => ?_)
    go_simp
    refine (N3.out _).mono ?_
    rintro e w6 ⟨rfl, rfl⟩
    refine hK _ _ ⟨Ext.refl _, ?_⟩
    clear hK K
    refine wpSegs_next (by simp [pickOps]; rfl) ?_
    repeat (go_big_quiet_step (fail))
    refine wpQuiet_nil ?_
    refine wpOp_alone rfl rfl (fun K hK => ?_)
    go_simp
    refine (N4.out _).mono ?_
    rintro e w7 ⟨rfl, rfl⟩
    refine hK _ _ ⟨Ext.refl _, ?_⟩
    clear hK K
    refine wpSegs_next (by simp [pickOps]; rfl) ?_
    repeat (go_big_quiet_step (fail))
    refine wpQuiet_nil ?_
    refine wpOp_alone rfl rfl (fun K hK => ?_)
    go_simp
    refine (N5.out _).mono ?_
    rintro e w8 ⟨rfl, rfl⟩
    refine hK _ _ ⟨Ext.refl _, ?_⟩
    clear hK K
    refine wpSegs_last (by simp [pickOps]; rfl) ?_
    repeat (go_big_quiet_step (fail))
    refine wpQuiet_nil ?_
    go_wp2_with fail
    go_ret
    exact ⟨by rw [← HE.out]; rfl, HB3.out⟩
  · rw [rightB_no hr] at HP
    rw [tell_no hr]
    unfold tmV at HP ⊢
    clear hr
    go_enter Tryd.func18, Tryd.ntmps18
    go_wp2_with (first
      | (refine wpList_boxT ttR rfl (.tmp 0) rfl t rfl ?_; intro W r1 b1 z1; clear z1; have HB1 := Lib.hid b1; clear b1)
      | (refine wpList_loadT ttR (.tmp 1) rfl rfl w.heap.size rfl t r1 ?_))
    refine (HP.out _).mono ?_
    rintro e w2 ⟨rfl, hb2⟩
    have HB2 := Lib.hid (HB1.out.trans (hb2.mono HB1.out.size))
    clear r1 hb2 HB1 HP
    go_wp2_with fail
    go_ret
    exact ⟨rfl, HB2.out⟩
end Clk
end Go.Proofs.YtfbgcjpakahocaaDoor

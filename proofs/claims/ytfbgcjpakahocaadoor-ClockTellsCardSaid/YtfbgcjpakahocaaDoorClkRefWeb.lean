/- Web of the document, of any time. Nothing that was there is written. No conditions. -/
import Derived.Test.YtfbgcjpakahocaaDoorClkRefNum
import Derived.Test.YtfbgcjpakahocaaDoorClkWeb
import Derived.Test.YtfbgcjpakahocaaDoorClkRefSec
namespace Go.Proofs.YtfbgcjpakahocaaDoor
open Go.RowKit
namespace Clk

theorem rweb_str (t : Tm) (a b : Nat) (ha : t.wd.toNat = a) (hb : (t.m - 1).toNat = b) : strOfNums (wdN a) ++ ⟨#[44, 32]⟩ ++ strOfNums (digK 2 t.d) ++ ⟨#[32]⟩ ++ strOfNums (moN b) ++ ⟨#[32]⟩ ++ strOfNums (digK 4 t.y) ++ ⟨#[32]⟩ ++ strOfNums (digK 2 t.h) ++ ⟨#[58]⟩ ++ strOfNums (digK 2 t.i) ++ ⟨#[58]⟩ ++ strOfNums (digK 2 t.s) ++ ⟨#[32, 71, 77, 84]⟩ = strOfNums (webW t) := by
  subst ha hb
  rw [show (⟨#[44, 32]⟩ : ByteArray) = strOfNums [44, 32] from rfl, show (⟨#[32]⟩ : ByteArray) = strOfNums [32] from rfl, show (⟨#[58]⟩ : ByteArray) = strOfNums [58] from rfl, show (⟨#[32, 71, 77, 84]⟩ : ByteArray) = strOfNums [32, 71, 77, 84] from rfl]
  simp only [nums_append]
  unfold webW dayW
  simp only [List.append_assoc, List.cons_append, List.nil_append]
def daysS : ByteArray := ⟨#[83, 117, 110, 77, 111, 110, 84, 117, 101, 87, 101, 100, 84, 104, 117, 70, 114, 105, 83, 97, 116]⟩
def monsS : ByteArray := ⟨#[74, 97, 110, 70, 101, 98, 77, 97, 114, 65, 112, 114, 77, 97, 121, 74, 117, 110, 74, 117, 108, 65, 117, 103, 83, 101, 112, 79, 99, 116, 78, 111, 118, 68, 101, 99]⟩
theorem days_at (a : Nat) (h : a < 7) : daysS.extract (3 * a) (3 * a + 3) = strOfNums (wdN a) := by
  rcases (show a = 0 ∨ a = 1 ∨ a = 2 ∨ a = 3 ∨ a = 4 ∨ a = 5 ∨ a = 6 by omega) with rfl | rfl | rfl | rfl | rfl | rfl | rfl <;> rfl
theorem mons_at (b : Nat) (h : b < 12) : monsS.extract (3 * b) (3 * b + 3) = strOfNums (moN b) := by
  rcases (show b = 0 ∨ b = 1 ∨ b = 2 ∨ b = 3 ∨ b = 4 ∨ b = 5 ∨ b = 6 ∨ b = 7 ∨ b = 8 ∨ b = 9 ∨ b = 10 ∨ b = 11 by omega) with rfl | rfl | rfl | rfl | rfl | rfl | rfl | rfl | rfl | rfl | rfl | rfl <;> rfl
theorem run_slice_days (a : Nat) (h : a < 7) (p : ByteArray) (hp : strOfNums (wdN a) = p) (i j : Int) (hi : i = 3 * (a : Int)) (hj : j = 3 * (a : Int) + 3) (w : World) : (Instr.slice 9 (.string ⟨#[83, 117, 110, 77, 111, 110, 84, 117, 101, 87, 101, 100, 84, 104, 117, 70, 114, 105, 83, 97, 116]⟩) (some (.int .i64 i)) (some (.int .i64 j)) none).run Tryd.prog w = .ok (.string p) w := by
  obtain rfl : i = ((3 * a : Nat) : Int) := by omega
  exact run_slice_part daysS p (3 * a) (3 * a + 3) j (by omega) (by omega) (show 3 * a + 3 ≤ 21 by omega) (by rw [days_at a h, hp]) w
theorem run_slice_mons (b : Nat) (h : b < 12) (p : ByteArray) (hp : strOfNums (moN b) = p) (i j : Int) (hi : i = 3 * (b : Int)) (hj : j = 3 * (b : Int) + 3) (w : World) : (Instr.slice 9 (.string ⟨#[74, 97, 110, 70, 101, 98, 77, 97, 114, 65, 112, 114, 77, 97, 121, 74, 117, 110, 74, 117, 108, 65, 117, 103, 83, 101, 112, 79, 99, 116, 78, 111, 118, 68, 101, 99]⟩) (some (.int .i64 i)) (some (.int .i64 j)) none).run Tryd.prog w = .ok (.string p) w := by
  obtain rfl : i = ((3 * b : Nat) : Int) := by omega
  exact run_slice_part monsS p (3 * b) (3 * b + 3) j (by omega) (by omega) (show 3 * b + 3 ≤ 36 by omega) (by rw [mons_at b h, hp]) w
set_option maxRecDepth 100000 in
set_option maxHeartbeats 4000000 in
theorem rweb_any (t : Tm) (w : World) : Calls Tryd.prog 14 #[tmV t] w fun e w' => e = .returned (.string (strOfNums (tellW webW t))) ∧ Below w.heap.size w w' := by
  have HP := Lib.hid (fun (w' : World) => rright_any t w')
  by_cases hr : t.Right
  · rw [rightB_yes hr] at HP
    rw [tell_yes hr]
    obtain ⟨ry, rm, rd, rh, ri, rs⟩ := right_range hr
    have N0 := Lib.hid (fun w' => rnumber_any 4 t.y w' (by omega) ry.1 (by omega))
    have z0 : (strOfNums (digK 4 t.y)).size = 4 := by rw [nums_size, digK_length]
    have N1 := Lib.hid (fun w' => rnumber_any 2 t.m w' (by omega) rm.1 (by omega))
    have z1 : (strOfNums (digK 2 t.m)).size = 2 := by rw [nums_size, digK_length]
    have N2 := Lib.hid (fun w' => rnumber_any 2 t.d w' (by omega) rd.1 (by omega))
    have z2 : (strOfNums (digK 2 t.d)).size = 2 := by rw [nums_size, digK_length]
    have N3 := Lib.hid (fun w' => rnumber_any 2 t.h w' (by omega) rh.1 (by omega))
    have z3 : (strOfNums (digK 2 t.h)).size = 2 := by rw [nums_size, digK_length]
    have N4 := Lib.hid (fun w' => rnumber_any 2 t.i w' (by omega) ri.1 (by omega))
    have z4 : (strOfNums (digK 2 t.i)).size = 2 := by rw [nums_size, digK_length]
    have N5 := Lib.hid (fun w' => rnumber_any 2 t.s w' (by omega) rs.1 (by omega))
    have z5 : (strOfNums (digK 2 t.s)).size = 2 := by rw [nums_size, digK_length]
    obtain ⟨a, hwa⟩ : ∃ a : Nat, t.wd = (a : Int) := ⟨t.wd.toNat, by have := wd_range t; omega⟩
    obtain ⟨b, hmb⟩ : ∃ b : Nat, t.m = (b : Int) + 1 := ⟨(t.m - 1).toNat, by have := hr.2.1; omega⟩
    have ha : a < 7 := by have := wd_range t; omega
    have hb : b < 12 := by have := hr.2.1; omega
    have HW := Lib.hid (fun (w' : World) => rweekday_any t w')
    rw [show wdI t = (a : Int) by unfold wdI; rw [if_pos hr, hwa]] at HW
    have HE := Lib.hid (rweb_str t a b (by omega) (by omega))
    have zM : (strOfNums (moN b)).size = 3 := by rw [nums_size, moN_length]
    have zW : (strOfNums (wdN a)).size = 3 := by rw [nums_size, wdN_length]
    have HSD := Lib.hid (run_slice_days a ha)
    have HSM := Lib.hid (run_slice_mons b hb)
    generalize strOfNums (webW t) = Z at *
    generalize strOfNums (digK 4 t.y) = s0 at *
    generalize strOfNums (digK 2 t.m) = s1 at *
    generalize strOfNums (digK 2 t.d) = s2 at *
    generalize strOfNums (digK 2 t.h) = s3 at *
    generalize strOfNums (digK 2 t.i) = s4 at *
    generalize strOfNums (digK 2 t.s) = s5 at *
    generalize strOfNums (moN b) = SM at *
    generalize strOfNums (wdN a) = SW at *
    have qd := fun w' => HSD.out SW rfl (3 * (a : Int)) (3 * (a : Int) + 3) rfl rfl w'
    have qm := fun w' => HSM.out SM rfl (3 * ((b : Int) + 1) - 3) (3 * ((b : Int) + 1)) (by omega) (by omega) w'
    have ai : (a : Int) < 7 := by omega
    have bi : (b : Int) < 12 := by omega
    have ymd : t.m ≤ 12 := by omega
    unfold tmV at HW
    clear hwa HSD HSM
    unfold tmV at HP ⊢
    clear hr ry rm rd rh ri rs
    go_enter Tryd.func14, Tryd.ntmps14
    go_wp2_with (first
      | (refine wpList_boxT ttR rfl (.tmp 0) rfl t rfl ?_; intro W r1 b1 z1; clear z1; have HB1 := Lib.hid b1; clear b1)
      | (refine wpList_loadT ttR (.tmp 1) rfl rfl w.heap.size rfl t r1 ?_))
    refine (HP.out _).mono ?_
    rintro e w2 ⟨rfl, hb2⟩
    have HR2 := Lib.hid (r1.keep hb2)
    have HB2 := Lib.hid (HB1.out.trans (hb2.mono HB1.out.size))
    clear r1 hb2 HB1 HP
    obtain ⟨c0, c1, c2, c3, c4, c5⟩ := TmAt.of HR2.out
    have r2 := HR2.out
    go_wp2_with (first
      | (refine wpList_loadT ttR (.tmp 1) rfl rfl w.heap.size rfl t r2 ?_))
    refine (HW.out _).mono ?_
    rintro e v2 ⟨rfl, hv2⟩
    have HR2' := Lib.hid (HR2.out.keep hv2)
    have HB2' := Lib.hid (HB2.out.trans (hv2.mono HB2.out.size))
    clear c0 c1 c2 c3 c4 c5 r2 hv2 HR2 HB2 HW
    have HR2 := HR2'
    have HB2 := HB2'
    clear HR2' HB2'
    obtain ⟨c0, c1, c2, c3, c4, c5⟩ := TmAt.of HR2.out
    go_wp2_with fail
    have HB3 := Lib.hid (HB2.out.trans (below_drewN (Below.refl _ v2) 1 |>.mono HB2.out.size))
    have a0 : ∀ x : Above v2.drew, x.1.cell? ⟨w.heap.size, 0, none⟩ = some (.int .i64 t.y) := HR2.out.drew.above rfl
    have a1 : ∀ x : Above v2.drew, x.1.cell? ⟨w.heap.size, 1, none⟩ = some (.int .i64 t.m) := HR2.out.drew.above rfl
    have a2 : ∀ x : Above v2.drew, x.1.cell? ⟨w.heap.size, 2, none⟩ = some (.int .i64 t.d) := HR2.out.drew.above rfl
    have a3 : ∀ x : Above v2.drew, x.1.cell? ⟨w.heap.size, 3, none⟩ = some (.int .i64 t.h) := HR2.out.drew.above rfl
    have a4 : ∀ x : Above v2.drew, x.1.cell? ⟨w.heap.size, 4, none⟩ = some (.int .i64 t.i) := HR2.out.drew.above rfl
    have a5 : ∀ x : Above v2.drew, x.1.cell? ⟨w.heap.size, 5, none⟩ = some (.int .i64 t.s) := HR2.out.drew.above rfl
    refine wp_region_segs [([0, 1, 2, 3, 7, 10, 11, 15, 16, 20, 21, 25, 26], 4), ([5, 6, 8, 9], 12), ([13, 14], 17), ([18, 19], 22), ([23, 24], 27)] [28, 29, 30] (by kernel_rfl) (by kernel_rfl) (by kernel_rfl) (by kernel_rfl) (fun _ _ d _ _ h => by cases d <;> exact h) ?_
    refine wpSegs_next (by simp [pickOps]; rfl) ?_
    repeat (go_big_quiet_step (fail))
    refine wpQuiet_nil ?_
    refine wpOp_alone rfl rfl (fun K hK => ?_)
    go_simp
    refine (N2.out _).mono ?_
    rintro e w3 ⟨rfl, rfl⟩
    refine hK _ _ ⟨Ext.refl _, ?_⟩
    clear hK K
    clear a0 a1 a2 a3 a4 a5
    refine wpSegs_next (by simp [pickOps]; rfl) ?_
    repeat (go_big_quiet_step (fail))
    refine wpQuiet_nil ?_
    refine wpOp_alone rfl rfl (fun K hK => ?_)
    go_simp
    refine (N0.out _).mono ?_
    rintro e w4 ⟨rfl, rfl⟩
    refine hK _ _ ⟨Ext.refl _, ?_⟩
    clear hK K
    refine wpSegs_next (by simp [pickOps]; rfl) ?_
    repeat (go_big_quiet_step (fail))
    refine wpQuiet_nil ?_
    refine wpOp_alone rfl rfl (fun K hK => ?_)
    go_simp
    refine (N3.out _).mono ?_
    rintro e w5 ⟨rfl, rfl⟩
    refine hK _ _ ⟨Ext.refl _, ?_⟩
    clear hK K
    refine wpSegs_next (by simp [pickOps]; rfl) ?_
    repeat (go_big_quiet_step (fail))
    refine wpQuiet_nil ?_
    refine wpOp_alone rfl rfl (fun K hK => ?_)
    go_simp
    refine (N4.out _).mono ?_
    rintro e w6 ⟨rfl, rfl⟩
    refine hK _ _ ⟨Ext.refl _, ?_⟩
    clear hK K
    refine wpSegs_next (by simp [pickOps]; rfl) ?_
    repeat (go_big_quiet_step (fail))
    refine wpQuiet_nil ?_
    refine wpOp_alone rfl rfl (fun K hK => ?_)
    go_simp
    refine (N5.out _).mono ?_
    rintro e w7 ⟨rfl, rfl⟩
    refine hK _ _ ⟨Ext.refl _, ?_⟩
    clear hK K
    refine wpSegs_last (by simp [pickOps]; rfl) ?_
    repeat (go_big_quiet_step (fail))
    refine wpQuiet_nil ?_
    go_wp2_with fail
    go_ret
    exact ⟨by rw [← HE.out]; rfl, HB3.out⟩
  · rw [rightB_no hr] at HP
    rw [tell_no hr]
    unfold tmV at HP ⊢
    clear hr
    go_enter Tryd.func14, Tryd.ntmps14
    go_wp2_with (first
      | (refine wpList_boxT ttR rfl (.tmp 0) rfl t rfl ?_; intro W r1 b1 z1; clear z1; have HB1 := Lib.hid b1; clear b1)
      | (refine wpList_loadT ttR (.tmp 1) rfl rfl w.heap.size rfl t r1 ?_))
    refine (HP.out _).mono ?_
    rintro e w2 ⟨rfl, hb2⟩
    have HB2 := Lib.hid (HB1.out.trans (hb2.mono HB1.out.size))
    clear r1 hb2 HB1 HP
    go_wp2_with fail
    go_ret
    exact ⟨rfl, HB2.out⟩
end Clk
end Go.Proofs.YtfbgcjpakahocaaDoor

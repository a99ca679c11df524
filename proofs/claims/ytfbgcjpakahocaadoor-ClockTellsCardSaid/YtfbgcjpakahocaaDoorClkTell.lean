/- ofYear and ofDay of the program, at a right time. Nothing that was there is written. Conditions: the listed tables lie where they were laid, and those that stand in each lemma. -/
import Derived.Test.YtfbgcjpakahocaaDoorClkRepeat
import Derived.Test.YtfbgcjpakahocaaDoorClkVar
namespace Go.Proofs.YtfbgcjpakahocaaDoor
open Go.RowKit
namespace Clk

set_option maxRecDepth 100000 in
set_option maxHeartbeats 2000000 in
theorem ofYear_any (t : Tm) (bs : ByteArray) (w : World) (ht : Tabs w) (hr : t.Right) (hbs : bs.size ≤ 10) :
    Calls Tryd.prog 38 #[tmV t, .string bs] w fun e w' => e = .returned (.string (strOfNums (digK 4 t.y) ++ bs ++ strOfNums (digK 2 t.m) ++ bs ++ strOfNums (digK 2 t.d))) ∧ Below w.heap.size w w' := by
  have Ht := Lib.hid ht.pow
  obtain ⟨ry, rm, rd, rh, ri, rs⟩ := right_range hr
  have HA := Lib.hid (fun w' h => digits_any 4 t.y w' h (by omega) ry.1 ry.2)
  have HB := Lib.hid (fun w' h => digits_any 2 t.m w' h (by omega) rm.1 rm.2)
  have HC := Lib.hid (fun w' h => digits_any 2 t.d w' h (by omega) rd.1 rd.2)
  have sA : (strOfNums (digK 4 t.y)).size = 4 := by rw [nums_size, digK_length]
  have sB : (strOfNums (digK 2 t.m)).size = 2 := by rw [nums_size, digK_length]
  have sC : (strOfNums (digK 2 t.d)).size = 2 := by rw [nums_size, digK_length]
  unfold tmV
  clear ht hr ry rm rd rh ri rs
  generalize hZ : strOfNums (digK 4 t.y) ++ bs ++ strOfNums (digK 2 t.m) ++ bs ++ strOfNums (digK 2 t.d) = Z
  have HZ := Lib.hid hZ
  clear hZ
  generalize strOfNums (digK 4 t.y) = sa at *
  generalize strOfNums (digK 2 t.m) = sb at *
  generalize strOfNums (digK 2 t.d) = sc at *
  go_enter Tryd.func38, Tryd.ntmps38
  go_wp2_with (first
    | (refine wpList_boxT ttP rfl (.tmp 0) rfl t rfl ?_; intro W r1 b1 z1; clear z1; have HR1 := Lib.hid r1; have HT1 := Lib.hid (Ht.out.keep b1); have HB1 := Lib.hid b1; clear b1 r1))
  have a0 : ∀ x : Above W.drew, x.1.cell? ⟨w.heap.size, 0, none⟩ = some (.int .i64 t.y) := HR1.out.drew.above rfl
  have a1 : ∀ x : Above W.drew, x.1.cell? ⟨w.heap.size, 1, none⟩ = some (.int .i64 t.m) := HR1.out.drew.above rfl
  have a2 : ∀ x : Above W.drew, x.1.cell? ⟨w.heap.size, 2, none⟩ = some (.int .i64 t.d) := HR1.out.drew.above rfl
  have HT2 := Lib.hid (HT1.out.keep (below_drewN (Below.refl _ W) 1))
  refine wp_region_segs [([0, 1, 3, 5, 6, 9, 11, 12], 2), ([4], 7), ([8, 10], 13)] [14, 15] (by kernel_rfl) (by kernel_rfl) (by kernel_rfl) (by kernel_rfl) (fun _ _ d _ _ h => by cases d <;> exact h) ?_
  refine wpSegs_next (by simp [pickOps]; rfl) ?_
  repeat (go_big_quiet_step (fail))
  refine wpQuiet_nil ?_
  refine wpOp_alone rfl rfl (fun K hK => ?_)
  go_simp
  refine (HA.out _ HT2.out).mono ?_
  rintro e w1 ⟨rfl, hb1⟩
  refine hK _ _ ⟨hb1, ?_⟩
  have HT3 := Lib.hid (HT2.out.keep hb1)
  have HB2 := Lib.hid (HB1.out.trans ((below_drewN (Below.refl _ W) 1).trans hb1 |>.mono HB1.out.size))
  clear hK K hb1 a0 a1 a2
  refine wpSegs_next (by simp [pickOps]; rfl) ?_
  repeat (go_big_quiet_step (fail))
  refine wpQuiet_nil ?_
  refine wpOp_alone rfl rfl (fun K hK => ?_)
  go_simp
  refine (HB.out _ HT3.out).mono ?_
  rintro e w2 ⟨rfl, hb2⟩
  refine hK _ _ ⟨hb2, ?_⟩
  have HT4 := Lib.hid (HT3.out.keep hb2)
  have HB3 := Lib.hid (HB2.out.trans (hb2.mono HB2.out.size))
  clear hK K hb2
  refine wpSegs_next (by simp [pickOps]; rfl) ?_
  repeat (go_big_quiet_step (fail))
  refine wpQuiet_nil ?_
  refine wpOp_alone rfl rfl (fun K hK => ?_)
  go_simp
  refine (HC.out _ HT4.out).mono ?_
  rintro e w3 ⟨rfl, hb3⟩
  refine hK _ _ ⟨hb3, ?_⟩
  have HB4 := Lib.hid (HB3.out.trans (hb3.mono HB3.out.size))
  clear hK K hb3
  refine wpSegs_last (by simp [pickOps]; rfl) ?_
  repeat (go_big_quiet_step (fail))
  refine wpQuiet_nil ?_
  go_wp2_with fail
  go_ret
  exact ⟨by rw [← HZ.out]; rfl, HB4.out⟩
set_option maxRecDepth 100000 in
set_option maxHeartbeats 2000000 in
theorem ofDay_any (t : Tm) (bs : ByteArray) (w : World) (ht : Tabs w) (hr : t.Right) (hbs : bs.size ≤ 10) :
    Calls Tryd.prog 36 #[tmV t, .string bs] w fun e w' => e = .returned (.string (strOfNums (digK 2 t.h) ++ bs ++ strOfNums (digK 2 t.i) ++ bs ++ strOfNums (digK 2 t.s))) ∧ Below w.heap.size w w' := by
  have Ht := Lib.hid ht.pow
  obtain ⟨ry, rm, rd, rh, ri, rs⟩ := right_range hr
  have HA := Lib.hid (fun w' h => digits_any 2 t.h w' h (by omega) rh.1 rh.2)
  have HB := Lib.hid (fun w' h => digits_any 2 t.i w' h (by omega) ri.1 ri.2)
  have HC := Lib.hid (fun w' h => digits_any 2 t.s w' h (by omega) rs.1 rs.2)
  have sA : (strOfNums (digK 2 t.h)).size = 2 := by rw [nums_size, digK_length]
  have sB : (strOfNums (digK 2 t.i)).size = 2 := by rw [nums_size, digK_length]
  have sC : (strOfNums (digK 2 t.s)).size = 2 := by rw [nums_size, digK_length]
  unfold tmV
  clear ht hr ry rm rd rh ri rs
  generalize hZ : strOfNums (digK 2 t.h) ++ bs ++ strOfNums (digK 2 t.i) ++ bs ++ strOfNums (digK 2 t.s) = Z
  have HZ := Lib.hid hZ
  clear hZ
  generalize strOfNums (digK 2 t.h) = sa at *
  generalize strOfNums (digK 2 t.i) = sb at *
  generalize strOfNums (digK 2 t.s) = sc at *
  go_enter Tryd.func36, Tryd.ntmps36
  go_wp2_with (first
    | (refine wpList_boxT ttP rfl (.tmp 0) rfl t rfl ?_; intro W r1 b1 z1; clear z1; have HR1 := Lib.hid r1; have HT1 := Lib.hid (Ht.out.keep b1); have HB1 := Lib.hid b1; clear b1 r1))
  have a0 : ∀ x : Above W.drew, x.1.cell? ⟨w.heap.size, 3, none⟩ = some (.int .i64 t.h) := HR1.out.drew.above rfl
  have a1 : ∀ x : Above W.drew, x.1.cell? ⟨w.heap.size, 4, none⟩ = some (.int .i64 t.i) := HR1.out.drew.above rfl
  have a2 : ∀ x : Above W.drew, x.1.cell? ⟨w.heap.size, 5, none⟩ = some (.int .i64 t.s) := HR1.out.drew.above rfl
  have HT2 := Lib.hid (HT1.out.keep (below_drewN (Below.refl _ W) 1))
  refine wp_region_segs [([0, 1, 3, 5, 6, 9, 11, 12], 2), ([4], 7), ([8, 10], 13)] [14, 15] (by kernel_rfl) (by kernel_rfl) (by kernel_rfl) (by kernel_rfl) (fun _ _ d _ _ h => by cases d <;> exact h) ?_
  refine wpSegs_next (by simp [pickOps]; rfl) ?_
  repeat (go_big_quiet_step (fail))
  refine wpQuiet_nil ?_
  refine wpOp_alone rfl rfl (fun K hK => ?_)
  go_simp
  refine (HA.out _ HT2.out).mono ?_
  rintro e w1 ⟨rfl, hb1⟩
  refine hK _ _ ⟨hb1, ?_⟩
  have HT3 := Lib.hid (HT2.out.keep hb1)
  have HB2 := Lib.hid (HB1.out.trans ((below_drewN (Below.refl _ W) 1).trans hb1 |>.mono HB1.out.size))
  clear hK K hb1 a0 a1 a2
  refine wpSegs_next (by simp [pickOps]; rfl) ?_
  repeat (go_big_quiet_step (fail))
  refine wpQuiet_nil ?_
  refine wpOp_alone rfl rfl (fun K hK => ?_)
  go_simp
  refine (HB.out _ HT3.out).mono ?_
  rintro e w2 ⟨rfl, hb2⟩
  refine hK _ _ ⟨hb2, ?_⟩
  have HT4 := Lib.hid (HT3.out.keep hb2)
  have HB3 := Lib.hid (HB2.out.trans (hb2.mono HB2.out.size))
  clear hK K hb2
  refine wpSegs_next (by simp [pickOps]; rfl) ?_
  repeat (go_big_quiet_step (fail))
  refine wpQuiet_nil ?_
  refine wpOp_alone rfl rfl (fun K hK => ?_)
  go_simp
  refine (HC.out _ HT4.out).mono ?_
  rintro e w3 ⟨rfl, hb3⟩
  refine hK _ _ ⟨hb3, ?_⟩
  have HB4 := Lib.hid (HB3.out.trans (hb3.mono HB3.out.size))
  clear hK K hb3
  refine wpSegs_last (by simp [pickOps]; rfl) ?_
  repeat (go_big_quiet_step (fail))
  refine wpQuiet_nil ?_
  go_wp2_with fail
  go_ret
  exact ⟨by rw [← HZ.out]; rfl, HB4.out⟩
end Clk
end Go.Proofs.YtfbgcjpakahocaaDoor

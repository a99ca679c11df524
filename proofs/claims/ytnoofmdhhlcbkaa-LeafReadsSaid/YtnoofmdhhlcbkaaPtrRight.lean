/- Right: for any pointer; nothing that was there is written. -/
import Derived.Test.YtnoofmdhhlcbkaaPtrSmall
import Derived.IntWalk
namespace Go.Proofs.Ytnoofmdhhlcbkaa
open Go.RowKit

theorem right_no1 {p : Pt} (h : lenOk p.len = false) : false = p.right := by
  unfold lenOk at h
  unfold Pt.right
  simp at h
  simp
  omega
theorem right_no2 {p : Pt} (h : inB 1 1152921504606846976 p.birth = false) : false = p.right := by
  unfold inB at h
  unfold Pt.right
  simp at h
  simp
  omega
theorem right_of {p : Pt} {v : Bool} (h1 : lenOk p.len = true) (h2 : inB 1 1152921504606846976 p.birth = true) (h3 : inB 2 (8192 - secsOf p.len) p.place = v) : v = p.right := by
  rw [← h3]
  have h1' : 1 ≤ p.len ∧ p.len ≤ 65536 := of_decide_eq_true h1
  have h2' := inB_iff.1 h2
  rw [Bool.eq_iff_iff, inB_iff]
  unfold Pt.right
  rw [decide_eq_true_iff]
  omega

set_option maxHeartbeats 4000000 in
theorem right_any (p : Pt) (w : World) (hp : p.Ok) : Calls Try.prog 52 #[.agg (pcells p)] w fun e w' => e = .returned (.bool p.right) ∧ Below w.heap.size w w' := by
  have r1 := Row.new w 43 (pcells p)
  have b1 : Below w.heap.size w (w.alloc (.cells (pcells p) 43)) := (Below.refl _ _).alloc (Nat.le_refl _) _
  have Hp := Lib.hid (pt_size hp.shaL)
  clear hp
  generalize hw1 : w.alloc (.cells (pcells p) 43) = w1 at *
  have HW := Lib.hid hw1
  clear hw1
  have d1 := b1.drew
  have r2 := r1.drew
  clear b1 r1
  cases h1 : lenOk p.len with
  | false =>
    have HR := Lib.hid (right_no1 h1)
    have H1 := Lib.hid h1
    clear h1
    have c2 : ∀ x : Above w1.drew, x.1.cell? ⟨w.heap.size, 2, none⟩ = some (.int .i64 p.len) := r2.above (pcells_2 p)
    go_enter Try.func52, Try.ntmps52
    go_wp2_with fail
    rw [HW.out]
    refine wp_region_segs [([0, 1], 2), ([3, 5, 6], 4), ([], 7), ([8, 9, 14, 15, 10], 11), ([12], 13), ([], 16)] [17, 18] (by kernel_rfl) (by kernel_rfl) (by kernel_rfl) (by kernel_rfl) (fun _ _ d _ _ h => by cases d <;> exact h) ?_
    refine wpSegs_next (by simp [pickOps]; rfl) ?_
    repeat (go_big_quiet_step (fail))
    refine wpQuiet_nil ?_
    refine wpOp_alone rfl rfl (fun K hK => ?_)
    go_simp
    refine (isLength_any p.len false _ H1.out).mono ?_
    rintro e w2 ⟨rfl, hb2⟩
    clear c2
    have d2 := d1.trans (hb2.mono d1.size)
    have r3 := r2.keep hb2
    refine hK _ _ ⟨hb2, ?_⟩
    clear hK K hb2 d1 r2
    refine wpSegs_next (by simp [pickOps]; rfl) ?_
    repeat (go_big_quiet_step (fail))
    refine wpQuiet_nil ?_
    refine wpOp_skip rfl rfl ⟨Ext.refl _, ?_⟩
    go_simp
    refine wpSegs_next (by simp [pickOps]; rfl) ?_
    repeat (go_big_quiet_step (fail))
    refine wpQuiet_nil ?_
    refine wpOp_skip rfl rfl ⟨Ext.refl _, ?_⟩
    go_simp
    refine wpSegs_next (by simp [pickOps]; rfl) ?_
    repeat (go_big_quiet_step (fail))
    refine wpQuiet_nil ?_
    refine wpOp_skip rfl rfl ⟨Ext.refl _, ?_⟩
    go_simp
    refine wpSegs_next (by simp [pickOps]; rfl) ?_
    repeat (go_big_quiet_step (fail))
    refine wpQuiet_nil ?_
    refine wpOp_skip rfl rfl ⟨Ext.refl _, ?_⟩
    go_simp
    refine wpSegs_next (by simp [pickOps]; rfl) ?_
    repeat (go_big_quiet_step (fail))
    refine wpQuiet_nil ?_
    refine wpOp_skip rfl rfl ⟨Ext.refl _, ?_⟩
    go_simp
    refine wpSegs_last (by simp [pickOps]; rfl) ?_
    repeat (go_big_quiet_step (fail))
    refine wpQuiet_nil ?_
    go_wp2_with fail
    go_ret
    exact ⟨by rw [← HR.out]; rfl, d2⟩
  | true =>
    cases h2 : inB 1 1152921504606846976 p.birth with
    | false =>
      have HR := Lib.hid (right_no2 h2)
      have H1 := Lib.hid h1
      have H2 := Lib.hid h2
      clear h1 h2
      have c2 : ∀ x : Above w1.drew, x.1.cell? ⟨w.heap.size, 2, none⟩ = some (.int .i64 p.len) := r2.above (pcells_2 p)
      go_enter Try.func52, Try.ntmps52
      go_wp2_with fail
      rw [HW.out]
      refine wp_region_segs [([0, 1], 2), ([3, 5, 6], 4), ([], 7), ([8, 9, 14, 15, 10], 11), ([12], 13), ([], 16)] [17, 18] (by kernel_rfl) (by kernel_rfl) (by kernel_rfl) (by kernel_rfl) (fun _ _ d _ _ h => by cases d <;> exact h) ?_
      refine wpSegs_next (by simp [pickOps]; rfl) ?_
      repeat (go_big_quiet_step (fail))
      refine wpQuiet_nil ?_
      refine wpOp_alone rfl rfl (fun K hK => ?_)
      go_simp
      refine (isLength_any p.len true _ H1.out).mono ?_
      rintro e w2 ⟨rfl, hb2⟩
      clear c2
      have d2 := d1.trans (hb2.mono d1.size)
      have r3 := r2.keep hb2
      refine hK _ _ ⟨hb2, ?_⟩
      clear hK K hb2 d1 r2
      have c1 : ∀ x : Above w2, x.1.cell? ⟨w.heap.size, 1, none⟩ = some (.int .i64 p.birth) := r3.above (pcells_1 p)
      refine wpSegs_next (by simp [pickOps]; rfl) ?_
      repeat (go_big_quiet_step (fail))
      refine wpQuiet_nil ?_
      refine wpOp_alone rfl rfl (fun K hK => ?_)
      go_simp
      refine (within_any 1 1152921504606846976 _).mono ?_
      rintro e w3 ⟨rfl, hl3, hb3⟩
      clear c1
      have d3 := d2.trans (hb3.mono d2.size)
      have r4 := r3.keep hb3
      refine hK _ _ ⟨hb3, ?_⟩
      clear hK K hb3 d2 r3
      refine wpSegs_next (by simp [pickOps]; rfl) ?_
      repeat (go_big_quiet_step (fail))
      refine wpQuiet_nil ?_
      refine wpOp_alone rfl rfl (fun K hK => ?_)
      go_simp
      refine (look_any _ 1 1152921504606846976 p.birth false _ H2.out hl3).mono ?_
      rintro e w4 ⟨rfl, rfl⟩
      refine hK _ _ ⟨Ext.refl _, ?_⟩
      clear hK K hl3
      refine wpSegs_next (by simp [pickOps]; rfl) ?_
      repeat (go_big_quiet_step (fail))
      refine wpQuiet_nil ?_
      refine wpOp_skip rfl rfl ⟨Ext.refl _, ?_⟩
      go_simp
      refine wpSegs_next (by simp [pickOps]; rfl) ?_
      repeat (go_big_quiet_step (fail))
      refine wpQuiet_nil ?_
      refine wpOp_skip rfl rfl ⟨Ext.refl _, ?_⟩
      go_simp
      refine wpSegs_next (by simp [pickOps]; rfl) ?_
      repeat (go_big_quiet_step (fail))
      refine wpQuiet_nil ?_
      refine wpOp_skip rfl rfl ⟨Ext.refl _, ?_⟩
      go_simp
      refine wpSegs_last (by simp [pickOps]; rfl) ?_
      repeat (go_big_quiet_step (fail))
      refine wpQuiet_nil ?_
      go_wp2_with fail
      go_ret
      exact ⟨by rw [← HR.out]; rfl, d3⟩
    | true =>
      obtain ⟨v, hv⟩ : ∃ v, inB 2 (8192 - secsOf p.len) p.place = v := ⟨_, rfl⟩
      obtain ⟨sc, hsc⟩ : ∃ sc, secsOf p.len = sc := ⟨_, rfl⟩
      have hs := secs_bounds p.len
      have HR := Lib.hid (right_of h1 h2 hv)
      rw [hsc] at hs hv
      have H1 := Lib.hid h1
      have H2 := Lib.hid h2
      have H3 := Lib.hid hv
      have HC := Lib.hid hsc
      obtain ⟨hs1, hs2⟩ := hs
      have hsub : IntKind.i64.wrap (8192 - sc) = 8192 - sc := IntWalk.i64_in _ (by omega)
      clear h1 h2 hv hsc
      have c2 : ∀ x : Above w1.drew, x.1.cell? ⟨w.heap.size, 2, none⟩ = some (.int .i64 p.len) := r2.above (pcells_2 p)
      go_enter Try.func52, Try.ntmps52
      go_wp2_with fail
      rw [HW.out]
      refine wp_region_segs [([0, 1], 2), ([3, 5, 6], 4), ([], 7), ([8, 9, 14, 15, 10], 11), ([12], 13), ([], 16)] [17, 18] (by kernel_rfl) (by kernel_rfl) (by kernel_rfl) (by kernel_rfl) (fun _ _ d _ _ h => by cases d <;> exact h) ?_
      refine wpSegs_next (by simp [pickOps]; rfl) ?_
      repeat (go_big_quiet_step (fail))
      refine wpQuiet_nil ?_
      refine wpOp_alone rfl rfl (fun K hK => ?_)
      go_simp
      refine (isLength_any p.len true _ H1.out).mono ?_
      rintro e w2 ⟨rfl, hb2⟩
      clear c2
      have d2 := d1.trans (hb2.mono d1.size)
      have r3 := r2.keep hb2
      refine hK _ _ ⟨hb2, ?_⟩
      clear hK K hb2 d1 r2
      have c1 : ∀ x : Above w2, x.1.cell? ⟨w.heap.size, 1, none⟩ = some (.int .i64 p.birth) := r3.above (pcells_1 p)
      refine wpSegs_next (by simp [pickOps]; rfl) ?_
      repeat (go_big_quiet_step (fail))
      refine wpQuiet_nil ?_
      refine wpOp_alone rfl rfl (fun K hK => ?_)
      go_simp
      refine (within_any 1 1152921504606846976 _).mono ?_
      rintro e w3 ⟨rfl, hl3, hb3⟩
      clear c1
      have d3 := d2.trans (hb3.mono d2.size)
      have r4 := r3.keep hb3
      refine hK _ _ ⟨hb3, ?_⟩
      clear hK K hb3 d2 r3
      refine wpSegs_next (by simp [pickOps]; rfl) ?_
      repeat (go_big_quiet_step (fail))
      refine wpQuiet_nil ?_
      refine wpOp_alone rfl rfl (fun K hK => ?_)
      go_simp
      refine (look_any _ 1 1152921504606846976 p.birth true _ H2.out hl3).mono ?_
      rintro e w4 ⟨rfl, rfl⟩
      refine hK _ _ ⟨Ext.refl _, ?_⟩
      clear hK K hl3
      have c0 : ∀ x : Above w3, x.1.cell? ⟨w.heap.size, 0, none⟩ = some (.int .i64 p.place) := r4.above (pcells_0 p)
      refine wpSegs_next (by simp [pickOps]; rfl) ?_
      repeat (go_big_quiet_step (fail))
      refine wpQuiet_load_cells rfl 43 (.tmp 1) rfl w.heap.size 0 rfl (pcells p) _ r4.cells r4.lt Try.underlying43 rfl Hp.out ?_
      refine wpQuiet_nil ?_
      refine wpOp_alone rfl rfl (fun K hK => ?_)
      go_simp
      refine (sectors_any p _).mono ?_
      rintro e w5 ⟨rfl, hb5⟩
      rw [HC.out]
      have d5 := d3.trans (hb5.mono d3.size)
      refine hK _ _ ⟨hb5, ?_⟩
      clear hK K hb5 d3 c0 r4
      refine wpSegs_next (by simp [pickOps]; rfl) ?_
      repeat (go_big_quiet_step (fail))
      refine wpQuiet_nil ?_
      refine wpOp_alone rfl rfl (fun K hK => ?_)
      go_simp
      refine (within_any 2 (8192 - sc) _).mono ?_
      rintro e w6 ⟨rfl, hl6, hb6⟩
      have d6 := d5.trans (hb6.mono d5.size)
      refine hK _ _ ⟨hb6, ?_⟩
      clear hK K hb6 d5 hsub
      refine wpSegs_next (by simp [pickOps]; rfl) ?_
      repeat (go_big_quiet_step (fail))
      refine wpQuiet_nil ?_
      refine wpOp_alone rfl rfl (fun K hK => ?_)
      go_simp
      refine (look_any _ 2 (8192 - sc) p.place v _ H3.out hl6).mono ?_
      rintro e w7 ⟨rfl, rfl⟩
      refine hK _ _ ⟨Ext.refl _, ?_⟩
      clear hK K hl6
      refine wpSegs_last (by simp [pickOps]; rfl) ?_
      repeat (go_big_quiet_step (fail))
      refine wpQuiet_nil ?_
      go_wp2_with fail
      go_ret
      exact ⟨by rw [← HR.out]; rfl, d6⟩
end Go.Proofs.Ytnoofmdhhlcbkaa

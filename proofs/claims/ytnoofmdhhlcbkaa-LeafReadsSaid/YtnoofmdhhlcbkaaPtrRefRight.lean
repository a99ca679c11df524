/- The document's Sectors: for any pointer; nothing that was there is written. | The document's Right: for any pointer; nothing that was there is written. -/
import Derived.Test.YtnoofmdhhlcbkaaPtr
import Derived.IntWalk

namespace Go.Proofs.Ytnoofmdhhlcbkaa
open Go.RowKit

set_option maxHeartbeats 1000000 in
theorem refSectors_any (p : Pt) (w : World) :
    Calls Try.prog 59 #[.agg (pcells p)] w fun e w' => e = .returned (.int .i64 (secsOf p.len)) ∧ Below w.heap.size w w' := by
  have r1 := Row.new w 43 (pcells p)
  have b1 : Below w.heap.size w (w.alloc (.cells (pcells p) 43)) := (Below.refl _ _).alloc (Nat.le_refl _) _
  have c2 := row_len r1
  clear r1
  by_cases h1 : p.len < 1
  · have HS := Lib.hid (show (0 : Int) = secsOf p.len by unfold secsOf lenOk; rw [if_neg (by simp; omega)])
    go_enter Try.func59, Try.ntmps59
    go_wp2_with fail
    go_ret
    exact ⟨by rw [← HS.out]; rfl, b1⟩
  · by_cases h2 : 65536 < p.len
    · have HS := Lib.hid (show (0 : Int) = secsOf p.len by unfold secsOf lenOk; rw [if_neg (by simp; omega)])
      go_enter Try.func59, Try.ntmps59
      go_wp2_with fail
      go_ret
      exact ⟨by rw [← HS.out]; rfl, b1⟩
    · have HS := Lib.hid (show (p.len + 511) / 512 = secsOf p.len by unfold secsOf lenOk; rw [if_pos (by simp; omega)])
      have l1 : 1 ≤ p.len := by omega
      have l2 : p.len ≤ 65536 := by omega
      go_enter Try.func59, Try.ntmps59
      go_wp2_with fail
      go_ret
      exact ⟨by rw [← HS.out]; rfl, b1⟩
end Go.Proofs.Ytnoofmdhhlcbkaa

namespace Go.Proofs.Ytnoofmdhhlcbkaa
open Go.RowKit

theorem refRight_no {p : Pt} (h : p.birth < 1 ∨ 1152921504606846976 < p.birth ∨ p.len < 1 ∨ 65536 < p.len ∨ p.place < 2 ∨ 8192 < p.place) : false = p.right := by
  have := secs_bounds p.len
  unfold Pt.right
  simp
  omega
theorem refRight_of {p : Pt} {v : Bool} {sc : Int} (hs : secsOf p.len = sc) (h1 : 1 ≤ p.birth) (h2 : p.birth ≤ 1152921504606846976) (h3 : 1 ≤ p.len) (h4 : p.len ≤ 65536) (h5 : 2 ≤ p.place) (hv : decide (p.place + sc ≤ 8192) = v) : v = p.right := by
  rw [← hv, ← hs]
  unfold Pt.right
  rw [Bool.eq_iff_iff, decide_eq_true_iff, decide_eq_true_iff]
  omega

set_option maxHeartbeats 2000000 in
theorem refRight_no1 (p : Pt) (w : World)  (h : p.birth < 1) :
    Calls Try.prog 48 #[.agg (pcells p)] w fun e w' => e = .returned (.bool p.right) ∧ Below w.heap.size w w' := by
  have HR := Lib.hid (refRight_no (p := p) (.inl h))
  have t1 : decide (1 ≤ p.birth) = false := by simpa using h
  have r1 := Row.new w 43 (pcells p)
  have b1 : Below w.heap.size w (w.alloc (.cells (pcells p) 43)) := (Below.refl _ _).alloc (Nat.le_refl _) _
  generalize hw1 : w.alloc (.cells (pcells p) 43) = w1 at *
  have HW := Lib.hid hw1
  clear hw1
  have d1 := b1.drew
  have r2 := r1.drew
  clear b1 r1
  have c0 : ∀ x : Above w1.drew, x.1.cell? ⟨w.heap.size, 0, none⟩ = some (.int .i64 p.place) := r2.above (pcells_0 p)
  have c1 : ∀ x : Above w1.drew, x.1.cell? ⟨w.heap.size, 1, none⟩ = some (.int .i64 p.birth) := r2.above (pcells_1 p)
  have c2 : ∀ x : Above w1.drew, x.1.cell? ⟨w.heap.size, 2, none⟩ = some (.int .i64 p.len) := r2.above (pcells_2 p)
  go_enter Try.func48, Try.ntmps48
  go_wp2_with fail
  rw [HW.out]
  refine wp_region_segs [([0, 1, 2, 3, 4, 5, 6, 7, 8, 9, 10, 11, 12, 13, 14, 15, 16, 17, 18, 19, 20, 21, 22, 23, 24, 25, 26, 27, 28, 29, 30, 31], 32)] [33, 34, 35, 36] (by kernel_rfl) (by kernel_rfl) (by kernel_rfl) (by kernel_rfl) (fun _ _ d _ _ h => by cases d <;> exact h) ?_
  refine wpSegs_next (by simp [pickOps]; rfl) ?_
  repeat (go_big_quiet_step (fail))
  refine wpQuiet_nil ?_
  refine wpOp_skip rfl rfl ⟨Ext.refl _, ?_⟩
  go_simp
  refine wpSegs_last (by simp [pickOps]; rfl) ?_
  repeat (go_big_quiet_step (fail))
  refine wpQuiet_nil ?_
  go_wp2_with fail
  go_ret
  exact ⟨by rw [← HR.out]; rfl, d1⟩
set_option maxHeartbeats 2000000 in
theorem refRight_no2 (p : Pt) (w : World) (h1 : 1 ≤ p.birth) (h : 1152921504606846976 < p.birth) :
    Calls Try.prog 48 #[.agg (pcells p)] w fun e w' => e = .returned (.bool p.right) ∧ Below w.heap.size w w' := by
  have HR := Lib.hid (refRight_no (p := p) (.inr (.inl h)))
  have t1 : decide (1 ≤ p.birth) = true := by simpa using h1
  have t2 : decide (p.birth ≤ 1152921504606846976) = false := by simpa using h
  have r1 := Row.new w 43 (pcells p)
  have b1 : Below w.heap.size w (w.alloc (.cells (pcells p) 43)) := (Below.refl _ _).alloc (Nat.le_refl _) _
  generalize hw1 : w.alloc (.cells (pcells p) 43) = w1 at *
  have HW := Lib.hid hw1
  clear hw1
  have d1 := b1.drew
  have r2 := r1.drew
  clear b1 r1
  have c0 : ∀ x : Above w1.drew, x.1.cell? ⟨w.heap.size, 0, none⟩ = some (.int .i64 p.place) := r2.above (pcells_0 p)
  have c1 : ∀ x : Above w1.drew, x.1.cell? ⟨w.heap.size, 1, none⟩ = some (.int .i64 p.birth) := r2.above (pcells_1 p)
  have c2 : ∀ x : Above w1.drew, x.1.cell? ⟨w.heap.size, 2, none⟩ = some (.int .i64 p.len) := r2.above (pcells_2 p)
  go_enter Try.func48, Try.ntmps48
  go_wp2_with fail
  rw [HW.out]
  refine wp_region_segs [([0, 1, 2, 3, 4, 5, 6, 7, 8, 9, 10, 11, 12, 13, 14, 15, 16, 17, 18, 19, 20, 21, 22, 23, 24, 25, 26, 27, 28, 29, 30, 31], 32)] [33, 34, 35, 36] (by kernel_rfl) (by kernel_rfl) (by kernel_rfl) (by kernel_rfl) (fun _ _ d _ _ h => by cases d <;> exact h) ?_
  refine wpSegs_next (by simp [pickOps]; rfl) ?_
  repeat (go_big_quiet_step (fail))
  refine wpQuiet_nil ?_
  refine wpOp_skip rfl rfl ⟨Ext.refl _, ?_⟩
  go_simp
  refine wpSegs_last (by simp [pickOps]; rfl) ?_
  repeat (go_big_quiet_step (fail))
  refine wpQuiet_nil ?_
  go_wp2_with fail
  go_ret
  exact ⟨by rw [← HR.out]; rfl, d1⟩
set_option maxHeartbeats 2000000 in
theorem refRight_no3 (p : Pt) (w : World) (h1 : 1 ≤ p.birth) (h2 : p.birth ≤ 1152921504606846976) (h : p.len < 1) :
    Calls Try.prog 48 #[.agg (pcells p)] w fun e w' => e = .returned (.bool p.right) ∧ Below w.heap.size w w' := by
  have HR := Lib.hid (refRight_no (p := p) (.inr (.inr (.inl h))))
  have t1 : decide (1 ≤ p.birth) = true := by simpa using h1
  have t2 : decide (p.birth ≤ 1152921504606846976) = true := by simpa using h2
  have t3 : decide (1 ≤ p.len) = false := by simpa using h
  have r1 := Row.new w 43 (pcells p)
  have b1 : Below w.heap.size w (w.alloc (.cells (pcells p) 43)) := (Below.refl _ _).alloc (Nat.le_refl _) _
  generalize hw1 : w.alloc (.cells (pcells p) 43) = w1 at *
  have HW := Lib.hid hw1
  clear hw1
  have d1 := b1.drew
  have r2 := r1.drew
  clear b1 r1
  have c0 : ∀ x : Above w1.drew, x.1.cell? ⟨w.heap.size, 0, none⟩ = some (.int .i64 p.place) := r2.above (pcells_0 p)
  have c1 : ∀ x : Above w1.drew, x.1.cell? ⟨w.heap.size, 1, none⟩ = some (.int .i64 p.birth) := r2.above (pcells_1 p)
  have c2 : ∀ x : Above w1.drew, x.1.cell? ⟨w.heap.size, 2, none⟩ = some (.int .i64 p.len) := r2.above (pcells_2 p)
  go_enter Try.func48, Try.ntmps48
  go_wp2_with fail
  rw [HW.out]
  refine wp_region_segs [([0, 1, 2, 3, 4, 5, 6, 7, 8, 9, 10, 11, 12, 13, 14, 15, 16, 17, 18, 19, 20, 21, 22, 23, 24, 25, 26, 27, 28, 29, 30, 31], 32)] [33, 34, 35, 36] (by kernel_rfl) (by kernel_rfl) (by kernel_rfl) (by kernel_rfl) (fun _ _ d _ _ h => by cases d <;> exact h) ?_
  refine wpSegs_next (by simp [pickOps]; rfl) ?_
  repeat (go_big_quiet_step (fail))
  refine wpQuiet_nil ?_
  refine wpOp_skip rfl rfl ⟨Ext.refl _, ?_⟩
  go_simp
  refine wpSegs_last (by simp [pickOps]; rfl) ?_
  repeat (go_big_quiet_step (fail))
  refine wpQuiet_nil ?_
  go_wp2_with fail
  go_ret
  exact ⟨by rw [← HR.out]; rfl, d1⟩
set_option maxHeartbeats 2000000 in
theorem refRight_no4 (p : Pt) (w : World) (h1 : 1 ≤ p.birth) (h2 : p.birth ≤ 1152921504606846976) (h3 : 1 ≤ p.len) (h : 65536 < p.len) :
    Calls Try.prog 48 #[.agg (pcells p)] w fun e w' => e = .returned (.bool p.right) ∧ Below w.heap.size w w' := by
  have HR := Lib.hid (refRight_no (p := p) (.inr (.inr (.inr (.inl h)))))
  have t1 : decide (1 ≤ p.birth) = true := by simpa using h1
  have t2 : decide (p.birth ≤ 1152921504606846976) = true := by simpa using h2
  have t3 : decide (1 ≤ p.len) = true := by simpa using h3
  have t4 : decide (p.len ≤ 65536) = false := by simpa using h
  have r1 := Row.new w 43 (pcells p)
  have b1 : Below w.heap.size w (w.alloc (.cells (pcells p) 43)) := (Below.refl _ _).alloc (Nat.le_refl _) _
  generalize hw1 : w.alloc (.cells (pcells p) 43) = w1 at *
  have HW := Lib.hid hw1
  clear hw1
  have d1 := b1.drew
  have r2 := r1.drew
  clear b1 r1
  have c0 : ∀ x : Above w1.drew, x.1.cell? ⟨w.heap.size, 0, none⟩ = some (.int .i64 p.place) := r2.above (pcells_0 p)
  have c1 : ∀ x : Above w1.drew, x.1.cell? ⟨w.heap.size, 1, none⟩ = some (.int .i64 p.birth) := r2.above (pcells_1 p)
  have c2 : ∀ x : Above w1.drew, x.1.cell? ⟨w.heap.size, 2, none⟩ = some (.int .i64 p.len) := r2.above (pcells_2 p)
  go_enter Try.func48, Try.ntmps48
  go_wp2_with fail
  rw [HW.out]
  refine wp_region_segs [([0, 1, 2, 3, 4, 5, 6, 7, 8, 9, 10, 11, 12, 13, 14, 15, 16, 17, 18, 19, 20, 21, 22, 23, 24, 25, 26, 27, 28, 29, 30, 31], 32)] [33, 34, 35, 36] (by kernel_rfl) (by kernel_rfl) (by kernel_rfl) (by kernel_rfl) (fun _ _ d _ _ h => by cases d <;> exact h) ?_
  refine wpSegs_next (by simp [pickOps]; rfl) ?_
  repeat (go_big_quiet_step (fail))
  refine wpQuiet_nil ?_
  refine wpOp_skip rfl rfl ⟨Ext.refl _, ?_⟩
  go_simp
  refine wpSegs_last (by simp [pickOps]; rfl) ?_
  repeat (go_big_quiet_step (fail))
  refine wpQuiet_nil ?_
  go_wp2_with fail
  go_ret
  exact ⟨by rw [← HR.out]; rfl, d1⟩
set_option maxHeartbeats 2000000 in
theorem refRight_no5 (p : Pt) (w : World) (h1 : 1 ≤ p.birth) (h2 : p.birth ≤ 1152921504606846976) (h3 : 1 ≤ p.len) (h4 : p.len ≤ 65536) (h : p.place < 2) :
    Calls Try.prog 48 #[.agg (pcells p)] w fun e w' => e = .returned (.bool p.right) ∧ Below w.heap.size w w' := by
  have HR := Lib.hid (refRight_no (p := p) (.inr (.inr (.inr (.inr (.inl h))))))
  have t1 : decide (1 ≤ p.birth) = true := by simpa using h1
  have t2 : decide (p.birth ≤ 1152921504606846976) = true := by simpa using h2
  have t3 : decide (1 ≤ p.len) = true := by simpa using h3
  have t4 : decide (p.len ≤ 65536) = true := by simpa using h4
  have t5 : decide (2 ≤ p.place) = false := by simpa using h
  have r1 := Row.new w 43 (pcells p)
  have b1 : Below w.heap.size w (w.alloc (.cells (pcells p) 43)) := (Below.refl _ _).alloc (Nat.le_refl _) _
  generalize hw1 : w.alloc (.cells (pcells p) 43) = w1 at *
  have HW := Lib.hid hw1
  clear hw1
  have d1 := b1.drew
  have r2 := r1.drew
  clear b1 r1
  have c0 : ∀ x : Above w1.drew, x.1.cell? ⟨w.heap.size, 0, none⟩ = some (.int .i64 p.place) := r2.above (pcells_0 p)
  have c1 : ∀ x : Above w1.drew, x.1.cell? ⟨w.heap.size, 1, none⟩ = some (.int .i64 p.birth) := r2.above (pcells_1 p)
  have c2 : ∀ x : Above w1.drew, x.1.cell? ⟨w.heap.size, 2, none⟩ = some (.int .i64 p.len) := r2.above (pcells_2 p)
  go_enter Try.func48, Try.ntmps48
  go_wp2_with fail
  rw [HW.out]
  refine wp_region_segs [([0, 1, 2, 3, 4, 5, 6, 7, 8, 9, 10, 11, 12, 13, 14, 15, 16, 17, 18, 19, 20, 21, 22, 23, 24, 25, 26, 27, 28, 29, 30, 31], 32)] [33, 34, 35, 36] (by kernel_rfl) (by kernel_rfl) (by kernel_rfl) (by kernel_rfl) (fun _ _ d _ _ h => by cases d <;> exact h) ?_
  refine wpSegs_next (by simp [pickOps]; rfl) ?_
  repeat (go_big_quiet_step (fail))
  refine wpQuiet_nil ?_
  refine wpOp_skip rfl rfl ⟨Ext.refl _, ?_⟩
  go_simp
  refine wpSegs_last (by simp [pickOps]; rfl) ?_
  repeat (go_big_quiet_step (fail))
  refine wpQuiet_nil ?_
  go_wp2_with fail
  go_ret
  exact ⟨by rw [← HR.out]; rfl, d1⟩
set_option maxHeartbeats 2000000 in
theorem refRight_no6 (p : Pt) (w : World) (h1 : 1 ≤ p.birth) (h2 : p.birth ≤ 1152921504606846976) (h3 : 1 ≤ p.len) (h4 : p.len ≤ 65536) (h5 : 2 ≤ p.place) (h : 8192 < p.place) :
    Calls Try.prog 48 #[.agg (pcells p)] w fun e w' => e = .returned (.bool p.right) ∧ Below w.heap.size w w' := by
  have HR := Lib.hid (refRight_no (p := p) (.inr (.inr (.inr (.inr (.inr h))))))
  have t1 : decide (1 ≤ p.birth) = true := by simpa using h1
  have t2 : decide (p.birth ≤ 1152921504606846976) = true := by simpa using h2
  have t3 : decide (1 ≤ p.len) = true := by simpa using h3
  have t4 : decide (p.len ≤ 65536) = true := by simpa using h4
  have t5 : decide (2 ≤ p.place) = true := by simpa using h5
  have t6 : decide (p.place ≤ 8192) = false := by simpa using h
  have r1 := Row.new w 43 (pcells p)
  have b1 : Below w.heap.size w (w.alloc (.cells (pcells p) 43)) := (Below.refl _ _).alloc (Nat.le_refl _) _
  generalize hw1 : w.alloc (.cells (pcells p) 43) = w1 at *
  have HW := Lib.hid hw1
  clear hw1
  have d1 := b1.drew
  have r2 := r1.drew
  clear b1 r1
  have c0 : ∀ x : Above w1.drew, x.1.cell? ⟨w.heap.size, 0, none⟩ = some (.int .i64 p.place) := r2.above (pcells_0 p)
  have c1 : ∀ x : Above w1.drew, x.1.cell? ⟨w.heap.size, 1, none⟩ = some (.int .i64 p.birth) := r2.above (pcells_1 p)
  have c2 : ∀ x : Above w1.drew, x.1.cell? ⟨w.heap.size, 2, none⟩ = some (.int .i64 p.len) := r2.above (pcells_2 p)
  go_enter Try.func48, Try.ntmps48
  go_wp2_with fail
  rw [HW.out]
  refine wp_region_segs [([0, 1, 2, 3, 4, 5, 6, 7, 8, 9, 10, 11, 12, 13, 14, 15, 16, 17, 18, 19, 20, 21, 22, 23, 24, 25, 26, 27, 28, 29, 30, 31], 32)] [33, 34, 35, 36] (by kernel_rfl) (by kernel_rfl) (by kernel_rfl) (by kernel_rfl) (fun _ _ d _ _ h => by cases d <;> exact h) ?_
  refine wpSegs_next (by simp [pickOps]; rfl) ?_
  repeat (go_big_quiet_step (fail))
  refine wpQuiet_nil ?_
  refine wpOp_skip rfl rfl ⟨Ext.refl _, ?_⟩
  go_simp
  refine wpSegs_last (by simp [pickOps]; rfl) ?_
  repeat (go_big_quiet_step (fail))
  refine wpQuiet_nil ?_
  go_wp2_with fail
  go_ret
  exact ⟨by rw [← HR.out]; rfl, d1⟩
set_option maxHeartbeats 2000000 in
theorem refRight_in (p : Pt) (w : World) (hp : p.Ok) (h1 : 1 ≤ p.birth) (h2 : p.birth ≤ 1152921504606846976) (h3 : 1 ≤ p.len) (h4 : p.len ≤ 65536) (h5 : 2 ≤ p.place) (h6 : p.place ≤ 8192) :
    Calls Try.prog 48 #[.agg (pcells p)] w fun e w' => e = .returned (.bool p.right) ∧ Below w.heap.size w w' := by
  obtain ⟨sc, hsc⟩ : ∃ sc, secsOf p.len = sc := ⟨_, rfl⟩
  obtain ⟨v, hv⟩ : ∃ v, decide (p.place + sc ≤ 8192) = v := ⟨_, rfl⟩
  have HR := Lib.hid (refRight_of hsc h1 h2 h3 h4 h5 hv)
  have Hp := Lib.hid (pt_size hp.shaL)
  obtain ⟨s1, s2⟩ := secs_bounds p.len
  rw [hsc] at s1 s2
  have HC := Lib.hid hsc
  have hadd : IntKind.i64.wrap (p.place + sc) = p.place + sc := IntWalk.i64_in _ (by omega)
  clear hsc hp
  have t1 : decide (1 ≤ p.birth) = true := by simpa using h1
  have t2 : decide (p.birth ≤ 1152921504606846976) = true := by simpa using h2
  have t3 : decide (1 ≤ p.len) = true := by simpa using h3
  have t4 : decide (p.len ≤ 65536) = true := by simpa using h4
  have t5 : decide (2 ≤ p.place) = true := by simpa using h5
  have t6 : decide (p.place ≤ 8192) = true := by simpa using h6
  have r1 := Row.new w 43 (pcells p)
  have b1 : Below w.heap.size w (w.alloc (.cells (pcells p) 43)) := (Below.refl _ _).alloc (Nat.le_refl _) _
  generalize hw1 : w.alloc (.cells (pcells p) 43) = w1 at *
  have HW := Lib.hid hw1
  clear hw1
  have d1 := b1.drew
  have r2 := r1.drew
  clear b1 r1
  have c0 : ∀ x : Above w1.drew, x.1.cell? ⟨w.heap.size, 0, none⟩ = some (.int .i64 p.place) := r2.above (pcells_0 p)
  have c1 : ∀ x : Above w1.drew, x.1.cell? ⟨w.heap.size, 1, none⟩ = some (.int .i64 p.birth) := r2.above (pcells_1 p)
  have c2 : ∀ x : Above w1.drew, x.1.cell? ⟨w.heap.size, 2, none⟩ = some (.int .i64 p.len) := r2.above (pcells_2 p)
  go_enter Try.func48, Try.ntmps48
  go_wp2_with fail
  rw [HW.out]
  refine wp_region_segs [([0, 1, 2, 3, 4, 5, 6, 7, 8, 9, 10, 11, 12, 13, 14, 15, 16, 17, 18, 19, 20, 21, 22, 23, 24, 25, 26, 27, 28, 29, 30, 31], 32)] [33, 34, 35, 36] (by kernel_rfl) (by kernel_rfl) (by kernel_rfl) (by kernel_rfl) (fun _ _ d _ _ h => by cases d <;> exact h) ?_
  refine wpSegs_next (by simp [pickOps]; rfl) ?_
  repeat (go_big_quiet_step (fail))
  refine wpQuiet_load_cells rfl 43 (.tmp 1) rfl w.heap.size 0 rfl (pcells p) _ r2.cells r2.lt Try.underlying43 rfl Hp.out ?_
  refine wpQuiet_nil ?_
  refine wpOp_alone rfl rfl (fun K hK => ?_)
  go_simp
  refine (refSectors_any p _).mono ?_
  rintro e w2 ⟨rfl, hb2⟩
  rw [HC.out]
  have d2 := d1.trans (hb2.mono d1.size)
  refine hK _ _ ⟨hb2, ?_⟩
  clear hK K hb2 d1 c0 c1 c2 r2
  refine wpSegs_last (by simp [pickOps]; rfl) ?_
  repeat (go_big_quiet_step (fail))
  refine wpQuiet_nil ?_
  go_wp2_with fail
  go_ret
  exact ⟨by rw [← HR.out]; rfl, d2⟩
theorem refRight_any (p : Pt) (w : World) (hp : p.Ok) :
    Calls Try.prog 48 #[.agg (pcells p)] w fun e w' => e = .returned (.bool p.right) ∧ Below w.heap.size w w' := by
  by_cases h1 : 1 ≤ p.birth
  · by_cases h2 : p.birth ≤ 1152921504606846976
    · by_cases h3 : 1 ≤ p.len
      · by_cases h4 : p.len ≤ 65536
        · by_cases h5 : 2 ≤ p.place
          · by_cases h6 : p.place ≤ 8192
            · exact refRight_in p w hp h1 h2 h3 h4 h5 h6
            · exact refRight_no6 p w h1 h2 h3 h4 h5 (by omega)
          · exact refRight_no5 p w h1 h2 h3 h4 (by omega)
        · exact refRight_no4 p w h1 h2 h3 (by omega)
      · exact refRight_no3 p w h1 h2 (by omega)
    · exact refRight_no2 p w h1 (by omega)
  · exact refRight_no1 p w  (by omega)
end Go.Proofs.Ytnoofmdhhlcbkaa

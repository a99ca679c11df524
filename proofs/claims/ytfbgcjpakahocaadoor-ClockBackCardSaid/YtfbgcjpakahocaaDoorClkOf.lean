/- Of, Seconds and Weekday, of any number and any time: the time of so many seconds, or none; its seconds, or none; its day of the week, or -1. Nothing that was there is written. Conditions: the listed tables lie where they were laid. -/
import Derived.Test.YtfbgcjpakahocaaDoorClkDate
namespace Go.Proofs.YtfbgcjpakahocaaDoor
open Go.RowKit
namespace Clk

/-- What Of tells. -/
def OfTo (n : Int) (e : Ending) : Prop :=
  (∃ t : Tm, t.Right ∧ t.secs = n ∧ e = .returned (.tuple #[tmV t, .bool true])) ∨ (¬ (-62135596800 ≤ n ∧ n ≤ 253402300799) ∧ e = .returned (.tuple #[tmV Tm.zero, .bool false]))
/-- What Seconds tells. -/
def secV (t : Tm) : Value := .tuple #[.int .i64 (if t.Right then t.secs else 0), .bool (rightB t)]
/-- What Weekday tells. -/
def wdI (t : Tm) : Int := if t.Right then t.wd else -1
theorem rightB_yes {t : Tm} (h : t.Right) : rightB t = true := decide_eq_true h
theorem rightB_no {t : Tm} (h : ¬ t.Right) : rightB t = false := decide_eq_false h

set_option maxRecDepth 100000 in
set_option maxHeartbeats 1000000 in
theorem seconds_any (t : Tm) (w : World) (ht : Tabs w) : Calls Tryd.prog 9 #[tmV t] w fun e w' => e = .returned (secV t) ∧ Below w.heap.size w w' := by
  have Ht := Lib.hid ht
  clear ht
  have HP := Lib.hid (fun (w' : World) (h : Tabs w') => right_any t w' h)
  have HN := Lib.hid (fun (w' : World) (h : Tabs w') (hr : t.Right) => count_any t w' h hr)
  unfold tmV at HP HN ⊢
  by_cases hr : t.Right
  · have HE : Hid (secV t = .tuple #[.int .i64 ((t.days - 719162) * 86400 + t.h * 3600 + t.i * 60 + t.s), .bool true]) := Lib.hid (by unfold secV; rw [if_pos hr, rightB_yes hr]; rfl)
    have d0 := days_range hr
    obtain ⟨h0, i0, s0⟩ := hr.2.2.2
    obtain ⟨d0, d1⟩ := d0
    have HN1 := Lib.hid (fun w' h => HN.out w' h hr)
    rw [rightB_yes hr] at HP
    obtain ⟨h0, h1⟩ := h0
    obtain ⟨i0, i1⟩ := i0
    obtain ⟨s0, s1⟩ := s0
    clear hr HN
    generalize t.days = N at *
    go_enter Tryd.func9, Tryd.ntmps9
    go_wp2_with (first
      | (refine wpList_boxT ttP rfl (.tmp 0) rfl t rfl ?_; intro W r1 b1 z1; clear z1; have HT1 := Lib.hid (Ht.out.keep b1); have HB1 := Lib.hid b1; clear b1)
      | (refine wpList_loadT ttP (.tmp 1) rfl rfl w.heap.size rfl t r1 ?_))
    refine (HP.out _ HT1.out).mono ?_
    rintro e w2 ⟨rfl, hb2⟩
    have HR2 := Lib.hid (r1.keep hb2)
    have HT2 := Lib.hid (HT1.out.keep hb2)
    have HB2 := Lib.hid (HB1.out.trans (hb2.mono HB1.out.size))
    clear r1 hb2 HT1 HB1 HP Ht
    go_wp2_with fail
    obtain ⟨_, _, _, a3, a4, a5⟩ : (∀ x : Above w2.drew, x.1.cell? ⟨w.heap.size, 0, none⟩ = some (.int .i64 t.y)) ∧ True ∧ True ∧ (∀ x : Above w2.drew, x.1.cell? ⟨w.heap.size, 3, none⟩ = some (.int .i64 t.h)) ∧ (∀ x : Above w2.drew, x.1.cell? ⟨w.heap.size, 4, none⟩ = some (.int .i64 t.i)) ∧ (∀ x : Above w2.drew, x.1.cell? ⟨w.heap.size, 5, none⟩ = some (.int .i64 t.s)) :=
      ⟨HR2.out.drew.above rfl, trivial, trivial, HR2.out.drew.above rfl, HR2.out.drew.above rfl, HR2.out.drew.above rfl⟩
    refine wp_region_segs [([0, 4, 5, 6, 8, 9, 10, 12, 13], 1)] [2, 3, 7, 11, 14, 15, 16] (by kernel_rfl) (by kernel_rfl) (by kernel_rfl) (by kernel_rfl) (fun _ _ d _ _ h => by cases d <;> exact h) ?_
    refine wpSegs_next (by simp [pickOps]; rfl) ?_
    refine wpQuiet_loadT ttP (.tmp 1) rfl rfl w.heap.size rfl t HR2.out.drew ?_
    go_simp
    repeat (go_big_quiet_step (fail))
    refine wpQuiet_nil ?_
    refine wpOp_alone rfl rfl (fun K hK => ?_)
    go_simp
    refine (HN1.out _ (HT2.out.keep (below_drewN (Below.refl _ _) 1))).mono ?_
    rintro e w3 ⟨rfl, hb3⟩
    refine hK _ _ ⟨hb3, ?_⟩
    have HB3 := Lib.hid (HB2.out.trans ((below_drewN (Below.refl _ w2) 1).trans hb3 |>.mono HB2.out.size))
    clear hK K a3 a4 a5 hb3
    refine wpSegs_last (by simp [pickOps]; rfl) ?_
    repeat (go_big_quiet_step (fail))
    refine wpQuiet_nil ?_
    go_wp2_with fail
    go_ret2
    exact ⟨by rw [HE.out]; rfl, HB3.out⟩
  · have HE : Hid (secV t = .tuple #[.int .i64 0, .bool false]) := Lib.hid (by unfold secV; rw [if_neg hr, rightB_no hr])
    rw [rightB_no hr] at HP
    clear hr HN
    go_enter Tryd.func9, Tryd.ntmps9
    go_wp2_with (first
      | (refine wpList_boxT ttP rfl (.tmp 0) rfl t rfl ?_; intro W r1 b1 z1; clear z1; have HT1 := Lib.hid (Ht.out.keep b1); have HB1 := Lib.hid b1; clear b1)
      | (refine wpList_loadT ttP (.tmp 1) rfl rfl w.heap.size rfl t r1 ?_))
    refine (HP.out _ HT1.out).mono ?_
    rintro e w2 ⟨rfl, hb2⟩
    have HB2 := Lib.hid (HB1.out.trans (hb2.mono HB1.out.size))
    clear r1 hb2 HT1 HB1 HP Ht
    go_wp2_with fail
    go_ret2
    exact ⟨by rw [HE.out]; rfl, HB2.out⟩

set_option maxRecDepth 100000 in
set_option maxHeartbeats 1000000 in
theorem weekday_any (t : Tm) (w : World) (ht : Tabs w) : Calls Tryd.prog 11 #[tmV t] w fun e w' => e = .returned (.int .i64 (wdI t)) ∧ Below w.heap.size w w' := by
  have Ht := Lib.hid ht
  clear ht
  have HP := Lib.hid (fun (w' : World) (h : Tabs w') => right_any t w' h)
  have HN := Lib.hid (fun (w' : World) (h : Tabs w') (hr : t.Right) => count_any t w' h hr)
  unfold tmV at HP HN ⊢
  by_cases hr : t.Right
  · have HE : Hid (wdI t = (1 + t.days) % 7) := Lib.hid (by unfold wdI; rw [if_pos hr]; rfl)
    have d0 := days_range hr
    obtain ⟨d0, d1⟩ := d0
    have HN1 := Lib.hid (fun w' h => HN.out w' h hr)
    rw [rightB_yes hr] at HP
    clear hr HN
    generalize t.days = N at *
    go_enter Tryd.func11, Tryd.ntmps11
    go_wp2_with (first
      | (refine wpList_boxT ttP rfl (.tmp 0) rfl t rfl ?_; intro W r1 b1 z1; clear z1; have HT1 := Lib.hid (Ht.out.keep b1); have HB1 := Lib.hid b1; clear b1)
      | (refine wpList_loadT ttP (.tmp 1) rfl rfl w.heap.size rfl t r1 ?_))
    refine (HP.out _ HT1.out).mono ?_
    rintro e w2 ⟨rfl, hb2⟩
    have r2 := r1.keep hb2
    have HT2 := Lib.hid (HT1.out.keep hb2)
    have HB2 := Lib.hid (HB1.out.trans (hb2.mono HB1.out.size))
    clear r1 hb2 HT1 HB1 HP Ht
    go_wp2_with (first
      | (refine wpList_loadT ttP (.tmp 1) rfl rfl w.heap.size rfl t r2 ?_))
    refine (HN1.out _ HT2.out).mono ?_
    rintro e w3 ⟨rfl, hb3⟩
    have HB3 := Lib.hid (HB2.out.trans (hb3.mono HB2.out.size))
    clear hb3 r2 HT2 HB2 HN1
    go_wp2_with fail
    go_ret
    exact ⟨by rw [HE.out]; rfl, HB3.out⟩
  · have HE : Hid (wdI t = -1) := Lib.hid (by unfold wdI; rw [if_neg hr])
    rw [rightB_no hr] at HP
    clear hr HN
    go_enter Tryd.func11, Tryd.ntmps11
    go_wp2_with (first
      | (refine wpList_boxT ttP rfl (.tmp 0) rfl t rfl ?_; intro W r1 b1 z1; clear z1; have HT1 := Lib.hid (Ht.out.keep b1); have HB1 := Lib.hid b1; clear b1)
      | (refine wpList_loadT ttP (.tmp 1) rfl rfl w.heap.size rfl t r1 ?_))
    refine (HP.out _ HT1.out).mono ?_
    rintro e w2 ⟨rfl, hb2⟩
    have HB2 := Lib.hid (HB1.out.trans (hb2.mono HB1.out.size))
    clear r1 hb2 HT1 HB1 HP Ht
    go_wp2_with fail
    go_ret
    exact ⟨by rw [HE.out]; rfl, HB2.out⟩
end Clk
end Go.Proofs.YtfbgcjpakahocaaDoor

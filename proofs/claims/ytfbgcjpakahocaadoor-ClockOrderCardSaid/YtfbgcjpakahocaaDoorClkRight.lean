/- Whether a time is right, by the program. Nothing that was there is written. Conditions: the listed tables lie where they were laid. -/
import Derived.Test.YtfbgcjpakahocaaDoorClkSmall
namespace Go.Proofs.YtfbgcjpakahocaaDoor
open Go.RowKit
namespace Clk

/-- A time as cells, and as a value. -/
def tmC (t : Tm) : Array Value := #[.int .i64 t.y, .int .i64 t.m, .int .i64 t.d, .int .i64 t.h, .int .i64 t.i, .int .i64 t.s]
def tmV (t : Tm) : Value := .agg (tmC t)
/-- A time's six cells in a block. -/
structure TmAt (w : World) (g : Nat) (t : Tm) : Prop where
  y : w.cell? ⟨g, 0, none⟩ = some (.int .i64 t.y)
  m : w.cell? ⟨g, 1, none⟩ = some (.int .i64 t.m)
  d : w.cell? ⟨g, 2, none⟩ = some (.int .i64 t.d)
  h : w.cell? ⟨g, 3, none⟩ = some (.int .i64 t.h)
  i : w.cell? ⟨g, 4, none⟩ = some (.int .i64 t.i)
  s : w.cell? ⟨g, 5, none⟩ = some (.int .i64 t.s)
theorem TmAt.of {w : World} {g : Nat} {T : TypeId} {t : Tm} (h : Row w g T (tmC t)) : TmAt w g t := ⟨h.cell rfl, h.cell rfl, h.cell rfl, h.cell rfl, h.cell rfl, h.cell rfl⟩
def rightB (t : Tm) : Bool := decide t.Right
theorem right_iff (t : Tm) : rightB t = (inB 1 t.y 9999 && (inB 1 t.m 12 && (inB 1 t.d (mdI t.y t.m) && (inB 0 t.h 23 && (inB 0 t.i 59 && inB 0 t.s 59))))) := by
  have e : rightB t = true ↔ t.Right := decide_eq_true_iff
  rw [Bool.eq_iff_iff, e]
  unfold Tm.Right inB
  simp only [Bool.and_eq_true, decide_eq_true_eq]
set_option maxRecDepth 100000 in
set_option maxHeartbeats 1000000 in
theorem right_any (t : Tm) (w : World) (ht : Tabs w) : Calls Tryd.prog 32 #[tmV t] w fun e w' => e = .returned (.bool (rightB t)) ∧ Below w.heap.size w w' := by
  have Ht := Lib.hid ht
  clear ht
  have HE := Lib.hid (right_iff t)
  have HR := Lib.hid (Row.new w 23 (tmC t))
  generalize rightB t = RB at *
  unfold tmV
  unfold tmC at HR ⊢
  have HW := Lib.hid (fun (a b : Int) (w' : World) => win_any a b w')
  have HG := Lib.hid ((Below.refl w.heap.size w).alloc (Nat.le_refl _) (.cells #[.int .i64 t.y, .int .i64 t.m, .int .i64 t.d, .int .i64 t.h, .int .i64 t.i, .int .i64 t.s] 23))
  go_enter Tryd.func32, Tryd.ntmps32
  go_wp2_with fail
  generalize w.alloc (.cells #[.int .i64 t.y, .int .i64 t.m, .int .i64 t.d, .int .i64 t.h, .int .i64 t.i, .int .i64 t.s] 23) = W at *
  have HD := Lib.hid (fun (w' : World) (hb : Below W.heap.size W w') => days_any t.y t.m w' ((Ht.out.keep HG.out).keep hb))
  have T := TmAt.of (t := t) HR.out
  have a0 : ∀ x : Above W.drew, x.1.cell? ⟨w.heap.size, 0, none⟩ = some (.int .i64 t.y) := HR.out.drew.above rfl
  have a1 : ∀ x : Above W.drew, x.1.cell? ⟨w.heap.size, 1, none⟩ = some (.int .i64 t.m) := HR.out.drew.above rfl
  refine wp_region_segs [([2, 3, 4, 5], 0), ([], 1), ([], 6), ([], 7)] [8, 9, 10] (by kernel_rfl) (by kernel_rfl) (by kernel_rfl) (by kernel_rfl) (fun _ _ d _ _ h => by cases d <;> exact h) ?_
  refine wpSegs_next (by simp [pickOps]; rfl) ?_
  repeat (go_big_quiet_step (fail))
  refine wpQuiet_nil ?_
  refine wpOp_alone rfl rfl (fun K hK => ?_)
  go_simp
  refine (HW.out 1 9999 _).mono ?_
  rintro e w1 ⟨v1, rfl, hv1, hb1⟩
  refine hK _ _ ⟨hb1, ?_⟩
  clear hK K a0 a1
  refine wpSegs_next (by simp [pickOps]; rfl) ?_
  repeat (go_big_quiet_step (fail))
  refine wpQuiet_nil ?_
  refine wpOp_alone rfl rfl (fun K hK => ?_)
  go_simp
  refine (HW.out 1 12 _).mono ?_
  rintro e w2 ⟨v2, rfl, hv2, hb2⟩
  refine hK _ _ ⟨hb2, ?_⟩
  clear hK K
  have hb02 : Below W.heap.size W w2 := (below_drewN (Below.refl _ W) 1).trans (hb1.trans (hb2.mono hb1.size))
  refine wpSegs_next (by simp [pickOps]; rfl) ?_
  repeat (go_big_quiet_step (fail))
  refine wpQuiet_nil ?_
  refine wpOp_alone rfl rfl (fun K hK => ?_)
  go_simp
  refine (HD.out _ hb02).mono ?_
  rintro e w3 ⟨rfl, hb3⟩
  refine hK _ _ ⟨hb3, ?_⟩
  clear hK K
  refine wpSegs_next (by simp [pickOps]; rfl) ?_
  repeat (go_big_quiet_step (fail))
  refine wpQuiet_nil ?_
  refine wpOp_alone rfl rfl (fun K hK => ?_)
  go_simp
  refine (HW.out 1 (mdI t.y t.m) _).mono ?_
  rintro e w4 ⟨v3, rfl, hv3, hb4⟩
  refine hK _ _ ⟨hb4, ?_⟩
  clear hK K
  have hk3 := hb3.trans (hb4.mono hb3.size)
  have hk2 := hb2.trans (hk3.mono hb2.size)
  have hb5 := hb02.trans (hk3.mono hb02.size)
  have V1 := Lib.hid (hv1.keep hk2)
  have V2 := Lib.hid (hv2.keep hk3)
  have V3 := Lib.hid hv3
  have HB := Lib.hid hb5
  clear hb1 hb2 hb3 hb4 hb5 hb02 hk3 hk2 hv1 hv2 hv3
  refine wpSegs_last (by simp [pickOps]; rfl) ?_
  repeat (go_big_quiet_step (fail))
  refine wpQuiet_nil ?_
  go_wp2_with fail
  refine (HW.out 0 23 _).mono ?_
  rintro e w5 ⟨v4, rfl, hv4, hb5⟩
  go_wp2_with fail
  refine (HW.out 0 59 _).mono ?_
  rintro e w6 ⟨v5, rfl, hv5, hb6⟩
  have hk := hb5.trans (hb6.mono hb5.size)
  obtain ⟨A1, B1, rfl, p1, q1⟩ := V1.out.keep hk
  obtain ⟨A2, B2, rfl, p2, q2⟩ := V2.out.keep hk
  obtain ⟨A3, B3, rfl, p3, q3⟩ := V3.out.keep hk
  obtain ⟨A4, B4, rfl, p4, q4⟩ := hv4.keep hb6
  obtain ⟨A5, B5, rfl, p5, q5⟩ := hv5
  have HB6 := Lib.hid (HG.out.trans ((HB.out.trans (hk.mono HB.out.size)).mono HG.out.size))
  obtain ⟨c0, c1, c2, c3, c4, c5⟩ := TmAt.of (t := t) (HR.out.keep (HB.out.trans (hk.mono HB.out.size)))
  clear hk hb5 hb6 hv4 V1 V2 V3 HB HR HG HD HW T
  go_wp2_with fail
  refine (look_any A1 B1 _ 1 9999 _ p1 q1).mono ?_
  rintro e u0 ⟨rfl, rfl⟩
  generalize h0 : inB 1 t.y 9999 = E
  have H0 := Lib.hid h0
  clear h0
  cases E
  · go_wp2_with fail
    go_ret
    exact ⟨by rw [HE.out, H0.out]; rfl, HB6.out⟩
  go_wp2_with fail
  refine (look_any A2 B2 _ 1 12 _ p2 q2).mono ?_
  rintro e u1 ⟨rfl, rfl⟩
  generalize h1 : inB 1 t.m 12 = E
  have H1 := Lib.hid h1
  clear h1
  cases E
  · go_wp2_with fail
    go_ret
    exact ⟨by rw [HE.out, H0.out, H1.out]; rfl, HB6.out⟩
  go_wp2_with fail
  refine (look_any A3 B3 _ 1 (mdI t.y t.m) _ p3 q3).mono ?_
  rintro e u2 ⟨rfl, rfl⟩
  generalize h2 : inB 1 t.d (mdI t.y t.m) = E
  have H2 := Lib.hid h2
  clear h2
  cases E
  · go_wp2_with fail
    go_ret
    exact ⟨by rw [HE.out, H0.out, H1.out, H2.out]; rfl, HB6.out⟩
  go_wp2_with fail
  refine (look_any A4 B4 _ 0 23 _ p4 q4).mono ?_
  rintro e u3 ⟨rfl, rfl⟩
  generalize h3 : inB 0 t.h 23 = E
  have H3 := Lib.hid h3
  clear h3
  cases E
  · go_wp2_with fail
    go_ret
    exact ⟨by rw [HE.out, H0.out, H1.out, H2.out, H3.out]; rfl, HB6.out⟩
  go_wp2_with fail
  refine (look_any A5 B5 _ 0 59 _ p5 q5).mono ?_
  rintro e u4 ⟨rfl, rfl⟩
  generalize h4 : inB 0 t.i 59 = E
  have H4 := Lib.hid h4
  clear h4
  cases E
  · go_wp2_with fail
    go_ret
    exact ⟨by rw [HE.out, H0.out, H1.out, H2.out, H3.out, H4.out]; rfl, HB6.out⟩
  go_wp2_with fail
  refine (look_any A5 B5 _ 0 59 _ p5 q5).mono ?_
  rintro e u5 ⟨rfl, rfl⟩
  generalize h5 : inB 0 t.s 59 = E
  have H5 := Lib.hid h5
  clear h5
  cases E
  · go_wp2_with fail
    go_ret
    exact ⟨by rw [HE.out, H0.out, H1.out, H2.out, H3.out, H4.out, H5.out]; rfl, HB6.out⟩
  · go_wp2_with fail
    go_ret
    exact ⟨by rw [HE.out, H0.out, H1.out, H2.out, H3.out, H4.out, H5.out]; rfl, HB6.out⟩
end Clk
end Go.Proofs.YtfbgcjpakahocaaDoor

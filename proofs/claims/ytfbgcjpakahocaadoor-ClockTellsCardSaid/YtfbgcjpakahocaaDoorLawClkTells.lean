/- The walk of ClockTells: any seconds are the document's time, and any time its seconds, weekday and texts. Conditions: the listed tables lie where they were laid. -/
import Derived.Test.YtfbgcjpakahocaaDoorClkEq
import Derived.Test.YtfbgcjpakahocaaDoorClkWeb
import Derived.Test.YtfbgcjpakahocaaDoorClkRefOf
import Derived.Test.YtfbgcjpakahocaaDoorClkRefWeb
import Derived.Test.YtfbgcjpakahocaaDoorClkRefTell
namespace Go.Proofs.YtfbgcjpakahocaaDoor
open Go.RowKit
namespace Clk

theorem md_2000 : mdI 2000 2 = 29 := by decide
set_option maxRecDepth 100000 in
set_option maxHeartbeats 8000000 in
theorem tells_walk (n : Int) (t : Tm) (w : World) (ht : Tabs w) (hn : (Lit.int .i64 n).wf = true) :
    Calls Tryd.prog 3 #[.int .i64 n, tmV t] w fun e w' => e = .returned (.bool true) ∧ Below w.heap.size w w' := by
  have Ht := Lib.hid ht
  obtain ⟨t1, b1, A1⟩ := OfTo.all n
  have PO := Lib.hid (fun (w' : World) (h : Tabs w') => (of_any n w' h hn).mono fun e w2 hh => And.intro (A1 e hh.1) hh.2)
  have RO := Lib.hid (fun (w' : World) => (rof_any n w').mono fun e w2 hh => And.intro (A1 e hh.1) hh.2)
  obtain ⟨sv, sb, hsv⟩ : ∃ sv sb, secV t = .tuple #[.int .i64 sv, .bool sb] := ⟨_, _, rfl⟩
  have PS := Lib.hid (fun (w' : World) (h : Tabs w') => seconds_any t w' h)
  have RS := Lib.hid (fun (w' : World) => rseconds_any t w')
  have PD := Lib.hid (fun (w' : World) (h : Tabs w') => weekday_any t w' h)
  have RD := Lib.hid (fun (w' : World) => rweekday_any t w')
  have PW := Lib.hid (fun (w' : World) (h : Tabs w') => web_any t w' h)
  have RW := Lib.hid (fun (w' : World) => rweb_any t w')
  have PI := Lib.hid (fun (w' : World) (h : Tabs w') => iso_any t w' h)
  have RI := Lib.hid (fun (w' : World) => riso_any t w')
  have PH := Lib.hid (fun (w' : World) (h : Tabs w') => short_any t w' h)
  have RH := Lib.hid (fun (w' : World) => rshort_any t w')
  have PL := Lib.hid (fun (w' : World) => leap_any t.y w')
  have RL := Lib.hid (fun (w' : World) => rleap_any t.y w')
  have PM := Lib.hid (fun (w' : World) (h : Tabs w') => days_any t.y t.m w' h)
  have RM := Lib.hid (fun (w' : World) => rdays_any t.y t.m w')
  have PT := Lib.hid (fun (w' : World) (h : Tabs w') => days_any 2000 2 w' h)
  rw [md_2000] at PT
  rw [hsv] at PS RS
  clear ht A1 hsv hn
  generalize strOfNums (tellW webW t) = sW at *
  generalize strOfNums (tellW isoW t) = sI at *
  generalize strOfNums (tellW shortW t) = sS at *
  generalize wdI t = wd at *
  generalize leapB t.y = lp at *
  generalize mdI t.y t.m = md at *
  unfold tmV at PS RS PD RD PW RW PI RI PH RH ⊢
  go_enter Tryd.func3, Tryd.ntmps3
  go_wp2_with (first
    | (refine wpList_boxT ttP rfl (.tmp 1) rfl t rfl ?_; intro W0 r0 b0 z0; have HR0 := Lib.hid r0; have HB := Lib.hid b0; clear r0 b0 z0))
  refine (PO.out _ (Ht.out.keep HB.out)).mono ?_
  rintro e w1 ⟨rfl, hb1⟩
  have HR0a := Lib.hid (HR0.out.keep hb1)
  clear HR0
  have HBa := Lib.hid (HB.out.trans (hb1.mono HB.out.size))
  clear HB hb1
  unfold tmV
  go_wp2_with (first
    | (refine wpList_allocT ttP rfl rfl ?_; intro W1 rn bn zn; have HBN := Lib.hid bn; clear bn zn)
    | (refine wpList_storeT ttP rfl (.tmp 5) (.tmp 17) rfl w1.heap.size rfl t1 rfl Tm.zero ?_ ?_; exact rn; intro V1 rs1 on; have HR1 := Lib.hid rs1; have HR0 := Lib.hid (past_row HR0a.out HBN.out on); clear HR0a; have HB := Lib.hid (past_below HBa.out HBN.out on); clear rn rs1 on HBN HBa))
  refine (RO.out _).mono ?_
  rintro e w2 ⟨rfl, hb2⟩
  have HR0a := Lib.hid (HR0.out.keep hb2)
  clear HR0
  have HR1a := Lib.hid (HR1.out.keep hb2)
  clear HR1
  have HBa := Lib.hid (HB.out.trans (hb2.mono HB.out.size))
  clear HB hb2
  unfold tmV
  go_wp2_with (first
    | (refine wpList_allocT ttR rfl rfl ?_; intro W2 rn bn zn; have HBN := Lib.hid bn; clear bn zn)
    | (refine wpList_storeT ttR rfl (.tmp 7) (.tmp 22) rfl w2.heap.size rfl t1 rfl Tm.zero ?_ ?_; exact rn; intro V2 rs2 on; have HR2 := Lib.hid rs2; have HR0 := Lib.hid (past_row HR0a.out HBN.out on); clear HR0a; have HR1 := Lib.hid (past_row HR1a.out HBN.out on); clear HR1a; have HB := Lib.hid (past_below HBa.out HBN.out on); clear rn rs2 on HBN HBa)
    | (refine wpList_loadT ttP (.tmp 3) rfl rfl w.heap.size rfl t ?_ ?_; exact HR0.out))
  refine (PS.out _ (Ht.out.keep HB.out)).mono ?_
  rintro e w3 ⟨rfl, hb3⟩
  have HR0a := Lib.hid (HR0.out.keep hb3)
  clear HR0
  have HR1a := Lib.hid (HR1.out.keep hb3)
  clear HR1
  have HR2a := Lib.hid (HR2.out.keep hb3)
  clear HR2
  have HBa := Lib.hid (HB.out.trans (hb3.mono HB.out.size))
  clear HB hb3
  go_wp2_with (first
    | (refine wpList_loadT ttP (.tmp 3) rfl rfl w.heap.size rfl t ?_ ?_; exact HR0a.out)
    | (refine wpList_allocT ttR rfl rfl ?_; intro W3 rn bn zn; have HBN := Lib.hid bn; clear bn zn)
    | (refine wpList_storeT ttR rfl (.tmp 11) (.tmp 29) rfl w3.heap.size rfl t rfl Tm.zero ?_ ?_; exact rn; intro V3 rs3 on; have HR3 := Lib.hid rs3; have HR0 := Lib.hid (past_row HR0a.out HBN.out on); clear HR0a; have HR1 := Lib.hid (past_row HR1a.out HBN.out on); clear HR1a; have HR2 := Lib.hid (past_row HR2a.out HBN.out on); clear HR2a; have HB := Lib.hid (past_below HBa.out HBN.out on); clear rn rs3 on HBN HBa)
    | (refine wpList_loadT ttR (.tmp 11) rfl rfl w3.heap.size rfl t ?_ ?_; exact HR3.out))
  refine (RS.out _).mono ?_
  rintro e w4 ⟨rfl, hb4⟩
  have HR0a := Lib.hid (HR0.out.keep hb4).drew
  clear HR0
  have HR0 := HR0a
  clear HR0a
  have HR1a := Lib.hid (HR1.out.keep hb4).drew
  clear HR1
  have HR1 := HR1a
  clear HR1a
  have HR2a := Lib.hid (HR2.out.keep hb4).drew
  clear HR2
  have HR2 := HR2a
  clear HR2a
  have HR3a := Lib.hid (HR3.out.keep hb4).drew
  clear HR3
  have HR3 := HR3a
  clear HR3a
  have HBa := Lib.hid (HB.out.trans (hb4.mono HB.out.size)).drew
  clear HB hb4 PS RS
  have HB := HBa
  clear HBa
  go_wp2_with fail
  dsimp only [List.append]
  refine wp_region_segs [([0, 1, 2, 3, 4, 5, 6, 7, 8, 9, 10, 11, 12, 13, 14, 15, 16, 17, 18, 19, 21], 20), ([], 22), ([23, 24, 25, 26, 28], 27), ([], 29), ([30, 31, 32, 33, 35], 34), ([], 36), ([37, 38, 39, 40, 42], 41), ([], 43), ([44, 45, 46, 47, 48, 50, 51], 49), ([], 52), ([53, 54, 55, 56, 57, 58, 59, 61, 62, 63, 64], 60), ([], 65), ([66, 67, 68], 69)] [70, 71, 72] (by kernel_rfl) (by kernel_rfl) (by kernel_rfl) (by kernel_rfl) (fun _ _ d _ _ h => by cases d <;> exact h) ?_
  generalize w4.drew = v4 at *
  refine wpSegs_next (by simp [pickOps]; rfl) ?_
  refine wpQuiet_loadT ttP (.tmp 5) rfl rfl w1.heap.size rfl t1 HR1.out ?_
  go_simp
  refine wpQuiet_loadT ttR (.tmp 7) rfl rfl w2.heap.size rfl t1 HR2.out ?_
  go_simp
  refine wpQuiet_eqlT ttR guardR (.tmp 35) (.tmp 36) _ rfl rfl t1 t1 rfl rfl true (same_self _) ?_
  go_simp
  repeat (go_big_quiet_step (fail))
  refine wpQuiet_loadT ttP (.tmp 3) rfl rfl w.heap.size rfl t HR0.out ?_
  go_simp
  refine wpQuiet_loadT ttR (.tmp 11) rfl rfl w3.heap.size rfl t HR3.out ?_
  go_simp
  refine wpQuiet_nil ?_
  refine wpOp_alone rfl rfl (fun K hK => ?_)
  go_simp
  refine (PD.out _ (Ht.out.keep HB.out)).mono ?_
  rintro e v5 ⟨rfl, hb5⟩
  refine hK _ _ ⟨hb5, ?_⟩
  have HR0a := Lib.hid (HR0.out.keep hb5)
  clear HR0
  have HR0 := HR0a
  clear HR0a
  have HR3a := Lib.hid (HR3.out.keep hb5)
  clear HR3
  have HR3 := HR3a
  clear HR3a
  have HBa := Lib.hid (HB.out.trans (hb5.mono HB.out.size))
  clear HB hb5 hK K
  have HB := HBa
  clear HBa
  refine wpSegs_next (by simp [pickOps]; rfl) ?_
  refine wpQuiet_nil ?_
  refine wpOp_alone rfl rfl (fun K hK => ?_)
  go_simp
  refine (RD.out _).mono ?_
  rintro e v6 ⟨rfl, hb6⟩
  refine hK _ _ ⟨hb6, ?_⟩
  have HR0a := Lib.hid (HR0.out.keep hb6)
  clear HR0
  have HR0 := HR0a
  clear HR0a
  have HR3a := Lib.hid (HR3.out.keep hb6)
  clear HR3
  have HR3 := HR3a
  clear HR3a
  have HBa := Lib.hid (HB.out.trans (hb6.mono HB.out.size))
  clear HB hb6 hK K
  have HB := HBa
  clear HBa
  refine wpSegs_next (by simp [pickOps]; rfl) ?_
  repeat (go_big_quiet_step (fail))
  refine wpQuiet_loadT ttP (.tmp 3) rfl rfl w.heap.size rfl t HR0.out ?_
  go_simp
  refine wpQuiet_loadT ttR (.tmp 11) rfl rfl w3.heap.size rfl t HR3.out ?_
  go_simp
  refine wpQuiet_nil ?_
  refine wpOp_alone rfl rfl (fun K hK => ?_)
  go_simp
  refine (PW.out _ (Ht.out.keep HB.out)).mono ?_
  rintro e v7 ⟨rfl, hb7⟩
  refine hK _ _ ⟨hb7, ?_⟩
  have HR0a := Lib.hid (HR0.out.keep hb7)
  clear HR0
  have HR0 := HR0a
  clear HR0a
  have HR3a := Lib.hid (HR3.out.keep hb7)
  clear HR3
  have HR3 := HR3a
  clear HR3a
  have HBa := Lib.hid (HB.out.trans (hb7.mono HB.out.size))
  clear HB hb7 hK K
  have HB := HBa
  clear HBa
  refine wpSegs_next (by simp [pickOps]; rfl) ?_
  refine wpQuiet_nil ?_
  refine wpOp_alone rfl rfl (fun K hK => ?_)
  go_simp
  refine (RW.out _).mono ?_
  rintro e v8 ⟨rfl, hb8⟩
  refine hK _ _ ⟨hb8, ?_⟩
  have HR0a := Lib.hid (HR0.out.keep hb8)
  clear HR0
  have HR0 := HR0a
  clear HR0a
  have HR3a := Lib.hid (HR3.out.keep hb8)
  clear HR3
  have HR3 := HR3a
  clear HR3a
  have HBa := Lib.hid (HB.out.trans (hb8.mono HB.out.size))
  clear HB hb8 hK K
  have HB := HBa
  clear HBa
  refine wpSegs_next (by simp [pickOps]; rfl) ?_
  repeat (go_big_quiet_step (fail))
  refine wpQuiet_loadT ttP (.tmp 3) rfl rfl w.heap.size rfl t HR0.out ?_
  go_simp
  refine wpQuiet_loadT ttR (.tmp 11) rfl rfl w3.heap.size rfl t HR3.out ?_
  go_simp
  refine wpQuiet_nil ?_
  refine wpOp_alone rfl rfl (fun K hK => ?_)
  go_simp
  refine (PI.out _ (Ht.out.keep HB.out)).mono ?_
  rintro e v9 ⟨rfl, hb9⟩
  refine hK _ _ ⟨hb9, ?_⟩
  have HR0a := Lib.hid (HR0.out.keep hb9)
  clear HR0
  have HR0 := HR0a
  clear HR0a
  have HR3a := Lib.hid (HR3.out.keep hb9)
  clear HR3
  have HR3 := HR3a
  clear HR3a
  have HBa := Lib.hid (HB.out.trans (hb9.mono HB.out.size))
  clear HB hb9 hK K
  have HB := HBa
  clear HBa
  refine wpSegs_next (by simp [pickOps]; rfl) ?_
  refine wpQuiet_nil ?_
  refine wpOp_alone rfl rfl (fun K hK => ?_)
  go_simp
  refine (RI.out _).mono ?_
  rintro e v10 ⟨rfl, hb10⟩
  refine hK _ _ ⟨hb10, ?_⟩
  have HR0a := Lib.hid (HR0.out.keep hb10)
  clear HR0
  have HR0 := HR0a
  clear HR0a
  have HR3a := Lib.hid (HR3.out.keep hb10)
  clear HR3
  have HR3 := HR3a
  clear HR3a
  have HBa := Lib.hid (HB.out.trans (hb10.mono HB.out.size))
  clear HB hb10 hK K
  have HB := HBa
  clear HBa
  refine wpSegs_next (by simp [pickOps]; rfl) ?_
  repeat (go_big_quiet_step (fail))
  refine wpQuiet_loadT ttP (.tmp 3) rfl rfl w.heap.size rfl t HR0.out ?_
  go_simp
  refine wpQuiet_loadT ttR (.tmp 11) rfl rfl w3.heap.size rfl t HR3.out ?_
  go_simp
  refine wpQuiet_nil ?_
  refine wpOp_alone rfl rfl (fun K hK => ?_)
  go_simp
  refine (PH.out _ (Ht.out.keep HB.out)).mono ?_
  rintro e v11 ⟨rfl, hb11⟩
  refine hK _ _ ⟨hb11, ?_⟩
  have HR0a := Lib.hid (HR0.out.keep hb11)
  clear HR0
  have HR0 := HR0a
  clear HR0a
  have HR3a := Lib.hid (HR3.out.keep hb11)
  clear HR3
  have HR3 := HR3a
  clear HR3a
  have HBa := Lib.hid (HB.out.trans (hb11.mono HB.out.size))
  clear HB hb11 hK K
  have HB := HBa
  clear HBa
  refine wpSegs_next (by simp [pickOps]; rfl) ?_
  refine wpQuiet_nil ?_
  refine wpOp_alone rfl rfl (fun K hK => ?_)
  go_simp
  refine (RH.out _).mono ?_
  rintro e v12 ⟨rfl, hb12⟩
  refine hK _ _ ⟨hb12, ?_⟩
  have HR0a := Lib.hid (HR0.out.keep hb12)
  clear HR0
  have HR0 := HR0a
  clear HR0a
  have HR3a := Lib.hid (HR3.out.keep hb12)
  clear HR3
  have HR3 := HR3a
  clear HR3a
  have HBa := Lib.hid (HB.out.trans (hb12.mono HB.out.size))
  clear HB hb12 hK K
  have HB := HBa
  clear HBa
  have d0 : ∀ x : Above v12, x.1.cell? ⟨w.heap.size, 0, none⟩ = some (.int .i64 t.y) := HR0.out.above rfl
  have d1 : ∀ x : Above v12, x.1.cell? ⟨w.heap.size, 1, none⟩ = some (.int .i64 t.m) := HR0.out.above rfl
  refine wpSegs_next (by simp [pickOps]; rfl) ?_
  repeat (go_big_quiet_step (fail))
  refine wpQuiet_nil ?_
  clear d0 d1
  refine wpOp_alone rfl rfl (fun K hK => ?_)
  go_simp
  refine (PL.out _).mono ?_
  rintro e v13 ⟨rfl, rfl⟩
  refine hK _ _ ⟨Ext.refl _, ?_⟩
  clear hK K
  refine wpSegs_next (by simp [pickOps]; rfl) ?_
  refine wpQuiet_nil ?_
  refine wpOp_alone rfl rfl (fun K hK => ?_)
  go_simp
  refine (RL.out _).mono ?_
  rintro e v14 ⟨rfl, rfl⟩
  refine hK _ _ ⟨Ext.refl _, ?_⟩
  clear hK K
  have d0 : ∀ x : Above v14, x.1.cell? ⟨w.heap.size, 0, none⟩ = some (.int .i64 t.y) := HR0.out.above rfl
  have d1 : ∀ x : Above v14, x.1.cell? ⟨w.heap.size, 1, none⟩ = some (.int .i64 t.m) := HR0.out.above rfl
  refine wpSegs_next (by simp [pickOps]; rfl) ?_
  repeat (go_big_quiet_step (fail))
  refine wpQuiet_nil ?_
  clear d0 d1
  refine wpOp_alone rfl rfl (fun K hK => ?_)
  go_simp
  refine (PM.out _ (Ht.out.keep HB.out)).mono ?_
  rintro e v15 ⟨rfl, hb15⟩
  refine hK _ _ ⟨hb15, ?_⟩
  have HR0a := Lib.hid (HR0.out.keep hb15)
  clear HR0
  have HR0 := HR0a
  clear HR0a
  have HR3a := Lib.hid (HR3.out.keep hb15)
  clear HR3
  have HR3 := HR3a
  clear HR3a
  have HBa := Lib.hid (HB.out.trans (hb15.mono HB.out.size))
  clear HB hb15 hK K
  have HB := HBa
  clear HBa
  refine wpSegs_next (by simp [pickOps]; rfl) ?_
  refine wpQuiet_nil ?_
  refine wpOp_alone rfl rfl (fun K hK => ?_)
  go_simp
  refine (RM.out _).mono ?_
  rintro e v16 ⟨rfl, rfl⟩
  refine hK _ _ ⟨Ext.refl _, ?_⟩
  clear hK K
  refine wpSegs_next (by simp [pickOps]; rfl) ?_
  repeat (go_big_quiet_step (fail))
  refine wpQuiet_nil ?_
  refine wpOp_alone rfl rfl (fun K hK => ?_)
  go_simp
  refine (PT.out _ (Ht.out.keep HB.out)).mono ?_
  rintro e v17 ⟨rfl, hb17⟩
  refine hK _ _ ⟨hb17, ?_⟩
  have HR0a := Lib.hid (HR0.out.keep hb17)
  clear HR0
  have HR0 := HR0a
  clear HR0a
  have HR3a := Lib.hid (HR3.out.keep hb17)
  clear HR3
  have HR3 := HR3a
  clear HR3a
  have HBa := Lib.hid (HB.out.trans (hb17.mono HB.out.size))
  clear HB hb17 hK K
  have HB := HBa
  clear HBa
  refine wpSegs_last (by simp [pickOps]; rfl) ?_
  repeat (go_big_quiet_step (fail))
  refine wpQuiet_nil ?_
  go_wp2_with fail
  go_ret
  exact ⟨rfl, HB.out⟩
end Clk
end Go.Proofs.YtfbgcjpakahocaaDoor

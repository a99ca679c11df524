/- ExtentBack: its walk, for more than 500 spans (they are cut). No conditions but those that stand in each lemma. -/
import Derived.Test.YteofmhdbmngfcaaLawExBack
namespace Go.Proofs.Yteofmhdbmngfcaa
open Go.RowKit

set_option maxRecDepth 100000 in
set_option maxHeartbeats 8000000 in
theorem back_big (A : Option Addr) (n c : Nat) (l : List Sp) (x y : Int) (w : World) (hn : n = l.length) (hs : SpSrc w A l) (hnc : n ≤ c) (hc : c ≤ maxLen) (hsm : 500 < n) :
    Calls Try.prog 5 #[.slice A n c, .agg #[.int .i64 x, .int .i64 y]] w fun e w' => e = .returned (.bool true) ∧ Below w.heap.size w w' := by
  obtain ⟨l0, hl0⟩ : ∃ l0, l.take 500 = l0 := ⟨_, rfl⟩
  have HN : Hid (500 = l0.length) := Lib.hid (by rw [← hl0, List.length_take]; omega)
  have HS : Hid (SpSrc w A l0) := Lib.hid (by rw [← hl0]; exact hs.take 500)
  have hc5 : 500 ≤ c := by omega
  have HC := Lib.hid hc
  unfold maxLen at hc
  clear hn hs hl0
  have HV : ∀ w1, Below w.heap.size w w1 → Calls Try.prog 16 #[.slice A 500 c] w1 fun e w' => e = .returned (.bool (Spans.validB l0)) ∧ Below w1.heap.size w1 w' := fun w1 hb => valid_any A 500 c l0 w1 HN.out (HS.out.keep hb) (by omega)
  have HM : ∀ w1, Below w.heap.size w w1 → Calls Try.prog 14 #[.slice A 500 c, .agg #[.int .i64 x, .int .i64 y]] w1 fun e w' => e = .returned (.bool (Spans.meetsB l0 (x, y))) ∧ Below w1.heap.size w1 w' := fun w1 hb => meets_any A 500 c l0 x y w1 HN.out (HS.out.keep hb) (by omega)
  obtain ⟨bv, hbv⟩ : ∃ b, Spans.validB l0 = b := ⟨_, rfl⟩
  obtain ⟨bm, hbm⟩ : ∃ b, Spans.meetsB l0 (x, y) = b := ⟨_, rfl⟩
  rw [hbv] at HV
  rw [hbm] at HM
  have HV2 := Lib.hid HV
  have HM2 := Lib.hid HM
  have HBV := Lib.hid hbv
  have HBM := Lib.hid hbm
  clear HV HM hbv hbm
  cases bv
  · go_enter Try.func5, Try.ntmps5
    go_wp2_with fail
    refine (HV2.out _ ((Below.refl _ _).alloc (Nat.le_refl _) _)).mono ?_
    rintro e w1 ⟨rfl, hb1⟩
    obtain ⟨d0, d1, hb2⟩ := sp_new hb1
    clear hb1 d0 d1
    go_wp2_with fail
    refine (has_any _ 1 1 [(1, 4)] 1 4 _ rfl (spsrc_one _ _ rfl 1 4 _) (by omega)).mono ?_
    rintro e wo ⟨rfl, hbo⟩
    rw [one_has]
    have hbp := hb2.trans ((((Below.refl _ _).alloc (Nat.le_refl _) (.cells #[.int .i64 1, .int .i64 4] 24)).trans (hbo.mono (by simp))).mono hb2.size)
    clear hbo
    go_wp2_with fail
    go_ret
    exact ⟨rfl, hbp⟩
  cases bm
  case true =>
    go_enter Try.func5, Try.ntmps5
    go_wp2_with fail
    refine (HV2.out _ ((Below.refl _ _).alloc (Nat.le_refl _) _)).mono ?_
    rintro e w1 ⟨rfl, hb1⟩
    obtain ⟨d0, d1, hb2⟩ := sp_new hb1
    clear hb1
    go_wp2_with fail
    refine (HM2.out _ hb2).mono ?_
    rintro e w2 ⟨rfl, hb3⟩
    have hb4 := hb2.trans (hb3.mono hb2.size)
    clear hb3 d0 d1 hb2
    go_wp2_with fail
    refine (has_any _ 1 1 [(1, 4)] 1 4 _ rfl (spsrc_one _ _ rfl 1 4 _) (by omega)).mono ?_
    rintro e wo ⟨rfl, hbo⟩
    rw [one_has]
    have hbp := hb4.trans ((((Below.refl _ _).alloc (Nat.le_refl _) (.cells #[.int .i64 1, .int .i64 4] 24)).trans (hbo.mono (by simp))).mono hb4.size)
    clear hbo
    go_wp2_with fail
    go_ret
    exact ⟨rfl, hbp⟩
  by_cases h1 : x < 0
  · go_enter Try.func5, Try.ntmps5
    go_wp2_with fail
    refine (HV2.out _ ((Below.refl _ _).alloc (Nat.le_refl _) _)).mono ?_
    rintro e w1 ⟨rfl, hb1⟩
    have HR1 := Lib.hid (sp_row hb1)
    obtain ⟨d0, d1, hb2⟩ := sp_new hb1
    clear hb1
    go_wp2_with fail
    refine (HM2.out _ hb2).mono ?_
    rintro e w2 ⟨rfl, hb3⟩
    have HR2 := Lib.hid (HR1.out.keep hb3)
    have hb4 := hb2.trans (hb3.mono hb2.size)
    clear hb3 d0 d1 hb2 HR1
    have d0 : w2.cell? ⟨w.heap.size, 0, none⟩ = some (.int .i64 x) := HR2.out.cell (j := 0) rfl
    have d1 : w2.cell? ⟨w.heap.size, 1, none⟩ = some (.int .i64 y) := HR2.out.cell (j := 1) rfl
    go_wp2_with fail
    refine (has_any _ 1 1 [(1, 4)] 1 4 _ rfl (spsrc_one _ _ rfl 1 4 _) (by omega)).mono ?_
    rintro e wo ⟨rfl, hbo⟩
    rw [one_has]
    have hbp := hb4.trans ((((Below.refl _ _).alloc (Nat.le_refl _) (.cells #[.int .i64 1, .int .i64 4] 24)).trans (hbo.mono (by simp))).mono hb4.size)
    clear hbo
    go_wp2_with fail
    go_ret
    exact ⟨rfl, hbp⟩
  by_cases h2 : y ≤ x
  · go_enter Try.func5, Try.ntmps5
    go_wp2_with fail
    refine (HV2.out _ ((Below.refl _ _).alloc (Nat.le_refl _) _)).mono ?_
    rintro e w1 ⟨rfl, hb1⟩
    have HR1 := Lib.hid (sp_row hb1)
    obtain ⟨d0, d1, hb2⟩ := sp_new hb1
    clear hb1
    go_wp2_with fail
    refine (HM2.out _ hb2).mono ?_
    rintro e w2 ⟨rfl, hb3⟩
    have HR2 := Lib.hid (HR1.out.keep hb3)
    have hb4 := hb2.trans (hb3.mono hb2.size)
    clear hb3 d0 d1 hb2 HR1
    have d0 : w2.cell? ⟨w.heap.size, 0, none⟩ = some (.int .i64 x) := HR2.out.cell (j := 0) rfl
    have d1 : w2.cell? ⟨w.heap.size, 1, none⟩ = some (.int .i64 y) := HR2.out.cell (j := 1) rfl
    go_wp2_with fail
    refine (has_any _ 1 1 [(1, 4)] 1 4 _ rfl (spsrc_one _ _ rfl 1 4 _) (by omega)).mono ?_
    rintro e wo ⟨rfl, hbo⟩
    rw [one_has]
    have hbp := hb4.trans ((((Below.refl _ _).alloc (Nat.le_refl _) (.cells #[.int .i64 1, .int .i64 4] 24)).trans (hbo.mono (by simp))).mono hb4.size)
    clear hbo
    go_wp2_with fail
    go_ret
    exact ⟨rfl, hbp⟩
  by_cases h3 : 1099511627776 < y
  · go_enter Try.func5, Try.ntmps5
    go_wp2_with fail
    refine (HV2.out _ ((Below.refl _ _).alloc (Nat.le_refl _) _)).mono ?_
    rintro e w1 ⟨rfl, hb1⟩
    have HR1 := Lib.hid (sp_row hb1)
    obtain ⟨d0, d1, hb2⟩ := sp_new hb1
    clear hb1
    go_wp2_with fail
    refine (HM2.out _ hb2).mono ?_
    rintro e w2 ⟨rfl, hb3⟩
    have HR2 := Lib.hid (HR1.out.keep hb3)
    have hb4 := hb2.trans (hb3.mono hb2.size)
    clear hb3 d0 d1 hb2 HR1
    have d0 : w2.cell? ⟨w.heap.size, 0, none⟩ = some (.int .i64 x) := HR2.out.cell (j := 0) rfl
    have d1 : w2.cell? ⟨w.heap.size, 1, none⟩ = some (.int .i64 y) := HR2.out.cell (j := 1) rfl
    go_wp2_with fail
    refine (has_any _ 1 1 [(1, 4)] 1 4 _ rfl (spsrc_one _ _ rfl 1 4 _) (by omega)).mono ?_
    rintro e wo ⟨rfl, hbo⟩
    rw [one_has]
    have hbp := hb4.trans ((((Below.refl _ _).alloc (Nat.le_refl _) (.cells #[.int .i64 1, .int .i64 4] 24)).trans (hbo.mono (by simp))).mono hb4.size)
    clear hbo
    go_wp2_with fail
    go_ret
    exact ⟨rfl, hbp⟩
  have hR : Spans.R (x, y) := by unfold Spans.R; simp only; omega
  have hVL := (Spans.validB_iff l0).1 HBV.out
  have HASB := Lib.hid (Spans.has_added hVL hR)
  have HTOT := Lib.hid (Spans.total_added hVL hR HBM.out)
  have HBACK := Lib.hid (Spans.back hVL hR HBM.out)
  have HTB := Lib.hid (Spans.total_bounds (l := l0))
  have HAL := Lib.hid (addL_len l0 (x, y))
  clear hR hVL
  go_enter Try.func5, Try.ntmps5
  go_wp2_with fail
  refine (HV2.out _ ((Below.refl _ _).alloc (Nat.le_refl _) _)).mono ?_
  rintro e w1 ⟨rfl, hb1⟩
  have HR1 := Lib.hid (sp_row hb1)
  obtain ⟨d0, d1, hb2⟩ := sp_new hb1
  clear hb1
  go_wp2_with fail
  refine (HM2.out _ hb2).mono ?_
  rintro e w2 ⟨rfl, hb3⟩
  have HR2 := Lib.hid (HR1.out.keep hb3)
  have hb4 := hb2.trans (hb3.mono hb2.size)
  clear hb3 d0 d1 hb2 HR1
  have d0 : w2.cell? ⟨w.heap.size, 0, none⟩ = some (.int .i64 x) := HR2.out.cell (j := 0) rfl
  have d1 : w2.cell? ⟨w.heap.size, 1, none⟩ = some (.int .i64 y) := HR2.out.cell (j := 1) rfl
  go_wp2_with fail
  refine (add_any A 500 c l0 x y w2 HN.out (HS.out.keep hb4) (by omega) hc5 HC.out).mono ?_
  rintro e w3 ⟨v, rfl, A3, n3, c3, rfl, hn3, ho3, hb5⟩
  have HN3 := Lib.hid hn3
  have HS3 := Lib.hid (ho3.src.keep ((Below.refl _ _).drew))
  have HR3 := Lib.hid ((HR2.out.keep hb5).drew)
  have HB3 : Hid (Below w.heap.size w w3.drew) := Lib.hid ((hb4.trans (hb5.mono hb4.size)).drew)
  have hl3 : n3 ≤ 3 * 500 + 1 := by have := HAL.out; have := HN.out; omega
  obtain ⟨hcap3, hcm3⟩ := ho3.cap
  clear hn3 ho3 hb5 hb4 d0 d1 HR2
  go_wp2_with fail
  obtain ⟨wz, hwz⟩ : ∃ wz, w3.drew = wz := ⟨_, rfl⟩
  refine wp_region_segs [([0, 1], 2), ([3, 4, 5, 7, 9, 10, 12, 13], 6), ([], 8)] [11, 14, 15, 16] (by kernel_rfl) (by kernel_rfl) (by kernel_rfl) (by kernel_rfl) (fun _ _ d _ _ h => by cases d <;> exact h) ?_
  rw [hwz] at HS3 HR3 HB3 ⊢
  clear hwz
  refine wpSegs_next (by simp [pickOps]; rfl) ?_
  repeat (go_big_quiet_step (fail))
  refine wpQuiet_load_cells rfl 24 (.tmp 3) rfl w.heap.size 0 rfl #[.int .i64 x, .int .i64 y] _ HR3.out.cells HR3.out.lt Try.structES rfl Try.sizeES ?_
  refine wpQuiet_nil ?_
  refine wpOp_alone rfl rfl (fun K hK => ?_)
  go_simp
  refine (has_any A3 n3 c3 (Spans.addL l0 (x, y)) x y _ HN3.out HS3.out (by omega)).mono ?_
  rintro e v1 ⟨rfl, hb⟩
  rw [HASB.out]
  have HS4 := Lib.hid (HS3.out.keep hb)
  have HR4 := Lib.hid (HR3.out.keep hb)
  have HB4 := Lib.hid (HB3.out.trans (hb.mono HB3.out.size))
  refine hK _ _ ⟨hb, ?_⟩
  clear hK K hb HS3 HR3 HB3
  have c0 := above_cell (p := ⟨w.heap.size, 0, none⟩) HR4.out.lt (HR4.out.cell (j := 0) rfl)
  have c1 := above_cell (p := ⟨w.heap.size, 1, none⟩) HR4.out.lt (HR4.out.cell (j := 1) rfl)
  refine wpSegs_next (by simp [pickOps]; rfl) ?_
  repeat (go_big_quiet_step (fail))
  refine wpQuiet_nil ?_
  refine wpOp_alone rfl rfl (fun K hK => ?_)
  go_simp
  refine (total_any A3 n3 c3 (Spans.addL l0 (x, y)) _ HN3.out HS4.out (by omega)).mono ?_
  rintro e v2 ⟨rfl, hb⟩
  rw [HTOT.out]
  have HS5 := Lib.hid (HS4.out.keep hb)
  have HR5 := Lib.hid (HR4.out.keep hb)
  have HB5 := Lib.hid (HB4.out.trans (hb.mono HB4.out.size))
  refine hK _ _ ⟨hb, ?_⟩
  clear hK K hb HS4 HR4 HB4 c0 c1
  refine wpSegs_next rfl ?_
  refine wpQuiet_nil ?_
  refine wpOp_alone rfl rfl (fun K hK => ?_)
  go_simp
  refine (total_any A 500 c l0 _ HN.out (HS.out.keep HB5.out) (by omega)).mono ?_
  rintro e v3 ⟨rfl, hb⟩
  have HS6 := Lib.hid (HS5.out.keep hb)
  have HR6 := Lib.hid (HR5.out.keep hb)
  have HB6 := Lib.hid (HB5.out.trans (hb.mono HB5.out.size))
  refine hK _ _ ⟨hb, ?_⟩
  clear hK K hb HS5 HR5 HB5
  obtain ⟨t0, t1⟩ := HTB.out
  generalize Spans.totalL l0 = T at *
  have e0 : T + ((x, y).2 - (x, y).1) = T + y - x := by simp only; omega
  have e1 : IntKind.i64.wrap (T + y) = T + y := IntWalk.i64_in _ (by omega)
  have e2 : IntKind.i64.wrap (T + y - x) = T + y - x := IntWalk.i64_in _ (by omega)
  have e3 : (T + y - x != T + y - x) = false := by simp
  rw [e0]
  clear e0
  refine wpSegs_last (by simp [pickOps]; rfl) ?_
  repeat (go_big_quiet_step (fail))
  refine wpQuiet_nil ?_
  clear e1 e2 e3
  have d0 : v3.cell? ⟨w.heap.size, 0, none⟩ = some (.int .i64 x) := HR6.out.cell (j := 0) rfl
  have d1 : v3.cell? ⟨w.heap.size, 1, none⟩ = some (.int .i64 y) := HR6.out.cell (j := 1) rfl
  go_wp2_with fail
  refine (remove_any A3 n3 c3 (Spans.addL l0 (x, y)) x y _ HN3.out HS6.out (by omega)).mono ?_
  rintro e v4 ⟨v, rfl, A5, n5, c5, rfl, hn5, ho5, hb7⟩
  rw [HBACK.out] at hn5 ho5
  have h5 : 500 = n5 := by rw [hn5, ← HN.out]
  subst h5
  have HS7 := Lib.hid ho5.src
  have hb8 := HB6.out.trans (hb7.mono HB6.out.size)
  have HSL := Lib.hid (HS.out.keep hb8)
  clear hn5 ho5 hb7 d0 d1
  go_wp2_with fail
  go_loopw [7] (fun i wr => BackAt v4 l0 i wr) (fun i _ => 500 - (intOf i).toNat)
  case atStart => exact ⟨0, Nat.zero_le _, rfl, Below.refl _ _⟩
  case round =>
    obtain ⟨k, hk, rfl, hb⟩ := hrel
    have hb9 := hb8.trans (hb.mono hb8.size)
    by_cases hlt : k < (l0).length
    · obtain ⟨b, o, hA, hbl, hcell⟩ := HSL.out (by omega)
      obtain ⟨b', o', hA', hbl', hcell'⟩ := HS7.out (by omega)
      subst hA
      subst hA'
      have hszr := hb.size
      have c0 : wr.cell? ⟨b, o + k * 2, none⟩ = some (.int .i64 ((l0).getD k spZ).1) := (hb.cell (p := ⟨b, o + k * 2, none⟩) hbl).trans (hcell k hlt).1
      have c1 : wr.cell? ⟨b, o + k * 2 + 1, none⟩ = some (.int .i64 ((l0).getD k spZ).2) := (hb.cell (p := ⟨b, o + k * 2 + 1, none⟩) hbl).trans (hcell k hlt).2
      have c2 : wr.cell? ⟨b', o' + k * 2, none⟩ = some (.int .i64 ((l0).getD k spZ).1) := (hb.cell (p := ⟨b', o' + k * 2, none⟩) hbl').trans (hcell' k hlt).1
      have c3 : wr.cell? ⟨b', o' + k * 2 + 1, none⟩ = some (.int .i64 ((l0).getD k spZ).2) := (hb.cell (p := ⟨b', o' + k * 2 + 1, none⟩) hbl').trans (hcell' k hlt).2
      have hkn : k < 500 := by have := HN.out; omega
      have hki : (k : Int) < ((500 : Nat) : Int) := by omega
      clear hcell hcell'
      generalize ((l0).getD k spZ).1 = u at *
      generalize ((l0).getD k spZ).2 = v at *
      go_wp2_with fail
      go_quiet (fail)
      go_wp2_with fail
      go_roundw
      case rel => exact ⟨k + 1, by omega, by go_num, below_drewN hb _⟩
      case measure => simp [intOf]; omega
    · have hkN : 500 = k := by have := HN.out; omega
      subst hkN
      go_wp2_with fail
      go_ret
      exact ⟨rfl, hb9⟩
end Go.Proofs.Yteofmhdbmngfcaa

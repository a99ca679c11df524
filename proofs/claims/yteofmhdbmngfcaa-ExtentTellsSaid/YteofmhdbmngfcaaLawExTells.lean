/- ExtentTells: its walk, for any list of spans, any span and any number. No conditions but those that stand in each lemma. -/
import Derived.Test.YteofmhdbmngfcaaSpSame
import Derived.Test.YteofmhdbmngfcaaSpRemove
namespace Go.Proofs.Yteofmhdbmngfcaa
open Go.RowKit

theorem one_added : Spans.addL [(2, 5)] (5, 7) = [(2, 7)] := by decide +kernel
theorem Try.sizeES : (Try.prog.info? 24).map (·.size) = some 2 := by kernel_rfl
theorem Try.structES : Try.prog.underlying 24 = some (.struct (Try.prog.fieldsOf 24)) := by kernel_rfl
theorem row_cells2 {w : World} {g : Nat} {t : TypeId} {x y : Int} (h : Row w g t #[.int .i64 x, .int .i64 y]) : Cells w g 0 #[.int .i64 x, .int .i64 y] := h.cells
theorem addL_len (l : List Sp) (s : Sp) : (Spans.addL l s).length ≤ 3 * l.length + 1 := by
  unfold Spans.addL
  split
  · unfold Spans.addV
    rw [List.length_append, List.length_cons]
    have h1 := List.length_filter_le (Spans.ahead s) l
    have h2 := List.length_filter_le (Spans.behind s) l
    omega
  · omega
theorem remL_len (l : List Sp) (s : Sp) : (Spans.remL l s).length ≤ 2 * l.length := by
  unfold Spans.remL
  split
  · unfold Spans.remV
    have h1 := List.length_filter_le Spans.rightB (l.flatMap (Spans.pieces s))
    rw [pieces_len] at h1
    exact h1
  · omega

set_option maxRecDepth 100000 in
set_option maxHeartbeats 8000000 in
theorem tells_small (A : Option Addr) (n c : Nat) (l : List Sp) (x y m : Int) (w : World) (hn : n = l.length) (hs : SpSrc w A l) (hnc : n ≤ c) (hc : c ≤ maxLen) (hsm : n ≤ 500) :
    Calls Try.prog 3 #[.slice A n c, .agg #[.int .i64 x, .int .i64 y], .int .i64 m] w fun e w' => e = .returned (.bool true) ∧ Below w.heap.size w w' := by
  obtain ⟨l0, hl0⟩ : ∃ l0, l = l0 := ⟨_, rfl⟩
  subst hl0
  have HN := Lib.hid hn
  have HS := Lib.hid hs
  have hc5 : n ≤ c := hnc
  have HC := Lib.hid hc
  unfold maxLen at hc
  clear hn hs
  go_enter Try.func3, Try.ntmps3
  go_wp2_with fail
  refine (copy_any A _ c l _ HN.out (HS.out.keep ((Below.refl _ _).alloc (Nat.le_refl _) _)) (by omega)).mono ?_
  rintro e w1 ⟨v, rfl, A1, n1, c1, rfl, hn1, ho1, hb1⟩
  have HN1 := Lib.hid hn1
  have HS1 := Lib.hid ho1.src
  have HR := Lib.hid (sp_row hb1)
  obtain ⟨d0, d1, hb2⟩ := sp_new hb1
  have hsz1 := hb2.size
  have hn1' : n1 ≤ 500 := by have := HN.out; omega
  clear hb1 hn1 ho1
  go_wp2_with fail
  have hba : Below w1.heap.size w1 ((w1.alloc (.cells #[.int .i64 x, .int .i64 y] 27)).alloc (.cells #[.int .i64 2, .int .i64 5] 24)) := ((Below.refl _ _).alloc (Nat.le_refl _) _).alloc (by simp) _
  refine (add_any (some ⟨w1.heap.size + 1, 0, none⟩) 1 1 [(2, 5)] 5 7 _ rfl (spsrc_one _ _ (by simp) 2 5 _) (by omega) (by omega) (by unfold maxLen; omega)).mono ?_
  rintro e w2 ⟨v, rfl, A2, n2, c2, rfl, hn2, ho2, hb3⟩
  rw [one_added] at hn2 ho2
  have hb4 := hba.trans (hb3.mono (by simp; omega))
  have HT0 := Lib.hid ((((Row.new w1 27 #[.int .i64 x, .int .i64 y]).old (.cells #[.int .i64 2, .int .i64 5] 24)).keep hb3).drew)
  have HR0 := Lib.hid ((HR.out.keep hb4).drew)
  have HS0 : Hid (SpSrc w2.drew A1 l) := Lib.hid ((HS1.out.keep hb4).keep ((Below.refl _ _).drew))
  have HO0 : Hid (SpSrc w2.drew A2 [(2, 7)]) := Lib.hid (ho2.src.keep ((Below.refl _ _).drew))
  have hn2' : n2 = 1 := hn2
  subst hn2'
  have hb0 : Below w.heap.size w w2.drew := (hb2.trans (hb4.mono hsz1)).drew
  clear hb3 hb4 hba hn2 ho2 d0 d1 HR HS1 hb2
  go_wp2_with fail
  have HB0 := Lib.hid hb0
  clear hb0
  obtain ⟨wz, hwz⟩ : ∃ wz, w2.drew = wz := ⟨_, rfl⟩
  dsimp only [List.append]
  refine wp_region_segs [([0, 3, 1, 4], 2), ([], 5), ([], 6), ([7, 8, 11, 9, 12], 10), ([], 13), ([], 14), ([15, 16, 17, 20, 18, 21], 19), ([], 22), ([23, 24, 25, 26, 29, 27, 30], 28), ([], 31), ([32, 33, 34, 35, 37], 36), ([], 38), ([39, 40, 41, 42, 44], 43), ([], 45), ([46, 47, 48, 49, 50, 52, 53], 51), ([], 54)] [55, 56, 57, 58, 59, 60, 61, 62, 63, 64, 65, 66, 67, 68, 69] (by kernel_rfl) (by kernel_rfl) (by kernel_rfl) (by kernel_rfl) (fun _ _ d _ _ h => by cases d <;> exact h) ?_
  rw [hwz] at HT0 HR0 HS0 HO0 HB0 ⊢
  clear hwz hsz1
  refine wpSegs_next (by simp [pickOps]; rfl) ?_
  repeat (go_big_quiet_step (fail))
  refine wpQuiet_load_cells rfl 24 (.tmp 4) rfl w.heap.size 0 rfl #[.int .i64 x, .int .i64 y] _ HR0.out.cells HR0.out.lt Try.structES rfl Try.sizeES ?_
  refine wpQuiet_load_cells rfl 27 (.tmp 8) rfl w1.heap.size 0 rfl #[.int .i64 x, .int .i64 y] _ HT0.out.cells HT0.out.lt Try.structRS rfl Try.sizeRS ?_
  refine wpQuiet_nil ?_
  refine wpOp_alone rfl rfl (fun K hK => ?_)
  go_simp
  refine (add_any A _ c l x y _ HN.out (HS.out.keep HB0.out) (by omega) hc5 HC.out).mono ?_
  rintro e v1 ⟨v, rfl, A3, n3, c3, rfl, hn3, ho3, hb⟩
  have HN3 := Lib.hid hn3
  have HO3 := Lib.hid ho3.src
  clear hn3 ho3
  have HT1 := Lib.hid (HT0.out.keep hb)
  have HR1 := Lib.hid (HR0.out.keep hb)
  have HS1 := Lib.hid (HS0.out.keep hb)
  have HO1 := Lib.hid (HO0.out.keep hb)
  have HB1 := Lib.hid (HB0.out.trans (hb.mono HB0.out.size))
  refine hK _ _ ⟨hb, ?_⟩
  clear hK K hb HT0 HR0 HS0 HO0 HB0
  refine wpSegs_next rfl ?_
  refine wpQuiet_nil ?_
  refine wpOp_alone rfl rfl (fun K hK => ?_)
  go_simp
  refine (radd_any A1 n1 c1 l x y _ HN1.out HS1.out (by omega)).mono ?_
  rintro e v2 ⟨v, rfl, A4, n4, c4, rfl, hn4, ho4, hb⟩
  have HN4 := Lib.hid hn4
  have HO4 := Lib.hid ho4.src
  have HO5 := Lib.hid (HO3.out.keep hb)
  clear hn4 ho4 HO3
  have HT2 := Lib.hid (HT1.out.keep hb)
  have HR2 := Lib.hid (HR1.out.keep hb)
  have HS2 := Lib.hid (HS1.out.keep hb)
  have HO2 := Lib.hid (HO1.out.keep hb)
  have HB2 := Lib.hid (HB1.out.trans (hb.mono HB1.out.size))
  refine hK _ _ ⟨hb, ?_⟩
  clear hK K hb HT1 HR1 HS1 HO1 HB1
  refine wpSegs_next rfl ?_
  refine wpQuiet_nil ?_
  refine wpOp_alone rfl rfl (fun K hK => ?_)
  go_simp
  refine (same_yes A3 n3 c3 A4 n4 c4 _ _ HN3.out HO5.out HN4.out HO4.out (by have h := addL_len l (x, y); have := HN3.out; have := HN.out; omega)).mono ?_
  rintro e v3 ⟨rfl, hb⟩
  clear HO4 HO5 HN3 HN4
  have HT3 := Lib.hid (HT2.out.keep hb)
  have HR3 := Lib.hid (HR2.out.keep hb)
  have HS3 := Lib.hid (HS2.out.keep hb)
  have HO3 := Lib.hid (HO2.out.keep hb)
  have HB3 := Lib.hid (HB2.out.trans (hb.mono HB2.out.size))
  refine hK _ _ ⟨hb, ?_⟩
  clear hK K hb HT2 HR2 HS2 HO2 HB2
  refine wpSegs_next (by simp [pickOps]; rfl) ?_
  repeat (go_big_quiet_step (fail))
  refine wpQuiet_load_cells rfl 24 (.tmp 4) rfl w.heap.size 0 rfl #[.int .i64 x, .int .i64 y] _ HR3.out.cells HR3.out.lt Try.structES rfl Try.sizeES ?_
  refine wpQuiet_load_cells rfl 27 (.tmp 8) rfl w1.heap.size 0 rfl #[.int .i64 x, .int .i64 y] _ HT3.out.cells HT3.out.lt Try.structRS rfl Try.sizeRS ?_
  refine wpQuiet_nil ?_
  refine wpOp_alone rfl rfl (fun K hK => ?_)
  go_simp
  refine (remove_any A _ c l x y _ HN.out (HS.out.keep HB3.out) (by omega)).mono ?_
  rintro e v4 ⟨v, rfl, A3', n3', c3', rfl, hn3, ho3, hb⟩
  have HN3 := Lib.hid hn3
  have HP3 := Lib.hid ho3.src
  clear hn3 ho3
  have HT4 := Lib.hid (HT3.out.keep hb)
  have HR4 := Lib.hid (HR3.out.keep hb)
  have HS4 := Lib.hid (HS3.out.keep hb)
  have HO4 := Lib.hid (HO3.out.keep hb)
  have HB4 := Lib.hid (HB3.out.trans (hb.mono HB3.out.size))
  refine hK _ _ ⟨hb, ?_⟩
  clear hK K hb HT3 HR3 HS3 HO3 HB3
  refine wpSegs_next rfl ?_
  refine wpQuiet_nil ?_
  refine wpOp_alone rfl rfl (fun K hK => ?_)
  go_simp
  refine (rremove_any A1 n1 c1 l x y _ HN1.out HS4.out (by omega)).mono ?_
  rintro e v5 ⟨v, rfl, A4', n4', c4', rfl, hn4, ho4, hb⟩
  have HN4 := Lib.hid hn4
  have HP4 := Lib.hid ho4.src
  have HP5 := Lib.hid (HP3.out.keep hb)
  clear hn4 ho4 HP3
  have HT5 := Lib.hid (HT4.out.keep hb)
  have HR5 := Lib.hid (HR4.out.keep hb)
  have HS5 := Lib.hid (HS4.out.keep hb)
  have HO5 := Lib.hid (HO4.out.keep hb)
  have HB5 := Lib.hid (HB4.out.trans (hb.mono HB4.out.size))
  refine hK _ _ ⟨hb, ?_⟩
  clear hK K hb HT4 HR4 HS4 HO4 HB4
  refine wpSegs_next rfl ?_
  refine wpQuiet_nil ?_
  refine wpOp_alone rfl rfl (fun K hK => ?_)
  go_simp
  refine (same_yes A3' n3' c3' A4' n4' c4' _ _ HN3.out HP5.out HN4.out HP4.out (by have h := remL_len l (x, y); have := HN3.out; have := HN.out; omega)).mono ?_
  rintro e v6 ⟨rfl, hb⟩
  clear HP4 HP5 HN3 HN4
  have HT6 := Lib.hid (HT5.out.keep hb)
  have HR6 := Lib.hid (HR5.out.keep hb)
  have HS6 := Lib.hid (HS5.out.keep hb)
  have HO6 := Lib.hid (HO5.out.keep hb)
  have HB6 := Lib.hid (HB5.out.trans (hb.mono HB5.out.size))
  refine hK _ _ ⟨hb, ?_⟩
  clear hK K hb HT5 HR5 HS5 HO5 HB5
  refine wpSegs_next (by simp [pickOps]; rfl) ?_
  repeat (go_big_quiet_step (fail))
  refine wpQuiet_load_cells rfl 24 (.tmp 4) rfl w.heap.size 0 rfl #[.int .i64 x, .int .i64 y] _ HR6.out.cells HR6.out.lt Try.structES rfl Try.sizeES ?_
  refine wpQuiet_load_cells rfl 27 (.tmp 8) rfl w1.heap.size 0 rfl #[.int .i64 x, .int .i64 y] _ HT6.out.cells HT6.out.lt Try.structRS rfl Try.sizeRS ?_
  refine wpQuiet_nil ?_
  refine wpOp_alone rfl rfl (fun K hK => ?_)
  go_simp
  refine (has_any A _ c l x y _ HN.out (HS.out.keep HB6.out) (by omega)).mono ?_
  rintro e v7 ⟨rfl, hb⟩
  generalize hbh : Spans.hasB l (x, y) = bh at *
  have Hbh := Lib.hid hbh
  clear hbh
  have HT7 := Lib.hid (HT6.out.keep hb)
  have HR7 := Lib.hid (HR6.out.keep hb)
  have HS7 := Lib.hid (HS6.out.keep hb)
  have HO7 := Lib.hid (HO6.out.keep hb)
  have HB7 := Lib.hid (HB6.out.trans (hb.mono HB6.out.size))
  refine hK _ _ ⟨hb, ?_⟩
  clear hK K hb HT6 HR6 HS6 HO6 HB6
  refine wpSegs_next rfl ?_
  refine wpQuiet_nil ?_
  refine wpOp_alone rfl rfl (fun K hK => ?_)
  go_simp
  refine (rhas_any A1 n1 c1 l x y _ HN1.out HS7.out (by omega)).mono ?_
  rintro e v8 ⟨rfl, hb⟩
  rw [Hbh.out]
  clear Hbh
  have ebh : (bh == bh) = true := by simp
  have HT8 := Lib.hid (HT7.out.keep hb)
  have HR8 := Lib.hid (HR7.out.keep hb)
  have HS8 := Lib.hid (HS7.out.keep hb)
  have HO8 := Lib.hid (HO7.out.keep hb)
  have HB8 := Lib.hid (HB7.out.trans (hb.mono HB7.out.size))
  refine hK _ _ ⟨hb, ?_⟩
  clear hK K hb HT7 HR7 HS7 HO7 HB7
  refine wpSegs_next (by simp [pickOps]; rfl) ?_
  repeat (go_big_quiet_step (fail))
  refine wpQuiet_load_cells rfl 24 (.tmp 4) rfl w.heap.size 0 rfl #[.int .i64 x, .int .i64 y] _ HR8.out.cells HR8.out.lt Try.structES rfl Try.sizeES ?_
  refine wpQuiet_load_cells rfl 27 (.tmp 8) rfl w1.heap.size 0 rfl #[.int .i64 x, .int .i64 y] _ HT8.out.cells HT8.out.lt Try.structRS rfl Try.sizeRS ?_
  refine wpQuiet_nil ?_
  refine wpOp_alone rfl rfl (fun K hK => ?_)
  go_simp
  refine (meets_any A _ c l x y _ HN.out (HS.out.keep HB8.out) (by omega)).mono ?_
  rintro e v9 ⟨rfl, hb⟩
  generalize hbm : Spans.meetsB l (x, y) = bm at *
  have Hbm := Lib.hid hbm
  clear hbm
  have HT9 := Lib.hid (HT8.out.keep hb)
  have HR9 := Lib.hid (HR8.out.keep hb)
  have HS9 := Lib.hid (HS8.out.keep hb)
  have HO9 := Lib.hid (HO8.out.keep hb)
  have HB9 := Lib.hid (HB8.out.trans (hb.mono HB8.out.size))
  refine hK _ _ ⟨hb, ?_⟩
  clear hK K hb HT8 HR8 HS8 HO8 HB8
  refine wpSegs_next rfl ?_
  refine wpQuiet_nil ?_
  refine wpOp_alone rfl rfl (fun K hK => ?_)
  go_simp
  refine (rmeets_any A1 n1 c1 l x y _ HN1.out HS9.out (by omega)).mono ?_
  rintro e v10 ⟨rfl, hb⟩
  rw [Hbm.out]
  clear Hbm
  have ebm : (bm == bm) = true := by simp
  have HT10 := Lib.hid (HT9.out.keep hb)
  have HR10 := Lib.hid (HR9.out.keep hb)
  have HS10 := Lib.hid (HS9.out.keep hb)
  have HO10 := Lib.hid (HO9.out.keep hb)
  have HB10 := Lib.hid (HB9.out.trans (hb.mono HB9.out.size))
  refine hK _ _ ⟨hb, ?_⟩
  clear hK K hb HT9 HR9 HS9 HO9 HB9
  refine wpSegs_next (by simp [pickOps]; rfl) ?_
  repeat (go_big_quiet_step (fail))
  refine wpQuiet_nil ?_
  refine wpOp_alone rfl rfl (fun K hK => ?_)
  go_simp
  refine (valid_any A _ c l _ HN.out (HS.out.keep HB10.out) (by omega)).mono ?_
  rintro e v11 ⟨rfl, hb⟩
  generalize hbv : Spans.validB l = bv at *
  have Hbv := Lib.hid hbv
  clear hbv
  have HT11 := Lib.hid (HT10.out.keep hb)
  have HR11 := Lib.hid (HR10.out.keep hb)
  have HS11 := Lib.hid (HS10.out.keep hb)
  have HO11 := Lib.hid (HO10.out.keep hb)
  have HB11 := Lib.hid (HB10.out.trans (hb.mono HB10.out.size))
  refine hK _ _ ⟨hb, ?_⟩
  clear hK K hb HT10 HR10 HS10 HO10 HB10
  refine wpSegs_next rfl ?_
  refine wpQuiet_nil ?_
  refine wpOp_alone rfl rfl (fun K hK => ?_)
  go_simp
  refine (rvalid_any A1 n1 c1 l _ HN1.out HS11.out (by omega)).mono ?_
  rintro e v12 ⟨rfl, hb⟩
  rw [Hbv.out]
  clear Hbv
  have ebv : (bv == bv) = true := by simp
  have HT12 := Lib.hid (HT11.out.keep hb)
  have HR12 := Lib.hid (HR11.out.keep hb)
  have HS12 := Lib.hid (HS11.out.keep hb)
  have HO12 := Lib.hid (HO11.out.keep hb)
  have HB12 := Lib.hid (HB11.out.trans (hb.mono HB11.out.size))
  refine hK _ _ ⟨hb, ?_⟩
  clear hK K hb HT11 HR11 HS11 HO11 HB11
  refine wpSegs_next (by simp [pickOps]; rfl) ?_
  repeat (go_big_quiet_step (fail))
  refine wpQuiet_nil ?_
  refine wpOp_alone rfl rfl (fun K hK => ?_)
  go_simp
  refine (total_any A _ c l _ HN.out (HS.out.keep HB12.out) (by omega)).mono ?_
  rintro e v13 ⟨rfl, hb⟩
  generalize hbt : Spans.totalL l = bt at *
  have Hbt := Lib.hid hbt
  clear hbt
  have HT13 := Lib.hid (HT12.out.keep hb)
  have HR13 := Lib.hid (HR12.out.keep hb)
  have HS13 := Lib.hid (HS12.out.keep hb)
  have HO13 := Lib.hid (HO12.out.keep hb)
  have HB13 := Lib.hid (HB12.out.trans (hb.mono HB12.out.size))
  refine hK _ _ ⟨hb, ?_⟩
  clear hK K hb HT12 HR12 HS12 HO12 HB12
  refine wpSegs_next rfl ?_
  refine wpQuiet_nil ?_
  refine wpOp_alone rfl rfl (fun K hK => ?_)
  go_simp
  refine (rtotal_any A1 n1 c1 l _ HN1.out HS13.out (by omega)).mono ?_
  rintro e v14 ⟨rfl, hb⟩
  rw [Hbt.out]
  clear Hbt
  have ebt : (bt == bt) = true := by simp
  have HT14 := Lib.hid (HT13.out.keep hb)
  have HR14 := Lib.hid (HR13.out.keep hb)
  have HS14 := Lib.hid (HS13.out.keep hb)
  have HO14 := Lib.hid (HO13.out.keep hb)
  have HB14 := Lib.hid (HB13.out.trans (hb.mono HB13.out.size))
  refine hK _ _ ⟨hb, ?_⟩
  clear hK K hb HT13 HR13 HS13 HO13 HB13
  refine wpSegs_next (by simp [pickOps]; rfl) ?_
  repeat (go_big_quiet_step (fail))
  refine wpQuiet_nil ?_
  refine wpOp_alone rfl rfl (fun K hK => ?_)
  go_simp
  refine (find_any A _ c l m _ HN.out (HS.out.keep HB14.out) (by omega)).mono ?_
  rintro e v15 ⟨rfl, hb⟩
  generalize hbf : Spans.findL l m = bf at *
  have Hbf := Lib.hid hbf
  clear hbf
  have HT15 := Lib.hid (HT14.out.keep hb)
  have HR15 := Lib.hid (HR14.out.keep hb)
  have HS15 := Lib.hid (HS14.out.keep hb)
  have HO15 := Lib.hid (HO14.out.keep hb)
  have HB15 := Lib.hid (HB14.out.trans (hb.mono HB14.out.size))
  refine hK _ _ ⟨hb, ?_⟩
  clear hK K hb HT14 HR14 HS14 HO14 HB14
  refine wpSegs_next rfl ?_
  refine wpQuiet_nil ?_
  refine wpOp_alone rfl rfl (fun K hK => ?_)
  go_simp
  refine (rfind_any A1 n1 c1 l m _ HN1.out HS15.out (by omega)).mono ?_
  rintro e v16 ⟨rfl, hb⟩
  rw [Hbf.out]
  clear Hbf
  have ebf : (bf == bf) = true := by simp
  have HT16 := Lib.hid (HT15.out.keep hb)
  have HR16 := Lib.hid (HR15.out.keep hb)
  have HS16 := Lib.hid (HS15.out.keep hb)
  have HO16 := Lib.hid (HO15.out.keep hb)
  have HB16 := Lib.hid (HB15.out.trans (hb.mono HB15.out.size))
  refine hK _ _ ⟨hb, ?_⟩
  clear hK K hb HT15 HR15 HS15 HO15 HB15
  obtain ⟨b2, o2, hA2, hbl2, hcell2⟩ := HO16.out (by simp)
  subst hA2
  have q1 := above_cell (p := ⟨b2, o2 + 1, none⟩) hbl2 (by simpa using (hcell2 0 (by simp)).2)
  have hbz := HB16.out
  clear hcell2
  refine wpSegs_last (by simp [pickOps]; rfl) ?_
  repeat (go_big_quiet_step (fail))
  refine wpQuiet_nil ?_
  go_wp2_with fail
  go_ret
  exact ⟨rfl, hbz⟩
end Go.Proofs.Yteofmhdbmngfcaa

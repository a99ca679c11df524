/- BlockWrites' walk, where the place does not fit. -/
import Derived.Test.YtnllladoipcfkaaDoorBlkWrite
import Derived.Test.YtnllladoipcfkaaDoorBlkNums
import Derived.Test.YtnllladoipcfkaaDoorMask
import Derived.Test.YtnllladoipcfkaaDoorPtrOfRef
import Derived.Test.YtnllladoipcfkaaDoorPtrRefRight
namespace Go.Proofs.YtnllladoipcfkaaDoor
open Go.RowKit Go.Maps

set_option maxRecDepth 100000 in
set_option maxHeartbeats 8000000 in
theorem bwrites_no_small (A : Option Addr) (n c N : Nat) (xs : List Int) (n0 a0 a1 : Int) (w : World) (hn : n = xs.length) (hs : Src .u8 w A xs) (hx : IsBytes xs) (hl : n ≤ 3000) (hnc : n ≤ c) (hc : c ≤ 9223372036854775807) (ht : Tabs w)
    (ha1 : -9223372036854775808 ≤ a0) (ha2 : a0 ≤ 9223372036854775807) (hb1 : -9223372036854775808 ≤ a1) (hb2 : a1 ≤ 9223372036854775807) (hN : 1 + bits .and .i64 n0 63 = (N : Int)) (hno : fitsI (placeP a0 a1 n) N = 2) :
    Calls Tryd.prog 3 #[.int .i64 n0, .agg #[.int .i64 a0, .int .i64 a1], .slice A n c] w fun e w' => e = .returned (.bool true) ∧ Below w.heap.size w w' := by
  have hd : decide ((3000 : Int) < (n : Int)) = false := by simp; omega
  obtain ⟨v, hv⟩ : ∃ v, bits .and .i64 n0 63 = v := ⟨_, rfl⟩
  obtain ⟨v0, v1⟩ : 0 ≤ v ∧ v ≤ 63 := by rw [← hv]; exact mask_and n0 63 (by decide)
  rw [hv] at hN
  have N1 : 1 ≤ N := by omega
  have N2 : N ≤ 64 := by omega
  have hpo : (placeP a0 a1 n).Ok := placeP_ok ha1 ha2 hb1 hb2 (by omega) (by omega)
  have hqo : (ofP a0 a1 xs).Ok := ofP_ok ha1 ha2 hb1 hb2 (by omega)
  have hQP : fitsI (ofP a0 a1 xs) N = 2 := (fits_of hn).trans hno
  have HFP := Lib.hid (fun (w' : World) (base p B M : Nat) (h : Disk w' base p B M N N 0 (zeroSecs N) (.map []) false 0) => (show Calls Tryd.prog 17 #[.pointer (some ⟨p, 0, none⟩), .agg (pcells (placeP a0 a1 n))] w' (fun e w'' => e = .returned (.int .i64 2) ∧ Below w'.heap.size w' w'') by have := fits_any h _ hpo; rw [hno] at this; exact this))
  have HFQ := Lib.hid (fun (w' : World) (base p B M : Nat) (h : Disk w' base p B M N N 0 (zeroSecs N) (.map []) false 0) => (show Calls Tryd.prog 17 #[.pointer (some ⟨p, 0, none⟩), .agg (pcells (ofP a0 a1 xs))] w' (fun e w'' => e = .returned (.int .i64 2) ∧ Below w'.heap.size w' w'') by have := fits_any h _ hqo; rw [hQP] at this; exact this))
  have HOf := Lib.hid (fun w' (hb : Below w.heap.size w w') => refOf_any a0 a1 A n c xs w' hn (hs.keep hb) hx (by omega) (by omega) hc)
  have HQS : Hid ((ofP a0 a1 xs).sha.length = 32) := Lib.hid (shaS_length xs)
  have HRt := Lib.hid (fun w' => refRight_any (ofP a0 a1 xs) w' hqo)
  have HSc := Lib.hid (fun w' => refSectors_any (ofP a0 a1 xs) w')
  have HNo : Hid ((ofP a0 a1 xs).right = true → 2 ≤ (ofP a0 a1 xs).place ∧ (ofP a0 a1 xs).place + secsOf (ofP a0 a1 xs).len ≤ 8192 ∧ ¬ ((ofP a0 a1 xs).place + secsOf (ofP a0 a1 xs).len ≤ (N : Int))) := Lib.hid (fun h => ⟨(right_place h).1, (right_place h).2, fun h2 => by unfold fitsI at hQP; rw [if_pos ⟨h, h2⟩] at hQP; cases hQP⟩)
  have HSB := Lib.hid (secs_bounds (ofP a0 a1 xs).len)
  obtain ⟨Q, hQ⟩ : ∃ Q, ofP a0 a1 xs = Q := ⟨_, rfl⟩
  rw [hQ] at HFQ HOf HQS HRt HSc HNo HSB
  clear hQ hQP
  have HN := Lib.hid hN
  have HT := Lib.hid ht
  have HQZ := Lib.hid (fun w' => eql_pts w' Pt.zero Pt.zero rfl rfl)
  rw [Pt.same_self] at HQZ
  clear hn hs hx hpo hqo hno hnc hc ht ha1 ha2 hb1 hb2
  go_enter Tryd.func3, Tryd.ntmps3
  go_wp2_with fail
  have rA : Row (w.alloc (Obj.cells #[Value.int IntKind.i64 a0, Value.int IntKind.i64 a1] 22)) w.heap.size 22 #[Value.int IntKind.i64 a0, Value.int IntKind.i64 a1] := Row.new _ _ _
  have b1 : Below w.heap.size w (w.alloc (Obj.cells #[Value.int IntKind.i64 a0, Value.int IntKind.i64 a1] 22)) := (Below.refl _ _).alloc (Nat.le_refl _) _
  generalize w.alloc (Obj.cells #[Value.int IntKind.i64 a0, Value.int IntKind.i64 a1] 22) = w1 at *
  refine (new_any w1 N N1 (by omega)).mono ?_
  rintro e w2 ⟨p, B, M, rfl, hb2, hd2⟩
  have rA2 := rA.keep hb2
  have b2 := b1.trans (hb2.mono b1.size)
  have lA := rA.lt
  clear rA b1 hb2
  have c0 : w2.cell? ⟨w.heap.size, 0, none⟩ = some (.int .i64 a0) := rA2.cell rfl
  have c1 : w2.cell? ⟨w.heap.size, 1, none⟩ = some (.int .i64 a1) := rA2.cell rfl
  have HD2 := Lib.hid hd2
  clear hd2
  go_wp2_with fail
  refine (bwrite_refused _ a0 a1 A n c 2 w2 (by decide) (fun w' hb => HFP.out _ _ _ _ _ (HD2.out.keep hb))).mono ?_
  rintro e w3 ⟨rfl, hb3⟩
  have rA3 := rA2.keep hb3
  have b3 := b2.trans (hb3.mono b2.size)
  have HD3 := Lib.hid (HD2.out.keep hb3)
  clear rA2 b2 hb3 c0 c1 HD2
  go_wp2_with (first
    | (refine wpList_allocP 9 rfl rfl rfl ?_; intro w4 r4 hb4 hz4; have rA4 := rA3.keep hb4; have b4 := b3.trans (hb4.mono b3.size); have HD4 := Lib.hid (HD3.out.keep hb4); have l3 := rA3.lt; have l3' := HD3.out.obj.lt; have l3'' := HD3.out.secs.lt; have l3m := HD3.out.waits.lt; clear rA3 b3 HD3 hb4 hz4)
    | (refine wpList_storeP rfl (.tmp 9) (.tmp 49) rfl w3.heap.size rfl Pt.zero rfl rfl Pt.zero rfl r4 ?_; intro w5 r5 o5; have rA5 := o5.row rA4 (by omega); have b5 := b4.trans (o5.below.mono (by omega)); have HD5 := Lib.hid (HD4.out.grown o5.grown (by omega) (by omega) (by omega)); have c0 : w5.cell? ⟨w.heap.size, 0, none⟩ = some (.int .i64 a0) := rA5.cell rfl; have c1 : w5.cell? ⟨w.heap.size, 1, none⟩ = some (.int .i64 a1) := rA5.cell rfl; clear rA4 b4 HD4 o5 r4))
  refine (HOf.out _ b5).mono ?_
  rintro e w6 ⟨rfl, hb6⟩
  have rA6 := rA5.keep hb6
  have r9 := r5.keep hb6
  have b6 := b5.trans (hb6.mono b5.size)
  have HD6 := Lib.hid (HD5.out.keep hb6)
  have l6 := r9.lt
  clear rA5 r5 b5 hb6 HD5 c0 c1
  go_wp2_with (first
    | (refine wpList_allocP 10 rfl rfl rfl ?_; intro w7 r7 hb7 hz7; have rA7 := rA6.keep hb7; have r97 := r9.keep hb7; have b7 := b6.trans (hb7.mono b6.size); have HD7 := Lib.hid (HD6.out.keep hb7); have m3' := HD6.out.obj.lt; have m3'' := HD6.out.secs.lt; have m3m := HD6.out.waits.lt; clear rA6 r9 b6 HD6 hb7 hz7)
    | (refine wpList_storeP rfl (.tmp 10) (.tmp 56) rfl w6.heap.size rfl Q rfl HQS.out Pt.zero rfl r7 ?_; intro w8 r10 o8; have r98 := o8.row r97 (by omega); have b8 := b7.trans (o8.below.mono (by omega)); have HD8 := Lib.hid (HD7.out.grown o8.grown (by omega) (by omega) (by omega)); clear rA7 r97 b7 HD7 o8 r7))
  have r99 := r98.drew
  have r11 := r10.drew
  have b9 := b8.drew
  have HD9 := Lib.hid (HD8.out.keep (Below.refl w8.heap.size w8).drew)
  clear r98 r10 b8 HD8
  refine wp_region_segs [([0], 1), ([2, 3, 4, 8, 5], 6)] [7, 9, 10, 11] (by kernel_rfl) (by kernel_rfl) (by kernel_rfl) (by kernel_rfl) (fun _ _ d _ _ h => by cases d <;> exact h) ?_
  refine wpSegs_next (by simp [pickOps]; rfl) ?_
  refine wpQuiet_load_cells rfl 31 (.tmp 10) rfl w6.heap.size 0 rfl (pcells Q) _ r11.cells r11.lt Tryd.underlying31 rfl (pt_size HQS.out) ?_
  refine wpQuiet_nil ?_
  refine wpOp_alone rfl rfl (fun K hK => ?_)
  go_simp
  refine (HRt.out _).mono ?_
  rintro e w9 ⟨rfl, hb9⟩
  have r12 := r11.keep hb9
  have r912 := r99.keep hb9
  have b10 := b9.trans (hb9.mono b9.size)
  have HD10 := Lib.hid (HD9.out.keep hb9)
  refine hK _ _ ⟨hb9, ?_⟩
  clear hK K hb9 r11 r99 b9 HD9 HRt
  cases hr : Q.right with
  | false =>
    clear hr
    refine wpSegs_next (by simp [pickOps]; rfl) ?_
    repeat (go_big_quiet_step (fail))
    refine wpQuiet_nil ?_
    refine wpOp_skip rfl rfl ⟨Ext.refl _, ?_⟩
    go_simp
    refine wpSegs_last (by simp [pickOps]; rfl) ?_
    repeat (go_big_quiet_step (fail))
    refine wpQuiet_nil ?_
    go_wp2_with (refine wpList_loadP (.tmp 10) rfl rfl w6.heap.size rfl Q HQS.out r12 ?_)
    refine (bread_refused _ Q 2 _ (by decide) HQS.out (fun w' hb => HFQ.out _ _ _ _ _ (HD10.out.keep hb))).mono ?_
    rintro e w10 ⟨rfl, hb10⟩
    have r913 := r912.keep hb10
    have b11 := b10.trans (hb10.mono b10.size)
    have z11 := b11.size
    have y1 := HD10.out.obj.lt
    have y2 := HD10.out.secs.lt
    have y3 := HD10.out.waits.lt
    have y4 := hb10.size
    have y5 := r912.lt
    have HD11 := Lib.hid (HD10.out.keep hb10)
    clear r12 r912 b10 HD10 hb10
    go_wp2_with fail
    refine (new_any w10 9 (by decide) (by decide)).mono ?_
    rintro e w11 ⟨p2, B2, M2, rfl, hb11, hd2⟩
    have r914 := r913.keep hb11
    have b12 := b11.trans (hb11.mono b11.size)
    have HD12 := Lib.hid (HD11.out.keep hb11)
    have HE12 := Lib.hid hd2
    clear r913 b11 HD11 hb11 hd2
    have kc := Lib.run_convert_bytes_const (P := Tryd.prog) w11 23 5 #[.int .u8 120] 1 1 Tryd.underlying23 Tryd.underlying5
    have hb12 : Below w11.heap.size w11 (w11.alloc (.cells #[.int .u8 120] 5 (1, 2))) := (Below.refl _ _).alloc (Nat.le_refl _) _
    have hs12 := lit_src w11 120 5 (1, 2)
    have r915 := r914.keep hb12
    have b13 := b12.trans (hb12.mono b12.size)
    have HD13 := Lib.hid (HD12.out.keep hb12)
    have HE13 := Lib.hid (HE12.out.keep hb12)
    have e1 := HE12.out.obj.lt
    have e2 := HE12.out.secs.lt
    have e3 := HE12.out.waits.lt
    have f1 := HE12.out.basep
    have HTL := Lib.hid (HT.out.low.more (show w.heap.size ≤ w10.heap.size by omega))
    clear r914 b12 HD12 hb12 HE12
    go_wp2_with fail
    refine (one_write HE13.out HTL.out (HT.out.keep b13) w11.heap.size hs12 ⟨by omega, by omega, by omega⟩).mono ?_
    rintro e w13 ⟨rfl, hb13⟩
    have r916 := r915.keepB hb13 (by omega)
    have b14 := b13.trans (hb13.mono (by omega))
    have HD14 := Lib.hid (HD13.out.keepB hb13 (by omega) (by omega) (by omega))
    clear r915 b13 HD13 hb13 HE13 kc hs12
    have HOne := Lib.hid (ofP_sha 2 1 [120])
    have HOl := Lib.hid (show (ofP 2 1 [120]).len = 1 from ofP_len 2 1 [120])
    obtain ⟨O, hO⟩ : ∃ O, ofP 2 1 [120] = O := ⟨_, rfl⟩
    rw [hO] at HOne HOl ⊢
    clear hO
    go_wp2_with (first
      | (refine wpList_allocP 16 rfl rfl rfl ?_; intro w14 r14 hb14 hz14; have r917 := r916.keep hb14; have b15 := b14.trans (hb14.mono b14.size); have HD15 := Lib.hid (HD14.out.keep hb14); have q1 := HD14.out.obj.lt; have q2 := HD14.out.secs.lt; have q3 := HD14.out.waits.lt; have q4 := r916.lt; have q5 := b14.size; clear r916 b14 HD14 hb14 hz14)
      | (refine wpList_storeP rfl (.tmp 16) (.tmp 85) rfl w13.heap.size rfl O rfl HOne.out Pt.zero rfl r14 ?_; intro w15 r15 o15; have r918 := o15.row r917 (by omega); have b16 := b15.trans (o15.below.mono q5); have HD16 := Lib.hid (HD15.out.grown o15.grown (by omega) (by omega) (by omega)); have cl := row_len r15; rw [HOl.out] at cl; clear r917 b15 HD15 o15 r14)
      | (refine wpList_loadP (.tmp 9) rfl rfl w3.heap.size rfl Pt.zero rfl r918 ?_)
      | (refine wpList_buildZ rfl rfl ?_; have hq := HQZ.out))
    refine (disk_waiting HD16.out).mono ?_
    rintro e w16 ⟨rfl, rfl⟩
    rw [show (Maps.size (.map [] : DataW Unit)) = 0 from rfl]
    go_wp2_with fail
    go_ret
    exact ⟨rfl, b16⟩
  | true =>
    obtain ⟨p1, p2, p3⟩ := HNo.out hr
    obtain ⟨s1, s2⟩ := HSB.out
    have c0 : ∀ x : Above w9, x.1.cell? ⟨w6.heap.size, 0, none⟩ = some (.int .i64 Q.place) := r12.above (pcells_0 Q)
    obtain ⟨pl, hpl⟩ : ∃ pl, Q.place = pl := ⟨_, rfl⟩
    obtain ⟨sc, hsc⟩ : ∃ sc, secsOf Q.len = sc := ⟨_, rfl⟩
    have HSC := Lib.hid hsc
    rw [hpl] at c0 p1 p2 p3
    rw [hsc] at p2 p3 s1 s2
    have hadd : IntKind.i64.wrap (pl + sc) = pl + sc := IntWalk.i64_in _ (by omega)
    have t1 : decide (pl + sc ≤ (N : Int)) = false := by simpa using p3
    clear hr hpl hsc
    refine wpSegs_next (by simp [pickOps]; rfl) ?_
    repeat (go_big_quiet_step (fail))
    refine wpQuiet_load_cells rfl 31 (.tmp 10) rfl w6.heap.size 0 rfl (pcells Q) _ r12.cells r12.lt Tryd.underlying31 rfl (pt_size HQS.out) ?_
    refine wpQuiet_nil ?_
    refine wpOp_alone rfl rfl (fun K hK => ?_)
    go_simp
    refine (HSc.out _).mono ?_
    rintro e w9b ⟨rfl, hb9⟩
    rw [HSC.out]
    have r12 := r12.keep hb9
    have r912 := r912.keep hb9
    have b10 := b10.trans (hb9.mono b10.size)
    have HD10 := Lib.hid (HD10.out.keep hb9)
    refine hK _ _ ⟨hb9, ?_⟩
    clear hK K hb9 c0
    refine wpSegs_last (by simp [pickOps]; rfl) ?_
    repeat (go_big_quiet_step (fail))
    refine wpQuiet_nil ?_
    clear t1 hadd p1 p2 p3 s1 s2
    go_wp2_with (refine wpList_loadP (.tmp 10) rfl rfl w6.heap.size rfl Q HQS.out r12 ?_)
    refine (bread_refused _ Q 2 _ (by decide) HQS.out (fun w' hb => HFQ.out _ _ _ _ _ (HD10.out.keep hb))).mono ?_
    rintro e w10 ⟨rfl, hb10⟩
    have r913 := r912.keep hb10
    have b11 := b10.trans (hb10.mono b10.size)
    have z11 := b11.size
    have y1 := HD10.out.obj.lt
    have y2 := HD10.out.secs.lt
    have y3 := HD10.out.waits.lt
    have y4 := hb10.size
    have y5 := r912.lt
    have HD11 := Lib.hid (HD10.out.keep hb10)
    clear r12 r912 b10 HD10 hb10
    go_wp2_with fail
    refine (new_any w10 9 (by decide) (by decide)).mono ?_
    rintro e w11 ⟨p2, B2, M2, rfl, hb11, hd2⟩
    have r914 := r913.keep hb11
    have b12 := b11.trans (hb11.mono b11.size)
    have HD12 := Lib.hid (HD11.out.keep hb11)
    have HE12 := Lib.hid hd2
    clear r913 b11 HD11 hb11 hd2
    have kc := Lib.run_convert_bytes_const (P := Tryd.prog) w11 23 5 #[.int .u8 120] 1 1 Tryd.underlying23 Tryd.underlying5
    have hb12 : Below w11.heap.size w11 (w11.alloc (.cells #[.int .u8 120] 5 (1, 2))) := (Below.refl _ _).alloc (Nat.le_refl _) _
    have hs12 := lit_src w11 120 5 (1, 2)
    have r915 := r914.keep hb12
    have b13 := b12.trans (hb12.mono b12.size)
    have HD13 := Lib.hid (HD12.out.keep hb12)
    have HE13 := Lib.hid (HE12.out.keep hb12)
    have e1 := HE12.out.obj.lt
    have e2 := HE12.out.secs.lt
    have e3 := HE12.out.waits.lt
    have f1 := HE12.out.basep
    have HTL := Lib.hid (HT.out.low.more (show w.heap.size ≤ w10.heap.size by omega))
    clear r914 b12 HD12 hb12 HE12
    go_wp2_with fail
    refine (one_write HE13.out HTL.out (HT.out.keep b13) w11.heap.size hs12 ⟨by omega, by omega, by omega⟩).mono ?_
    rintro e w13 ⟨rfl, hb13⟩
    have r916 := r915.keepB hb13 (by omega)
    have b14 := b13.trans (hb13.mono (by omega))
    have HD14 := Lib.hid (HD13.out.keepB hb13 (by omega) (by omega) (by omega))
    clear r915 b13 HD13 hb13 HE13 kc hs12
    have HOne := Lib.hid (ofP_sha 2 1 [120])
    have HOl := Lib.hid (show (ofP 2 1 [120]).len = 1 from ofP_len 2 1 [120])
    obtain ⟨O, hO⟩ : ∃ O, ofP 2 1 [120] = O := ⟨_, rfl⟩
    rw [hO] at HOne HOl ⊢
    clear hO
    go_wp2_with (first
      | (refine wpList_allocP 16 rfl rfl rfl ?_; intro w14 r14 hb14 hz14; have r917 := r916.keep hb14; have b15 := b14.trans (hb14.mono b14.size); have HD15 := Lib.hid (HD14.out.keep hb14); have q1 := HD14.out.obj.lt; have q2 := HD14.out.secs.lt; have q3 := HD14.out.waits.lt; have q4 := r916.lt; have q5 := b14.size; clear r916 b14 HD14 hb14 hz14)
      | (refine wpList_storeP rfl (.tmp 16) (.tmp 85) rfl w13.heap.size rfl O rfl HOne.out Pt.zero rfl r14 ?_; intro w15 r15 o15; have r918 := o15.row r917 (by omega); have b16 := b15.trans (o15.below.mono q5); have HD16 := Lib.hid (HD15.out.grown o15.grown (by omega) (by omega) (by omega)); have cl := row_len r15; rw [HOl.out] at cl; clear r917 b15 HD15 o15 r14)
      | (refine wpList_loadP (.tmp 9) rfl rfl w3.heap.size rfl Pt.zero rfl r918 ?_)
      | (refine wpList_buildZ rfl rfl ?_; have hq := HQZ.out))
    refine (disk_waiting HD16.out).mono ?_
    rintro e w16 ⟨rfl, rfl⟩
    rw [show (Maps.size (.map [] : DataW Unit)) = 0 from rfl]
    go_wp2_with fail
    go_ret
    exact ⟨rfl, b16⟩
set_option maxRecDepth 100000 in
set_option maxHeartbeats 8000000 in
theorem bwrites_no_big (b0 o0 nn c N : Nat) (xs : List Int) (n0 a0 a1 : Int) (w : World) (hn : 3000 = xs.length) (hs : Src .u8 w (some ⟨b0, o0, none⟩) xs) (hx : IsBytes xs) (hl : 3000 < nn) (hnc : nn ≤ c) (hc : c ≤ 9223372036854775807) (ht : Tabs w)
    (ha1 : -9223372036854775808 ≤ a0) (ha2 : a0 ≤ 9223372036854775807) (hb1 : -9223372036854775808 ≤ a1) (hb2 : a1 ≤ 9223372036854775807) (hN : 1 + bits .and .i64 n0 63 = (N : Int)) (hno : fitsI (placeP a0 a1 3000) N = 2) :
    Calls Tryd.prog 3 #[.int .i64 n0, .agg #[.int .i64 a0, .int .i64 a1], .slice (some ⟨b0, o0, none⟩) nn c] w fun e w' => e = .returned (.bool true) ∧ Below w.heap.size w w' := by
  have hd : decide ((3000 : Int) < (nn : Int)) = true := by simp; omega
  have hd2 : (3000 : Int) ≤ (c : Int) := by omega
  obtain ⟨v, hv⟩ : ∃ v, bits .and .i64 n0 63 = v := ⟨_, rfl⟩
  obtain ⟨v0, v1⟩ : 0 ≤ v ∧ v ≤ 63 := by rw [← hv]; exact mask_and n0 63 (by decide)
  rw [hv] at hN
  have N1 : 1 ≤ N := by omega
  have N2 : N ≤ 64 := by omega
  have hpo : (placeP a0 a1 3000).Ok := placeP_ok ha1 ha2 hb1 hb2 (by omega) (by omega)
  have hqo : (ofP a0 a1 xs).Ok := ofP_ok ha1 ha2 hb1 hb2 (by omega)
  have hQP : fitsI (ofP a0 a1 xs) N = 2 := (fits_of hn).trans hno
  have HFP := Lib.hid (fun (w' : World) (base p B M : Nat) (h : Disk w' base p B M N N 0 (zeroSecs N) (.map []) false 0) => (show Calls Tryd.prog 17 #[.pointer (some ⟨p, 0, none⟩), .agg (pcells (placeP a0 a1 3000))] w' (fun e w'' => e = .returned (.int .i64 2) ∧ Below w'.heap.size w' w'') by have := fits_any h _ hpo; rw [hno] at this; exact this))
  have HFQ := Lib.hid (fun (w' : World) (base p B M : Nat) (h : Disk w' base p B M N N 0 (zeroSecs N) (.map []) false 0) => (show Calls Tryd.prog 17 #[.pointer (some ⟨p, 0, none⟩), .agg (pcells (ofP a0 a1 xs))] w' (fun e w'' => e = .returned (.int .i64 2) ∧ Below w'.heap.size w' w'') by have := fits_any h _ hqo; rw [hQP] at this; exact this))
  have HOf := Lib.hid (fun w' (hb : Below w.heap.size w w') => refOf_any a0 a1 (some ⟨b0, o0, none⟩) 3000 c xs w' hn (hs.keep hb) hx (by omega) (by omega) hc)
  have HQS : Hid ((ofP a0 a1 xs).sha.length = 32) := Lib.hid (shaS_length xs)
  have HRt := Lib.hid (fun w' => refRight_any (ofP a0 a1 xs) w' hqo)
  have HSc := Lib.hid (fun w' => refSectors_any (ofP a0 a1 xs) w')
  have HNo : Hid ((ofP a0 a1 xs).right = true → 2 ≤ (ofP a0 a1 xs).place ∧ (ofP a0 a1 xs).place + secsOf (ofP a0 a1 xs).len ≤ 8192 ∧ ¬ ((ofP a0 a1 xs).place + secsOf (ofP a0 a1 xs).len ≤ (N : Int))) := Lib.hid (fun h => ⟨(right_place h).1, (right_place h).2, fun h2 => by unfold fitsI at hQP; rw [if_pos ⟨h, h2⟩] at hQP; cases hQP⟩)
  have HSB := Lib.hid (secs_bounds (ofP a0 a1 xs).len)
  obtain ⟨Q, hQ⟩ : ∃ Q, ofP a0 a1 xs = Q := ⟨_, rfl⟩
  rw [hQ] at HFQ HOf HQS HRt HSc HNo HSB
  clear hQ hQP
  have HN := Lib.hid hN
  have HT := Lib.hid ht
  have HQZ := Lib.hid (fun w' => eql_pts w' Pt.zero Pt.zero rfl rfl)
  rw [Pt.same_self] at HQZ
  clear hn hs hx hpo hqo hno hnc hc ht ha1 ha2 hb1 hb2
  go_enter Tryd.func3, Tryd.ntmps3
  go_wp2_with fail
  have rA : Row (w.alloc (Obj.cells #[Value.int IntKind.i64 a0, Value.int IntKind.i64 a1] 22)) w.heap.size 22 #[Value.int IntKind.i64 a0, Value.int IntKind.i64 a1] := Row.new _ _ _
  have b1 : Below w.heap.size w (w.alloc (Obj.cells #[Value.int IntKind.i64 a0, Value.int IntKind.i64 a1] 22)) := (Below.refl _ _).alloc (Nat.le_refl _) _
  generalize w.alloc (Obj.cells #[Value.int IntKind.i64 a0, Value.int IntKind.i64 a1] 22) = w1 at *
  refine (new_any w1 N N1 (by omega)).mono ?_
  rintro e w2 ⟨p, B, M, rfl, hb2, hd2⟩
  have rA2 := rA.keep hb2
  have b2 := b1.trans (hb2.mono b1.size)
  have lA := rA.lt
  clear rA b1 hb2
  have c0 : w2.cell? ⟨w.heap.size, 0, none⟩ = some (.int .i64 a0) := rA2.cell rfl
  have c1 : w2.cell? ⟨w.heap.size, 1, none⟩ = some (.int .i64 a1) := rA2.cell rfl
  have HD2 := Lib.hid hd2
  clear hd2
  go_wp2_with fail
  refine (bwrite_refused _ a0 a1 (some ⟨b0, o0, none⟩) 3000 c 2 w2 (by decide) (fun w' hb => HFP.out _ _ _ _ _ (HD2.out.keep hb))).mono ?_
  rintro e w3 ⟨rfl, hb3⟩
  have rA3 := rA2.keep hb3
  have b3 := b2.trans (hb3.mono b2.size)
  have HD3 := Lib.hid (HD2.out.keep hb3)
  clear rA2 b2 hb3 c0 c1 HD2
  go_wp2_with (first
    | (refine wpList_allocP 9 rfl rfl rfl ?_; intro w4 r4 hb4 hz4; have rA4 := rA3.keep hb4; have b4 := b3.trans (hb4.mono b3.size); have HD4 := Lib.hid (HD3.out.keep hb4); have l3 := rA3.lt; have l3' := HD3.out.obj.lt; have l3'' := HD3.out.secs.lt; have l3m := HD3.out.waits.lt; clear rA3 b3 HD3 hb4 hz4)
    | (refine wpList_storeP rfl (.tmp 9) (.tmp 49) rfl w3.heap.size rfl Pt.zero rfl rfl Pt.zero rfl r4 ?_; intro w5 r5 o5; have rA5 := o5.row rA4 (by omega); have b5 := b4.trans (o5.below.mono (by omega)); have HD5 := Lib.hid (HD4.out.grown o5.grown (by omega) (by omega) (by omega)); have c0 : w5.cell? ⟨w.heap.size, 0, none⟩ = some (.int .i64 a0) := rA5.cell rfl; have c1 : w5.cell? ⟨w.heap.size, 1, none⟩ = some (.int .i64 a1) := rA5.cell rfl; clear rA4 b4 HD4 o5 r4))
  refine (HOf.out _ b5).mono ?_
  rintro e w6 ⟨rfl, hb6⟩
  have rA6 := rA5.keep hb6
  have r9 := r5.keep hb6
  have b6 := b5.trans (hb6.mono b5.size)
  have HD6 := Lib.hid (HD5.out.keep hb6)
  have l6 := r9.lt
  clear rA5 r5 b5 hb6 HD5 c0 c1
  go_wp2_with (first
    | (refine wpList_allocP 10 rfl rfl rfl ?_; intro w7 r7 hb7 hz7; have rA7 := rA6.keep hb7; have r97 := r9.keep hb7; have b7 := b6.trans (hb7.mono b6.size); have HD7 := Lib.hid (HD6.out.keep hb7); have m3' := HD6.out.obj.lt; have m3'' := HD6.out.secs.lt; have m3m := HD6.out.waits.lt; clear rA6 r9 b6 HD6 hb7 hz7)
    | (refine wpList_storeP rfl (.tmp 10) (.tmp 56) rfl w6.heap.size rfl Q rfl HQS.out Pt.zero rfl r7 ?_; intro w8 r10 o8; have r98 := o8.row r97 (by omega); have b8 := b7.trans (o8.below.mono (by omega)); have HD8 := Lib.hid (HD7.out.grown o8.grown (by omega) (by omega) (by omega)); clear rA7 r97 b7 HD7 o8 r7))
  have r99 := r98.drew
  have r11 := r10.drew
  have b9 := b8.drew
  have HD9 := Lib.hid (HD8.out.keep (Below.refl w8.heap.size w8).drew)
  clear r98 r10 b8 HD8
  refine wp_region_segs [([0], 1), ([2, 3, 4, 8, 5], 6)] [7, 9, 10, 11] (by kernel_rfl) (by kernel_rfl) (by kernel_rfl) (by kernel_rfl) (fun _ _ d _ _ h => by cases d <;> exact h) ?_
  refine wpSegs_next (by simp [pickOps]; rfl) ?_
  refine wpQuiet_load_cells rfl 31 (.tmp 10) rfl w6.heap.size 0 rfl (pcells Q) _ r11.cells r11.lt Tryd.underlying31 rfl (pt_size HQS.out) ?_
  refine wpQuiet_nil ?_
  refine wpOp_alone rfl rfl (fun K hK => ?_)
  go_simp
  refine (HRt.out _).mono ?_
  rintro e w9 ⟨rfl, hb9⟩
  have r12 := r11.keep hb9
  have r912 := r99.keep hb9
  have b10 := b9.trans (hb9.mono b9.size)
  have HD10 := Lib.hid (HD9.out.keep hb9)
  refine hK _ _ ⟨hb9, ?_⟩
  clear hK K hb9 r11 r99 b9 HD9 HRt
  cases hr : Q.right with
  | false =>
    clear hr
    refine wpSegs_next (by simp [pickOps]; rfl) ?_
    repeat (go_big_quiet_step (fail))
    refine wpQuiet_nil ?_
    refine wpOp_skip rfl rfl ⟨Ext.refl _, ?_⟩
    go_simp
    refine wpSegs_last (by simp [pickOps]; rfl) ?_
    repeat (go_big_quiet_step (fail))
    refine wpQuiet_nil ?_
    go_wp2_with (refine wpList_loadP (.tmp 10) rfl rfl w6.heap.size rfl Q HQS.out r12 ?_)
    refine (bread_refused _ Q 2 _ (by decide) HQS.out (fun w' hb => HFQ.out _ _ _ _ _ (HD10.out.keep hb))).mono ?_
    rintro e w10 ⟨rfl, hb10⟩
    have r913 := r912.keep hb10
    have b11 := b10.trans (hb10.mono b10.size)
    have z11 := b11.size
    have y1 := HD10.out.obj.lt
    have y2 := HD10.out.secs.lt
    have y3 := HD10.out.waits.lt
    have y4 := hb10.size
    have y5 := r912.lt
    have HD11 := Lib.hid (HD10.out.keep hb10)
    clear r12 r912 b10 HD10 hb10
    go_wp2_with fail
    refine (new_any w10 9 (by decide) (by decide)).mono ?_
    rintro e w11 ⟨p2, B2, M2, rfl, hb11, hd2⟩
    have r914 := r913.keep hb11
    have b12 := b11.trans (hb11.mono b11.size)
    have HD12 := Lib.hid (HD11.out.keep hb11)
    have HE12 := Lib.hid hd2
    clear r913 b11 HD11 hb11 hd2
    have kc := Lib.run_convert_bytes_const (P := Tryd.prog) w11 23 5 #[.int .u8 120] 1 1 Tryd.underlying23 Tryd.underlying5
    have hb12 : Below w11.heap.size w11 (w11.alloc (.cells #[.int .u8 120] 5 (1, 2))) := (Below.refl _ _).alloc (Nat.le_refl _) _
    have hs12 := lit_src w11 120 5 (1, 2)
    have r915 := r914.keep hb12
    have b13 := b12.trans (hb12.mono b12.size)
    have HD13 := Lib.hid (HD12.out.keep hb12)
    have HE13 := Lib.hid (HE12.out.keep hb12)
    have e1 := HE12.out.obj.lt
    have e2 := HE12.out.secs.lt
    have e3 := HE12.out.waits.lt
    have f1 := HE12.out.basep
    have HTL := Lib.hid (HT.out.low.more (show w.heap.size ≤ w10.heap.size by omega))
    clear r914 b12 HD12 hb12 HE12
    go_wp2_with fail
    refine (one_write HE13.out HTL.out (HT.out.keep b13) w11.heap.size hs12 ⟨by omega, by omega, by omega⟩).mono ?_
    rintro e w13 ⟨rfl, hb13⟩
    have r916 := r915.keepB hb13 (by omega)
    have b14 := b13.trans (hb13.mono (by omega))
    have HD14 := Lib.hid (HD13.out.keepB hb13 (by omega) (by omega) (by omega))
    clear r915 b13 HD13 hb13 HE13 kc hs12
    have HOne := Lib.hid (ofP_sha 2 1 [120])
    have HOl := Lib.hid (show (ofP 2 1 [120]).len = 1 from ofP_len 2 1 [120])
    obtain ⟨O, hO⟩ : ∃ O, ofP 2 1 [120] = O := ⟨_, rfl⟩
    rw [hO] at HOne HOl ⊢
    clear hO
    go_wp2_with (first
      | (refine wpList_allocP 16 rfl rfl rfl ?_; intro w14 r14 hb14 hz14; have r917 := r916.keep hb14; have b15 := b14.trans (hb14.mono b14.size); have HD15 := Lib.hid (HD14.out.keep hb14); have q1 := HD14.out.obj.lt; have q2 := HD14.out.secs.lt; have q3 := HD14.out.waits.lt; have q4 := r916.lt; have q5 := b14.size; clear r916 b14 HD14 hb14 hz14)
      | (refine wpList_storeP rfl (.tmp 16) (.tmp 85) rfl w13.heap.size rfl O rfl HOne.out Pt.zero rfl r14 ?_; intro w15 r15 o15; have r918 := o15.row r917 (by omega); have b16 := b15.trans (o15.below.mono q5); have HD16 := Lib.hid (HD15.out.grown o15.grown (by omega) (by omega) (by omega)); have cl := row_len r15; rw [HOl.out] at cl; clear r917 b15 HD15 o15 r14)
      | (refine wpList_loadP (.tmp 9) rfl rfl w3.heap.size rfl Pt.zero rfl r918 ?_)
      | (refine wpList_buildZ rfl rfl ?_; have hq := HQZ.out))
    refine (disk_waiting HD16.out).mono ?_
    rintro e w16 ⟨rfl, rfl⟩
    rw [show (Maps.size (.map [] : DataW Unit)) = 0 from rfl]
    go_wp2_with fail
    go_ret
    exact ⟨rfl, b16⟩
  | true =>
    obtain ⟨p1, p2, p3⟩ := HNo.out hr
    obtain ⟨s1, s2⟩ := HSB.out
    have c0 : ∀ x : Above w9, x.1.cell? ⟨w6.heap.size, 0, none⟩ = some (.int .i64 Q.place) := r12.above (pcells_0 Q)
    obtain ⟨pl, hpl⟩ : ∃ pl, Q.place = pl := ⟨_, rfl⟩
    obtain ⟨sc, hsc⟩ : ∃ sc, secsOf Q.len = sc := ⟨_, rfl⟩
    have HSC := Lib.hid hsc
    rw [hpl] at c0 p1 p2 p3
    rw [hsc] at p2 p3 s1 s2
    have hadd : IntKind.i64.wrap (pl + sc) = pl + sc := IntWalk.i64_in _ (by omega)
    have t1 : decide (pl + sc ≤ (N : Int)) = false := by simpa using p3
    clear hr hpl hsc
    refine wpSegs_next (by simp [pickOps]; rfl) ?_
    repeat (go_big_quiet_step (fail))
    refine wpQuiet_load_cells rfl 31 (.tmp 10) rfl w6.heap.size 0 rfl (pcells Q) _ r12.cells r12.lt Tryd.underlying31 rfl (pt_size HQS.out) ?_
    refine wpQuiet_nil ?_
    refine wpOp_alone rfl rfl (fun K hK => ?_)
    go_simp
    refine (HSc.out _).mono ?_
    rintro e w9b ⟨rfl, hb9⟩
    rw [HSC.out]
    have r12 := r12.keep hb9
    have r912 := r912.keep hb9
    have b10 := b10.trans (hb9.mono b10.size)
    have HD10 := Lib.hid (HD10.out.keep hb9)
    refine hK _ _ ⟨hb9, ?_⟩
    clear hK K hb9 c0
    refine wpSegs_last (by simp [pickOps]; rfl) ?_
    repeat (go_big_quiet_step (fail))
    refine wpQuiet_nil ?_
    clear t1 hadd p1 p2 p3 s1 s2
    go_wp2_with (refine wpList_loadP (.tmp 10) rfl rfl w6.heap.size rfl Q HQS.out r12 ?_)
    refine (bread_refused _ Q 2 _ (by decide) HQS.out (fun w' hb => HFQ.out _ _ _ _ _ (HD10.out.keep hb))).mono ?_
    rintro e w10 ⟨rfl, hb10⟩
    have r913 := r912.keep hb10
    have b11 := b10.trans (hb10.mono b10.size)
    have z11 := b11.size
    have y1 := HD10.out.obj.lt
    have y2 := HD10.out.secs.lt
    have y3 := HD10.out.waits.lt
    have y4 := hb10.size
    have y5 := r912.lt
    have HD11 := Lib.hid (HD10.out.keep hb10)
    clear r12 r912 b10 HD10 hb10
    go_wp2_with fail
    refine (new_any w10 9 (by decide) (by decide)).mono ?_
    rintro e w11 ⟨p2, B2, M2, rfl, hb11, hd2⟩
    have r914 := r913.keep hb11
    have b12 := b11.trans (hb11.mono b11.size)
    have HD12 := Lib.hid (HD11.out.keep hb11)
    have HE12 := Lib.hid hd2
    clear r913 b11 HD11 hb11 hd2
    have kc := Lib.run_convert_bytes_const (P := Tryd.prog) w11 23 5 #[.int .u8 120] 1 1 Tryd.underlying23 Tryd.underlying5
    have hb12 : Below w11.heap.size w11 (w11.alloc (.cells #[.int .u8 120] 5 (1, 2))) := (Below.refl _ _).alloc (Nat.le_refl _) _
    have hs12 := lit_src w11 120 5 (1, 2)
    have r915 := r914.keep hb12
    have b13 := b12.trans (hb12.mono b12.size)
    have HD13 := Lib.hid (HD12.out.keep hb12)
    have HE13 := Lib.hid (HE12.out.keep hb12)
    have e1 := HE12.out.obj.lt
    have e2 := HE12.out.secs.lt
    have e3 := HE12.out.waits.lt
    have f1 := HE12.out.basep
    have HTL := Lib.hid (HT.out.low.more (show w.heap.size ≤ w10.heap.size by omega))
    clear r914 b12 HD12 hb12 HE12
    go_wp2_with fail
    refine (one_write HE13.out HTL.out (HT.out.keep b13) w11.heap.size hs12 ⟨by omega, by omega, by omega⟩).mono ?_
    rintro e w13 ⟨rfl, hb13⟩
    have r916 := r915.keepB hb13 (by omega)
    have b14 := b13.trans (hb13.mono (by omega))
    have HD14 := Lib.hid (HD13.out.keepB hb13 (by omega) (by omega) (by omega))
    clear r915 b13 HD13 hb13 HE13 kc hs12
    have HOne := Lib.hid (ofP_sha 2 1 [120])
    have HOl := Lib.hid (show (ofP 2 1 [120]).len = 1 from ofP_len 2 1 [120])
    obtain ⟨O, hO⟩ : ∃ O, ofP 2 1 [120] = O := ⟨_, rfl⟩
    rw [hO] at HOne HOl ⊢
    clear hO
    go_wp2_with (first
      | (refine wpList_allocP 16 rfl rfl rfl ?_; intro w14 r14 hb14 hz14; have r917 := r916.keep hb14; have b15 := b14.trans (hb14.mono b14.size); have HD15 := Lib.hid (HD14.out.keep hb14); have q1 := HD14.out.obj.lt; have q2 := HD14.out.secs.lt; have q3 := HD14.out.waits.lt; have q4 := r916.lt; have q5 := b14.size; clear r916 b14 HD14 hb14 hz14)
      | (refine wpList_storeP rfl (.tmp 16) (.tmp 85) rfl w13.heap.size rfl O rfl HOne.out Pt.zero rfl r14 ?_; intro w15 r15 o15; have r918 := o15.row r917 (by omega); have b16 := b15.trans (o15.below.mono q5); have HD16 := Lib.hid (HD15.out.grown o15.grown (by omega) (by omega) (by omega)); have cl := row_len r15; rw [HOl.out] at cl; clear r917 b15 HD15 o15 r14)
      | (refine wpList_loadP (.tmp 9) rfl rfl w3.heap.size rfl Pt.zero rfl r918 ?_)
      | (refine wpList_buildZ rfl rfl ?_; have hq := HQZ.out))
    refine (disk_waiting HD16.out).mono ?_
    rintro e w16 ⟨rfl, rfl⟩
    rw [show (Maps.size (.map [] : DataW Unit)) = 0 from rfl]
    go_wp2_with fail
    go_ret
    exact ⟨rfl, b16⟩
end Go.Proofs.YtnllladoipcfkaaDoor

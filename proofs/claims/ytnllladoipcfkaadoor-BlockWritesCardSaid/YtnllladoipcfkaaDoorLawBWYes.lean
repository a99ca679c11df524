/- BlockWrites' walk, where the place fits. -/
import Derived.Test.YtnllladoipcfkaaDoorLawBWNo
namespace Go.Proofs.YtnllladoipcfkaaDoor
open Go.RowKit Go.Maps

/-- At the outer loop's head: i sectors are right. -/
def SecsAt (w : World) (N : Nat) (iv : Value) (wr : World) : Prop := ∃ i : Nat, i ≤ N ∧ iv = .int .i64 i ∧ Below w.heap.size w wr
theorem fits_place {a0 a1 : Int} (n : Nat) {N m : Nat} (hm : secsOf (n : Int) = (m : Int)) (h : fitsI (placeP a0 a1 n) N = 0) : 2 ≤ a0 ∧ a0 + m ≤ N ∧ 1 ≤ n := by
  obtain ⟨h1, h2⟩ := fits_right h
  refine ⟨(right_place h1).1, by rw [← hm]; exact h2, ?_⟩
  have : (1 : Int) ≤ (n : Int) := (right_len h1).1
  omega
theorem src_cell {k : IntKind} {w : World} {b o : Nat} {xs : List Int} (h : Src k w (some ⟨b, o, none⟩) xs) {j : Nat} (hj : j < xs.length) : w.cell? ⟨b, o + j, none⟩ = some (.int k (xs.getD j 0)) := by
  obtain ⟨b', o', e, _, hc⟩ := h (by omega)
  injection e with e
  injection e with e1 e2 _
  subst e1; subst e2
  exact hc j hj
set_option maxRecDepth 100000 in
set_option maxHeartbeats 8000000 in
theorem bwrites_yes_small (b0 o0 n c N : Nat) (xs : List Int) (n0 a0 a1 : Int) (w : World) (hn : n = xs.length) (hs : Src .u8 w (some ⟨b0, o0, none⟩) xs) (hx : IsBytes xs) (hl : n ≤ 3000) (hnc : n ≤ c) (hc : c ≤ 9223372036854775807) (ht : Tabs w)
    (ha1 : -9223372036854775808 ≤ a0) (ha2 : a0 ≤ 9223372036854775807) (hb1 : -9223372036854775808 ≤ a1) (hb2 : a1 ≤ 9223372036854775807) (hN : 1 + bits .and .i64 n0 63 = (N : Int)) (hno : fitsI (placeP a0 a1 n) N = 0) :
    Calls Tryd.prog 3 #[.int .i64 n0, .agg #[.int .i64 a0, .int .i64 a1], .slice (some ⟨b0, o0, none⟩) n c] w fun e w' => e = .returned (.bool true) ∧ Below w.heap.size w w' := by
  have hd : decide ((3000 : Int) < (n : Int)) = false := by simp; omega
  obtain ⟨v, hv⟩ : ∃ v, bits .and .i64 n0 63 = v := ⟨_, rfl⟩
  obtain ⟨v0, v1⟩ : 0 ≤ v ∧ v ≤ 63 := by rw [← hv]; exact mask_and n0 63 (by decide)
  rw [hv] at hN
  have N1 : 1 ≤ N := by omega
  have N2 : N ≤ 64 := by omega
  obtain ⟨m, hm, hm2⟩ := secs_nat n
  obtain ⟨q1, q2, q3⟩ := fits_place n hm hno
  obtain ⟨a, rfl⟩ : ∃ a : Nat, a0 = (a : Int) := ⟨a0.toNat, by omega⟩
  have q2' : a + m ≤ N := by omega
  have q4 : n ≤ m * 512 := by have := secs_of hm (by omega) (by omega); omega
  have hpo : (placeP (a : Int) a1 n).Ok := placeP_ok ha1 ha2 hb1 hb2 (by omega) (by omega)
  have hqo : (ofP (a : Int) a1 xs).Ok := ofP_ok ha1 ha2 hb1 hb2 (by omega)
  have hQF : fitsI (ofP (a : Int) a1 xs) N = 0 := (fits_of hn).trans hno
  have hQR : (ofP (a : Int) a1 xs).right = true := (fits_right hQF).1
  have hlt0 : b0 < w.heap.size := by obtain ⟨b', o', e, hlt, _⟩ := hs (by omega); injection e with e; injection e with e1; omega
  have HW := Lib.hid (fun (w' : World) (base q B M : Nat) (h : Disk w' base q B M N N 0 (zeroSecs N) (.map []) false 0) (hb : Below w.heap.size w w') (hle : w.heap.size ≤ base) =>
    bwrite_done h (by decide) (by decide) (by decide) (ht.low.more hle) (ht.keep hb) (a : Int) a1 b0 o0 n c m xs hn (hs.keep hb) hx (by omega) hc ⟨by have := h.basep; omega, by have := h.baseB; omega, by have := h.baseM; omega⟩ hpo hno hm)
  have HOf := Lib.hid (fun w' (hb : Below w.heap.size w w') => refOf_any (a : Int) a1 (some ⟨b0, o0, none⟩) n c xs w' hn (hs.keep hb) hx (by omega) (by omega) hc)
  have HRead := Lib.hid (fun (w' : World) (base q B M k : Nat) (h : Disk w' base q B M N N k (zeroSecs N) (putsD (.map []) (a : Int) xs m) false 0) (hb : Below w.heap.size w w') =>
    (show Calls Tryd.prog 11 #[.pointer (some ⟨q, 0, none⟩), .agg (pcells (ofP (a : Int) a1 xs))] w' (fun e w'' => Below w'.heap.size w' w'' ∧ ∃ g, e = .returned (.tuple #[.slice (some ⟨g, 0, none⟩) n n, .int .i64 0]) ∧ Src .u8 w'' (some ⟨g, 0, none⟩) xs) by
      have hbk : blkS (putsD (.map []) (a : Int) xs m) (zeroSecs N) a n = xs := blk_puts tidy_empty _ _ _ _ _ hn q4
      refine (bread_any h (ofP (a : Int) a1 xs) hqo (ht.keep hb) a n rfl (by rw [ofP_len, ← hn]) hQF (by rw [hbk]; exact hx)).mono ?_
      rintro e w'' ⟨hb'', ⟨_, g, _, rfl, hsg⟩ | ⟨h12, _⟩⟩
      · rw [hbk] at hsg; exact ⟨hb'', g, rfl, hsg⟩
      · rw [hbk, own_check hQR] at h12; cases h12))
  have HQS : Hid ((ofP (a : Int) a1 xs).sha.length = 32) := Lib.hid (shaS_length xs)
  have HRt := Lib.hid (fun w' => refRight_any (ofP (a : Int) a1 xs) w' hqo)
  rw [hQR] at HRt
  have HSc := Lib.hid (fun w' => refSectors_any (ofP (a : Int) a1 xs) w')
  rw [ofP_len, ← hn, show secsOf ((n : Nat) : Int) = (m : Int) from hm] at HSc
  have HQP : Hid ((ofP (a : Int) a1 xs).place = (a : Int)) := Lib.hid rfl
  have HSrc := Lib.hid hs
  have HBy := Lib.hid (fun (i k : Nat) (hk : k < 512) => sec_puts N a xs m i k hk (by omega))
  have HLen := Lib.hid hn
  have HPN := Lib.hid (puts_new (a : Int) xs m)
  have HNe := Lib.hid (fun w' => neq_pts w' (ofP (a : Int) a1 xs) (ofP (a : Int) a1 xs) (shaS_length xs) (shaS_length xs))
  rw [Pt.same_self] at HNe
  obtain ⟨Q, hQ⟩ : ∃ Q, ofP (a : Int) a1 xs = Q := ⟨_, rfl⟩
  rw [hQ] at HW HOf HRead HQS HRt HSc HQP HNe
  clear hQ hQF hQR
  have HN := Lib.hid hN
  have HM : Hid (a + m ≤ N) := Lib.hid q2'
  clear hn hs hx hpo hqo hno hc ht ha1 ha2 hb1 hb2 hm hm2 q1 q2 q2' q3 q4
  go_enter Tryd.func3, Tryd.ntmps3
  go_wp2_with fail
  have rA : Row (w.alloc (Obj.cells #[Value.int IntKind.i64 a, Value.int IntKind.i64 a1] 22)) w.heap.size 22 #[Value.int IntKind.i64 a, Value.int IntKind.i64 a1] := Row.new _ _ _
  have b1 : Below w.heap.size w (w.alloc (Obj.cells #[Value.int IntKind.i64 a, Value.int IntKind.i64 a1] 22)) := (Below.refl _ _).alloc (Nat.le_refl _) _
  generalize w.alloc (Obj.cells #[Value.int IntKind.i64 a, Value.int IntKind.i64 a1] 22) = w1 at *
  refine (new_any w1 N N1 (by omega)).mono ?_
  rintro e w2 ⟨p, B, M, rfl, hb2, hd2⟩
  have rA2 := rA.keep hb2
  have b2 := b1.trans (hb2.mono b1.size)
  have lA := rA.lt
  have z1 := b1.size
  clear rA b1 hb2
  have c0 : w2.cell? ⟨w.heap.size, 0, none⟩ = some (.int .i64 a) := rA2.cell rfl
  have c1 : w2.cell? ⟨w.heap.size, 1, none⟩ = some (.int .i64 a1) := rA2.cell rfl
  have HD2 := Lib.hid hd2
  clear hd2
  go_wp2_with fail
  refine (HW.out _ _ _ _ _ HD2.out b2 z1).mono ?_
  rintro e w3 ⟨rfl, hb3, _, hd3⟩
  rw [Nat.zero_add] at hd3
  have rA3 := rA2.keepB hb3 lA
  have b3 := b2.trans (hb3.mono z1)
  have HD3 := Lib.hid hd3
  clear rA2 b2 hb3 c0 c1 HD2 hd3
  go_wp2_with (first
    | (refine wpList_allocP 9 rfl rfl rfl ?_; intro w4 r4 hb4 hz4; have rA4 := rA3.keep hb4; have b4 := b3.trans (hb4.mono b3.size); have HD4 := Lib.hid (HD3.out.keep hb4); have l3 := rA3.lt; have l3' := HD3.out.obj.lt; have l3'' := HD3.out.secs.lt; have l3m := HD3.out.waits.lt; clear rA3 b3 HD3 hb4 hz4)
    | (refine wpList_storeP rfl (.tmp 9) (.tmp 49) rfl w3.heap.size rfl Q rfl HQS.out Pt.zero rfl r4 ?_; intro w5 r5 o5; have rA5 := o5.row rA4 (by omega); have b5 := b4.trans (o5.below.mono (by omega)); have HD5 := Lib.hid (HD4.out.grown o5.grown (by omega) (by omega) (by omega)); have c0 : w5.cell? ⟨w.heap.size, 0, none⟩ = some (.int .i64 a) := rA5.cell rfl; have c1 : w5.cell? ⟨w.heap.size, 1, none⟩ = some (.int .i64 a1) := rA5.cell rfl; clear rA4 b4 HD4 o5 r4))
  refine (HOf.out _ b5).mono ?_
  rintro e w6 ⟨rfl, hb6⟩
  have r9 := r5.keep hb6
  have b6 := b5.trans (hb6.mono b5.size)
  have HD6 := Lib.hid (HD5.out.keep hb6)
  have l6 := r9.lt
  clear rA5 r5 b5 hb6 HD5 c0 c1
  go_wp2_with (first
    | (refine wpList_allocP 10 rfl rfl rfl ?_; intro w7 r7 hb7 hz7; have r97 := r9.keep hb7; have b7 := b6.trans (hb7.mono b6.size); have HD7 := Lib.hid (HD6.out.keep hb7); have m3' := HD6.out.obj.lt; have m3'' := HD6.out.secs.lt; have m3m := HD6.out.waits.lt; clear r9 b6 HD6 hb7 hz7)
    | (refine wpList_storeP rfl (.tmp 10) (.tmp 56) rfl w6.heap.size rfl Q rfl HQS.out Pt.zero rfl r7 ?_; intro w8 r10 o8; have r98 := o8.row r97 (by omega); have b8 := b7.trans (o8.below.mono (by omega)); have HD8 := Lib.hid (HD7.out.grown o8.grown (by omega) (by omega) (by omega)); clear r97 b7 HD7 o8 r7))
  have r99 := r98.drew
  have r11 := r10.drew
  have b9 := b8.drew
  have HD9 := Lib.hid (HD8.out.keep (Below.refl w8.heap.size w8).drew)
  clear r98 r10 b8 HD8
  refine wp_region_segs [([0], 1), ([2, 3, 4, 8, 5], 6)] [7, 9, 10, 11] (by kernel_rfl) (by kernel_rfl) (by kernel_rfl) (by kernel_rfl) (fun _ _ d _ _ h => by cases d <;> exact h) ?_
  refine wpSegs_next (by simp [pickOps]; rfl) ?_
  refine wpQuiet_load_cells rfl 31 (.tmp 10) rfl w6.heap.size 0 rfl (pcells Q) _ r11.cells r11.lt Tryd.underlying31 rfl (pt_size HQS.out) ?_
  refine wpQuiet_nil ?_
  refine wpOp_alone rfl rfl (fun K hK => ?_)
  go_simp
  refine (HRt.out _).mono ?_
  rintro e w9 ⟨rfl, hb9⟩
  have r12 := r11.keep hb9
  have r912 := r99.keep hb9
  have b10 := b9.trans (hb9.mono b9.size)
  have HD10 := Lib.hid (HD9.out.keep hb9)
  refine hK _ _ ⟨hb9, ?_⟩
  clear hK K hb9 r11 r99 b9 HD9 HRt
  have c0 : ∀ x : Above w9, x.1.cell? ⟨w6.heap.size, 0, none⟩ = some (.int .i64 Q.place) := r12.above (pcells_0 Q)
  rw [HQP.out] at c0
  have hadd : IntKind.i64.wrap ((a : Int) + (m : Int)) = (a : Int) + (m : Int) := IntWalk.i64_in _ (by have := HM.out; omega)
  have t1 : decide ((a : Int) + (m : Int) ≤ (N : Int)) = true := by have := HM.out; simp; omega
  refine wpSegs_next (by simp [pickOps]; rfl) ?_
  repeat (go_big_quiet_step (fail))
  refine wpQuiet_load_cells rfl 31 (.tmp 10) rfl w6.heap.size 0 rfl (pcells Q) _ r12.cells r12.lt Tryd.underlying31 rfl (pt_size HQS.out) ?_
  refine wpQuiet_nil ?_
  refine wpOp_alone rfl rfl (fun K hK => ?_)
  go_simp
  refine (HSc.out _).mono ?_
  rintro e w11 ⟨rfl, hb11⟩
  have r13 := r12.keep hb11
  have r913 := r912.keep hb11
  have b11 := b10.trans (hb11.mono b10.size)
  have HD11 := Lib.hid (HD10.out.keep hb11)
  refine hK _ _ ⟨hb11, ?_⟩
  clear hK K hb11 c0 r12 r912 b10 HD10
  refine wpSegs_last (by simp [pickOps]; rfl) ?_
  repeat (go_big_quiet_step (fail))
  refine wpQuiet_nil ?_
  clear t1 hadd
  go_wp2_with (refine wpList_loadP (.tmp 9) rfl rfl w3.heap.size rfl Q HQS.out r913 ?_)
  refine (HRead.out _ _ _ _ _ _ HD11.out b11).mono ?_
  rintro e w12 ⟨hb12, g, rfl, hsg⟩
  have r14 := (r13.keep hb12).drew
  have r914 := (r913.keep hb12).drew
  have b12 := (b11.trans (hb12.mono b11.size)).drew
  have HD12 := Lib.hid (HD11.out.keep (hb12.drew))
  have HSg := Lib.hid (hsg.keep (Below.refl w12.heap.size w12).drew)
  have HSb := Lib.hid (HSrc.out.keep b12)
  clear r13 r913 b11 hb12 HD11 hsg HSrc HRead
  go_wp2_with fail
  refine wp_region_segs [([0, 1, 2, 3], 4), ([5, 6, 7, 8, 9, 10, 11, 12, 13, 14, 15, 16, 17, 18, 19, 21], 20), ([], 22)] [23, 24] (by kernel_rfl) (by kernel_rfl) (by kernel_rfl) (by kernel_rfl) (fun _ _ d _ _ h => by cases d <;> exact h) ?_
  refine wpSegs_next (by simp [pickOps]; rfl) ?_
  repeat (go_big_quiet_step (fail))
  refine wpQuiet_load_cells rfl 31 (.tmp 9) rfl w3.heap.size 0 rfl (pcells Q) _ r914.cells r914.lt Tryd.underlying31 rfl (pt_size HQS.out) ?_
  refine wpQuiet_nil ?_
  refine wpOp_alone rfl rfl (fun K hK => ?_)
  refine wp_load_cells 31 (.tmp 10) rfl w6.heap.size 0 rfl (pcells Q) _ r14.cells Tryd.underlying31 rfl (pt_size HQS.out) ?_
  refine hK _ _ ⟨Ext.refl _, ?_⟩
  clear hK K
  have hne := HNe.out
  have tx : ∀ y : Above w12.drew, (convert 23 9 (.slice (some ⟨g, 0, none⟩) n n)).run Tryd.prog y.1 = .ok (.string (strOfNums xs)) y.1 := fun y => run_text y.1 (some ⟨g, 0, none⟩) n n xs HLen.out (HSg.out.keep y.2)
  have ty : ∀ y : Above w12.drew, (convert 23 9 (.slice (some ⟨b0, o0, none⟩) n c)).run Tryd.prog y.1 = .ok (.string (strOfNums xs)) y.1 := fun y => run_text y.1 (some ⟨b0, o0, none⟩) n c xs HLen.out (HSb.out.keep y.2)
  generalize strOfNums xs = S at *
  go_simp
  refine wpSegs_next (by simp [pickOps]; rfl) ?_
  repeat (go_big_quiet_step (fail))
  clear hne tx ty
  refine wpQuiet_load_cells rfl 31 (.tmp 10) rfl w6.heap.size 0 rfl (pcells Q) _ r14.cells r14.lt Tryd.underlying31 rfl (pt_size HQS.out) ?_
  refine wpQuiet_nil ?_
  refine wpOp_alone rfl rfl (fun K hK => ?_)
  go_simp
  refine (disk_waiting HD12.out).mono ?_
  rintro e w13 ⟨rfl, rfl⟩
  rw [HPN.out]
  refine hK _ _ ⟨Ext.refl _, ?_⟩
  clear hK K HPN
  refine wpSegs_next (by simp [pickOps]; rfl) ?_
  refine wpQuiet_nil ?_
  refine wpOp_alone rfl rfl (fun K hK => ?_)
  go_simp
  refine (HSc.out _).mono ?_
  rintro e w14 ⟨rfl, hb14⟩
  have r15 := r14.keep hb14
  have b14 := b12.trans (hb14.mono b12.size)
  have HD14 := Lib.hid (HD12.out.keep hb14)
  have HSc := Lib.hid (HSb.out.keep hb14)
  refine hK _ _ ⟨hb14, ?_⟩
  clear hK K hb14 r14 r914 b12 HD12 HSb HSg HOf HW
  refine wpSegs_last (by simp [pickOps]; rfl) ?_
  repeat (go_big_quiet_step (fail))
  refine wpQuiet_nil ?_
  go_wp2_with fail
  have start : SecsAt w14 N (.int .i64 0) w14 := ⟨0, Nat.zero_le _, rfl, Below.refl _ _⟩
  go_loopw [20] (fun iv wr => SecsAt w14 N iv wr) (fun iv _ => N - (intOf iv).toNat)
  case atStart => exact start
  case round =>
    clear start
    obtain ⟨i, hi, rfl, hbi⟩ := hrel
    by_cases hlt : i < N
    · have gi : (i : Int) < N := by omega
      go_wp2_with fail
      refine (sread_any (HD14.out.keep hbi) i hlt).mono ?_
      rintro e ws ⟨gs, rfl, hgs, hbs, hrow, hl⟩
      have hb15 := hbi.trans (hbs.mono hbi.size)
      have HB15 := Lib.hid hb15
      have HQr := Lib.hid (r15.keep hb15)
      have HSr := Lib.hid (HSc.out.keep hb15)
      have HR := Lib.hid hrow
      have HL := Lib.hid hl
      have HI := Lib.hid hlt
      clear hbi hbs hgs hrow hl hb15 gi hi hlt
      go_wp2_with fail
      go_loopw [23] (fun kv w5 => ∃ k : Nat, k ≤ 512 ∧ kv = .int .i64 k ∧ w5 = ws) (fun kv _ => 512 - (intOf kv).toNat)
      case atStart => exact ⟨0, by omega, rfl, rfl⟩
      case round =>
        obtain ⟨k, hk, rfl, rfl⟩ := hrel
        by_cases hk5 : k < 512
        · have gk : (k : Int) < 512 := by omega
          have c0 := row_place HQr.out
          rw [HQP.out] at c0
          have cs := HR.out.cell (bcells_at _ k (by rw [HL.out]; exact hk5))
          rw [HBy.out i k hk5] at cs
          have am := HM.out
          have im := HI.out
          obtain ⟨d1, h1⟩ : ∃ d1 : Int, (i : Int) - (a : Int) = d1 := ⟨_, rfl⟩
          obtain ⟨d2, h2⟩ : ∃ d2 : Int, 512 * d1 = d2 := ⟨_, rfl⟩
          have w1' : IntKind.i64.wrap ((i : Int) - (a : Int)) = d1 := by rw [IntWalk.i64_in _ (by omega)]; exact h1
          have w2' : IntKind.i64.wrap (512 * d1) = d2 := by rw [IntWalk.i64_in _ (by omega)]; exact h2
          by_cases hai : i < a
          · rw [if_neg (by omega)] at cs
            obtain ⟨d3, h3⟩ : ∃ d3 : Int, d2 + (k : Int) = d3 := ⟨_, rfl⟩
            have w3' : IntKind.i64.wrap (d2 + (k : Int)) = d3 := by rw [IntWalk.i64_in _ (by omega)]; exact h3
            have t1 : decide (0 ≤ d3) = false := by simp; omega
            clear h1 h2 h3 am im hai hk hk5
            go_wp2_with fail
            go_roundw
            case rel => exact ⟨k + 1, by omega, by go_num, by trivial⟩
            case measure => simp [intOf]; omega
          · obtain ⟨j, h3⟩ : ∃ j : Nat, i * 512 + k - a * 512 = j := ⟨_, rfl⟩
            rw [if_pos (by omega), h3] at cs
            have w3' : IntKind.i64.wrap (d2 + (k : Int)) = (j : Int) := by rw [IntWalk.i64_in _ (by omega)]; omega
            by_cases hj : j < n
            · have gj : (j : Int) < (n : Nat) := by omega
              have cb := src_cell HSr.out (show j < xs.length by rw [← HLen.out]; exact hj)
              generalize xs.getD j 0 = y at *
              clear h1 h2 h3 am im hai hk hk5 hj
              go_wp2_with fail
              go_roundw
              case rel => exact ⟨k + 1, by omega, by go_num, by trivial⟩
              case measure => simp [intOf]; omega
            · have gj : ¬ (j : Int) < (n : Nat) := by omega
              rw [List.getD_eq_getElem?_getD, List.getElem?_eq_none (by rw [← HLen.out]; omega)] at cs
              replace cs : wr.cell? ⟨gs, k, none⟩ = some (.int .u8 0) := cs
              clear h1 h2 h3 am im hai hk hk5 hj
              go_wp2_with fail
              go_roundw
              case rel => exact ⟨k + 1, by omega, by go_num, by trivial⟩
              case measure => simp [intOf]; omega
        · obtain rfl : k = 512 := by omega
          rw [show ((512 : Nat) : Int) = (512 : Int) from rfl]
          clear hk hk5
          have gi2 : (i : Int) < 64 := by have := HI.out; omega
          go_wp2_with fail
          go_roundw
          case rel => exact ⟨i + 1, by have := HI.out; omega, by go_num, HB15.out⟩
          case measure => have := HI.out; simp [intOf]; omega
    · obtain rfl : i = N := by omega
      clear hi hlt
      go_wp2_with fail
      go_ret
      exact ⟨rfl, b14.trans (hbi.mono b14.size)⟩
set_option maxRecDepth 100000 in
set_option maxHeartbeats 8000000 in
theorem bwrites_yes_big (b0 o0 nn c N : Nat) (xs : List Int) (n0 a0 a1 : Int) (w : World) (hn : 3000 = xs.length) (hs : Src .u8 w (some ⟨b0, o0, none⟩) xs) (hx : IsBytes xs) (hl : 3000 < nn) (hnc : nn ≤ c) (hc : c ≤ 9223372036854775807) (ht : Tabs w)
    (ha1 : -9223372036854775808 ≤ a0) (ha2 : a0 ≤ 9223372036854775807) (hb1 : -9223372036854775808 ≤ a1) (hb2 : a1 ≤ 9223372036854775807) (hN : 1 + bits .and .i64 n0 63 = (N : Int)) (hno : fitsI (placeP a0 a1 3000) N = 0) :
    Calls Tryd.prog 3 #[.int .i64 n0, .agg #[.int .i64 a0, .int .i64 a1], .slice (some ⟨b0, o0, none⟩) nn c] w fun e w' => e = .returned (.bool true) ∧ Below w.heap.size w w' := by
  have hd : decide ((3000 : Int) < (nn : Int)) = true := by simp; omega
  have hd2 : (3000 : Int) ≤ (c : Int) := by omega
  obtain ⟨v, hv⟩ : ∃ v, bits .and .i64 n0 63 = v := ⟨_, rfl⟩
  obtain ⟨v0, v1⟩ : 0 ≤ v ∧ v ≤ 63 := by rw [← hv]; exact mask_and n0 63 (by decide)
  rw [hv] at hN
  have N1 : 1 ≤ N := by omega
  have N2 : N ≤ 64 := by omega
  obtain ⟨m, hm, hm2⟩ := secs_nat 3000
  obtain ⟨q1, q2, q3⟩ := fits_place 3000 hm hno
  obtain ⟨a, rfl⟩ : ∃ a : Nat, a0 = (a : Int) := ⟨a0.toNat, by omega⟩
  have q2' : a + m ≤ N := by omega
  have q4 : 3000 ≤ m * 512 := by have := secs_of hm (by omega) (by omega); omega
  have hpo : (placeP (a : Int) a1 3000).Ok := placeP_ok ha1 ha2 hb1 hb2 (by omega) (by omega)
  have hqo : (ofP (a : Int) a1 xs).Ok := ofP_ok ha1 ha2 hb1 hb2 (by omega)
  have hQF : fitsI (ofP (a : Int) a1 xs) N = 0 := (fits_of hn).trans hno
  have hQR : (ofP (a : Int) a1 xs).right = true := (fits_right hQF).1
  have hlt0 : b0 < w.heap.size := by obtain ⟨b', o', e, hlt, _⟩ := hs (by omega); injection e with e; injection e with e1; omega
  have HW := Lib.hid (fun (w' : World) (base q B M : Nat) (h : Disk w' base q B M N N 0 (zeroSecs N) (.map []) false 0) (hb : Below w.heap.size w w') (hle : w.heap.size ≤ base) =>
    bwrite_done h (by decide) (by decide) (by decide) (ht.low.more hle) (ht.keep hb) (a : Int) a1 b0 o0 3000 c m xs hn (hs.keep hb) hx (by omega) hc ⟨by have := h.basep; omega, by have := h.baseB; omega, by have := h.baseM; omega⟩ hpo hno hm)
  have HOf := Lib.hid (fun w' (hb : Below w.heap.size w w') => refOf_any (a : Int) a1 (some ⟨b0, o0, none⟩) 3000 c xs w' hn (hs.keep hb) hx (by omega) (by omega) hc)
  have HRead := Lib.hid (fun (w' : World) (base q B M k : Nat) (h : Disk w' base q B M N N k (zeroSecs N) (putsD (.map []) (a : Int) xs m) false 0) (hb : Below w.heap.size w w') =>
    (show Calls Tryd.prog 11 #[.pointer (some ⟨q, 0, none⟩), .agg (pcells (ofP (a : Int) a1 xs))] w' (fun e w'' => Below w'.heap.size w' w'' ∧ ∃ g, e = .returned (.tuple #[.slice (some ⟨g, 0, none⟩) 3000 3000, .int .i64 0]) ∧ Src .u8 w'' (some ⟨g, 0, none⟩) xs) by
      have hbk : blkS (putsD (.map []) (a : Int) xs m) (zeroSecs N) a 3000 = xs := blk_puts tidy_empty _ _ _ _ _ hn q4
      refine (bread_any h (ofP (a : Int) a1 xs) hqo (ht.keep hb) a 3000 rfl (by rw [ofP_len, ← hn]) hQF (by rw [hbk]; exact hx)).mono ?_
      rintro e w'' ⟨hb'', ⟨_, g, _, rfl, hsg⟩ | ⟨h12, _⟩⟩
      · rw [hbk] at hsg; exact ⟨hb'', g, rfl, hsg⟩
      · rw [hbk, own_check hQR] at h12; cases h12))
  have HQS : Hid ((ofP (a : Int) a1 xs).sha.length = 32) := Lib.hid (shaS_length xs)
  have HRt := Lib.hid (fun w' => refRight_any (ofP (a : Int) a1 xs) w' hqo)
  rw [hQR] at HRt
  have HSc := Lib.hid (fun w' => refSectors_any (ofP (a : Int) a1 xs) w')
  rw [ofP_len, ← hn, show secsOf ((3000 : Nat) : Int) = (m : Int) from hm] at HSc
  have HQP : Hid ((ofP (a : Int) a1 xs).place = (a : Int)) := Lib.hid rfl
  have HSrc := Lib.hid hs
  have HBy := Lib.hid (fun (i k : Nat) (hk : k < 512) => sec_puts N a xs m i k hk (by omega))
  have HLen := Lib.hid hn
  have HPN := Lib.hid (puts_new (a : Int) xs m)
  have HNe := Lib.hid (fun w' => neq_pts w' (ofP (a : Int) a1 xs) (ofP (a : Int) a1 xs) (shaS_length xs) (shaS_length xs))
  rw [Pt.same_self] at HNe
  obtain ⟨Q, hQ⟩ : ∃ Q, ofP (a : Int) a1 xs = Q := ⟨_, rfl⟩
  rw [hQ] at HW HOf HRead HQS HRt HSc HQP HNe
  clear hQ hQF hQR
  have HN := Lib.hid hN
  have HM : Hid (a + m ≤ N) := Lib.hid q2'
  clear hn hs hx hpo hqo hno hc ht ha1 ha2 hb1 hb2 hm hm2 q1 q2 q2' q3 q4
  go_enter Tryd.func3, Tryd.ntmps3
  go_wp2_with fail
  have rA : Row (w.alloc (Obj.cells #[Value.int IntKind.i64 a, Value.int IntKind.i64 a1] 22)) w.heap.size 22 #[Value.int IntKind.i64 a, Value.int IntKind.i64 a1] := Row.new _ _ _
  have b1 : Below w.heap.size w (w.alloc (Obj.cells #[Value.int IntKind.i64 a, Value.int IntKind.i64 a1] 22)) := (Below.refl _ _).alloc (Nat.le_refl _) _
  generalize w.alloc (Obj.cells #[Value.int IntKind.i64 a, Value.int IntKind.i64 a1] 22) = w1 at *
  refine (new_any w1 N N1 (by omega)).mono ?_
  rintro e w2 ⟨p, B, M, rfl, hb2, hd2⟩
  have rA2 := rA.keep hb2
  have b2 := b1.trans (hb2.mono b1.size)
  have lA := rA.lt
  have z1 := b1.size
  clear rA b1 hb2
  have c0 : w2.cell? ⟨w.heap.size, 0, none⟩ = some (.int .i64 a) := rA2.cell rfl
  have c1 : w2.cell? ⟨w.heap.size, 1, none⟩ = some (.int .i64 a1) := rA2.cell rfl
  have HD2 := Lib.hid hd2
  clear hd2
  go_wp2_with fail
  refine (HW.out _ _ _ _ _ HD2.out b2 z1).mono ?_
  rintro e w3 ⟨rfl, hb3, _, hd3⟩
  rw [Nat.zero_add] at hd3
  have rA3 := rA2.keepB hb3 lA
  have b3 := b2.trans (hb3.mono z1)
  have HD3 := Lib.hid hd3
  clear rA2 b2 hb3 c0 c1 HD2 hd3
  go_wp2_with (first
    | (refine wpList_allocP 9 rfl rfl rfl ?_; intro w4 r4 hb4 hz4; have rA4 := rA3.keep hb4; have b4 := b3.trans (hb4.mono b3.size); have HD4 := Lib.hid (HD3.out.keep hb4); have l3 := rA3.lt; have l3' := HD3.out.obj.lt; have l3'' := HD3.out.secs.lt; have l3m := HD3.out.waits.lt; clear rA3 b3 HD3 hb4 hz4)
    | (refine wpList_storeP rfl (.tmp 9) (.tmp 49) rfl w3.heap.size rfl Q rfl HQS.out Pt.zero rfl r4 ?_; intro w5 r5 o5; have rA5 := o5.row rA4 (by omega); have b5 := b4.trans (o5.below.mono (by omega)); have HD5 := Lib.hid (HD4.out.grown o5.grown (by omega) (by omega) (by omega)); have c0 : w5.cell? ⟨w.heap.size, 0, none⟩ = some (.int .i64 a) := rA5.cell rfl; have c1 : w5.cell? ⟨w.heap.size, 1, none⟩ = some (.int .i64 a1) := rA5.cell rfl; clear rA4 b4 HD4 o5 r4))
  refine (HOf.out _ b5).mono ?_
  rintro e w6 ⟨rfl, hb6⟩
  have r9 := r5.keep hb6
  have b6 := b5.trans (hb6.mono b5.size)
  have HD6 := Lib.hid (HD5.out.keep hb6)
  have l6 := r9.lt
  clear rA5 r5 b5 hb6 HD5 c0 c1
  go_wp2_with (first
    | (refine wpList_allocP 10 rfl rfl rfl ?_; intro w7 r7 hb7 hz7; have r97 := r9.keep hb7; have b7 := b6.trans (hb7.mono b6.size); have HD7 := Lib.hid (HD6.out.keep hb7); have m3' := HD6.out.obj.lt; have m3'' := HD6.out.secs.lt; have m3m := HD6.out.waits.lt; clear r9 b6 HD6 hb7 hz7)
    | (refine wpList_storeP rfl (.tmp 10) (.tmp 56) rfl w6.heap.size rfl Q rfl HQS.out Pt.zero rfl r7 ?_; intro w8 r10 o8; have r98 := o8.row r97 (by omega); have b8 := b7.trans (o8.below.mono (by omega)); have HD8 := Lib.hid (HD7.out.grown o8.grown (by omega) (by omega) (by omega)); clear r97 b7 HD7 o8 r7))
  have r99 := r98.drew
  have r11 := r10.drew
  have b9 := b8.drew
  have HD9 := Lib.hid (HD8.out.keep (Below.refl w8.heap.size w8).drew)
  clear r98 r10 b8 HD8
  refine wp_region_segs [([0], 1), ([2, 3, 4, 8, 5], 6)] [7, 9, 10, 11] (by kernel_rfl) (by kernel_rfl) (by kernel_rfl) (by kernel_rfl) (fun _ _ d _ _ h => by cases d <;> exact h) ?_
  refine wpSegs_next (by simp [pickOps]; rfl) ?_
  refine wpQuiet_load_cells rfl 31 (.tmp 10) rfl w6.heap.size 0 rfl (pcells Q) _ r11.cells r11.lt Tryd.underlying31 rfl (pt_size HQS.out) ?_
  refine wpQuiet_nil ?_
  refine wpOp_alone rfl rfl (fun K hK => ?_)
  go_simp
  refine (HRt.out _).mono ?_
  rintro e w9 ⟨rfl, hb9⟩
  have r12 := r11.keep hb9
  have r912 := r99.keep hb9
  have b10 := b9.trans (hb9.mono b9.size)
  have HD10 := Lib.hid (HD9.out.keep hb9)
  refine hK _ _ ⟨hb9, ?_⟩
  clear hK K hb9 r11 r99 b9 HD9 HRt
  have c0 : ∀ x : Above w9, x.1.cell? ⟨w6.heap.size, 0, none⟩ = some (.int .i64 Q.place) := r12.above (pcells_0 Q)
  rw [HQP.out] at c0
  have hadd : IntKind.i64.wrap ((a : Int) + (m : Int)) = (a : Int) + (m : Int) := IntWalk.i64_in _ (by have := HM.out; omega)
  have t1 : decide ((a : Int) + (m : Int) ≤ (N : Int)) = true := by have := HM.out; simp; omega
  refine wpSegs_next (by simp [pickOps]; rfl) ?_
  repeat (go_big_quiet_step (fail))
  refine wpQuiet_load_cells rfl 31 (.tmp 10) rfl w6.heap.size 0 rfl (pcells Q) _ r12.cells r12.lt Tryd.underlying31 rfl (pt_size HQS.out) ?_
  refine wpQuiet_nil ?_
  refine wpOp_alone rfl rfl (fun K hK => ?_)
  go_simp
  refine (HSc.out _).mono ?_
  rintro e w11 ⟨rfl, hb11⟩
  have r13 := r12.keep hb11
  have r913 := r912.keep hb11
  have b11 := b10.trans (hb11.mono b10.size)
  have HD11 := Lib.hid (HD10.out.keep hb11)
  refine hK _ _ ⟨hb11, ?_⟩
  clear hK K hb11 c0 r12 r912 b10 HD10
  refine wpSegs_last (by simp [pickOps]; rfl) ?_
  repeat (go_big_quiet_step (fail))
  refine wpQuiet_nil ?_
  clear t1 hadd
  go_wp2_with (refine wpList_loadP (.tmp 9) rfl rfl w3.heap.size rfl Q HQS.out r913 ?_)
  refine (HRead.out _ _ _ _ _ _ HD11.out b11).mono ?_
  rintro e w12 ⟨hb12, g, rfl, hsg⟩
  have r14 := (r13.keep hb12).drew
  have r914 := (r913.keep hb12).drew
  have b12 := (b11.trans (hb12.mono b11.size)).drew
  have HD12 := Lib.hid (HD11.out.keep (hb12.drew))
  have HSg := Lib.hid (hsg.keep (Below.refl w12.heap.size w12).drew)
  have HSb := Lib.hid (HSrc.out.keep b12)
  clear r13 r913 b11 hb12 HD11 hsg HSrc HRead
  go_wp2_with fail
  refine wp_region_segs [([0, 1, 2, 3], 4), ([5, 6, 7, 8, 9, 10, 11, 12, 13, 14, 15, 16, 17, 18, 19, 21], 20), ([], 22)] [23, 24] (by kernel_rfl) (by kernel_rfl) (by kernel_rfl) (by kernel_rfl) (fun _ _ d _ _ h => by cases d <;> exact h) ?_
  refine wpSegs_next (by simp [pickOps]; rfl) ?_
  repeat (go_big_quiet_step (fail))
  refine wpQuiet_load_cells rfl 31 (.tmp 9) rfl w3.heap.size 0 rfl (pcells Q) _ r914.cells r914.lt Tryd.underlying31 rfl (pt_size HQS.out) ?_
  refine wpQuiet_nil ?_
  refine wpOp_alone rfl rfl (fun K hK => ?_)
  refine wp_load_cells 31 (.tmp 10) rfl w6.heap.size 0 rfl (pcells Q) _ r14.cells Tryd.underlying31 rfl (pt_size HQS.out) ?_
  refine hK _ _ ⟨Ext.refl _, ?_⟩
  clear hK K
  have hne := HNe.out
  have tx : ∀ y : Above w12.drew, (convert 23 9 (.slice (some ⟨g, 0, none⟩) 3000 3000)).run Tryd.prog y.1 = .ok (.string (strOfNums xs)) y.1 := fun y => run_text y.1 (some ⟨g, 0, none⟩) 3000 3000 xs HLen.out (HSg.out.keep y.2)
  have ty : ∀ y : Above w12.drew, (convert 23 9 (.slice (some ⟨b0, o0, none⟩) 3000 c)).run Tryd.prog y.1 = .ok (.string (strOfNums xs)) y.1 := fun y => run_text y.1 (some ⟨b0, o0, none⟩) 3000 c xs HLen.out (HSb.out.keep y.2)
  generalize strOfNums xs = S at *
  go_simp
  refine wpSegs_next (by simp [pickOps]; rfl) ?_
  repeat (go_big_quiet_step (fail))
  clear hne tx ty
  refine wpQuiet_load_cells rfl 31 (.tmp 10) rfl w6.heap.size 0 rfl (pcells Q) _ r14.cells r14.lt Tryd.underlying31 rfl (pt_size HQS.out) ?_
  refine wpQuiet_nil ?_
  refine wpOp_alone rfl rfl (fun K hK => ?_)
  go_simp
  refine (disk_waiting HD12.out).mono ?_
  rintro e w13 ⟨rfl, rfl⟩
  rw [HPN.out]
  refine hK _ _ ⟨Ext.refl _, ?_⟩
  clear hK K HPN
  refine wpSegs_next (by simp [pickOps]; rfl) ?_
  refine wpQuiet_nil ?_
  refine wpOp_alone rfl rfl (fun K hK => ?_)
  go_simp
  refine (HSc.out _).mono ?_
  rintro e w14 ⟨rfl, hb14⟩
  have r15 := r14.keep hb14
  have b14 := b12.trans (hb14.mono b12.size)
  have HD14 := Lib.hid (HD12.out.keep hb14)
  have HSc := Lib.hid (HSb.out.keep hb14)
  refine hK _ _ ⟨hb14, ?_⟩
  clear hK K hb14 r14 r914 b12 HD12 HSb HSg HOf HW
  refine wpSegs_last (by simp [pickOps]; rfl) ?_
  repeat (go_big_quiet_step (fail))
  refine wpQuiet_nil ?_
  go_wp2_with fail
  have start : SecsAt w14 N (.int .i64 0) w14 := ⟨0, Nat.zero_le _, rfl, Below.refl _ _⟩
  go_loopw [20] (fun iv wr => SecsAt w14 N iv wr) (fun iv _ => N - (intOf iv).toNat)
  case atStart => exact start
  case round =>
    clear start
    obtain ⟨i, hi, rfl, hbi⟩ := hrel
    by_cases hlt : i < N
    · have gi : (i : Int) < N := by omega
      go_wp2_with fail
      refine (sread_any (HD14.out.keep hbi) i hlt).mono ?_
      rintro e ws ⟨gs, rfl, hgs, hbs, hrow, hl⟩
      have hb15 := hbi.trans (hbs.mono hbi.size)
      have HB15 := Lib.hid hb15
      have HQr := Lib.hid (r15.keep hb15)
      have HSr := Lib.hid (HSc.out.keep hb15)
      have HR := Lib.hid hrow
      have HL := Lib.hid hl
      have HI := Lib.hid hlt
      clear hbi hbs hgs hrow hl hb15 gi hi hlt
      go_wp2_with fail
      go_loopw [23] (fun kv w5 => ∃ k : Nat, k ≤ 512 ∧ kv = .int .i64 k ∧ w5 = ws) (fun kv _ => 512 - (intOf kv).toNat)
      case atStart => exact ⟨0, by omega, rfl, rfl⟩
      case round =>
        obtain ⟨k, hk, rfl, rfl⟩ := hrel
        by_cases hk5 : k < 512
        · have gk : (k : Int) < 512 := by omega
          have c0 := row_place HQr.out
          rw [HQP.out] at c0
          have cs := HR.out.cell (bcells_at _ k (by rw [HL.out]; exact hk5))
          rw [HBy.out i k hk5] at cs
          have am := HM.out
          have im := HI.out
          obtain ⟨d1, h1⟩ : ∃ d1 : Int, (i : Int) - (a : Int) = d1 := ⟨_, rfl⟩
          obtain ⟨d2, h2⟩ : ∃ d2 : Int, 512 * d1 = d2 := ⟨_, rfl⟩
          have w1' : IntKind.i64.wrap ((i : Int) - (a : Int)) = d1 := by rw [IntWalk.i64_in _ (by omega)]; exact h1
          have w2' : IntKind.i64.wrap (512 * d1) = d2 := by rw [IntWalk.i64_in _ (by omega)]; exact h2
          by_cases hai : i < a
          · rw [if_neg (by omega)] at cs
            obtain ⟨d3, h3⟩ : ∃ d3 : Int, d2 + (k : Int) = d3 := ⟨_, rfl⟩
            have w3' : IntKind.i64.wrap (d2 + (k : Int)) = d3 := by rw [IntWalk.i64_in _ (by omega)]; exact h3
            have t1 : decide (0 ≤ d3) = false := by simp; omega
            clear h1 h2 h3 am im hai hk hk5
            go_wp2_with fail
            go_roundw
            case rel => exact ⟨k + 1, by omega, by go_num, by trivial⟩
            case measure => simp [intOf]; omega
          · obtain ⟨j, h3⟩ : ∃ j : Nat, i * 512 + k - a * 512 = j := ⟨_, rfl⟩
            rw [if_pos (by omega), h3] at cs
            have w3' : IntKind.i64.wrap (d2 + (k : Int)) = (j : Int) := by rw [IntWalk.i64_in _ (by omega)]; omega
            by_cases hj : j < 3000
            · have gj : (j : Int) < (3000 : Nat) := by omega
              have cb := src_cell HSr.out (show j < xs.length by rw [← HLen.out]; exact hj)
              generalize xs.getD j 0 = y at *
              clear h1 h2 h3 am im hai hk hk5 hj
              go_wp2_with fail
              go_roundw
              case rel => exact ⟨k + 1, by omega, by go_num, by trivial⟩
              case measure => simp [intOf]; omega
            · have gj : ¬ (j : Int) < (3000 : Nat) := by omega
              rw [List.getD_eq_getElem?_getD, List.getElem?_eq_none (by rw [← HLen.out]; omega)] at cs
              replace cs : wr.cell? ⟨gs, k, none⟩ = some (.int .u8 0) := cs
              clear h1 h2 h3 am im hai hk hk5 hj
              go_wp2_with fail
              go_roundw
              case rel => exact ⟨k + 1, by omega, by go_num, by trivial⟩
              case measure => simp [intOf]; omega
        · obtain rfl : k = 512 := by omega
          rw [show ((512 : Nat) : Int) = (512 : Int) from rfl]
          clear hk hk5
          have gi2 : (i : Int) < 64 := by have := HI.out; omega
          go_wp2_with fail
          go_roundw
          case rel => exact ⟨i + 1, by have := HI.out; omega, by go_num, HB15.out⟩
          case measure => have := HI.out; simp [intOf]; omega
    · obtain rfl : i = N := by omega
      clear hi hlt
      go_wp2_with fail
      go_ret
      exact ⟨rfl, b14.trans (hbi.mono b14.size)⟩
end Go.Proofs.YtnllladoipcfkaaDoor

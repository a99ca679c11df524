/- The document's Open: as the program's. No conditions but those that stand in each lemma. -/
import Derived.Test.YtcolicmefehcnaaDoorLblRefSeal
import Derived.Test.YtcolicmefehcnaaDoorLblOpen
import Derived.Test.YtcolicmefehcnaaDoorPtrRefRead
namespace Go.Proofs.YtcolicmefehcnaaDoor
open Go.RowKit

theorem readPt_bad {xs : List Int} (h : readErr xs ≠ 0) : readPt xs = Pt.zero := by
  unfold readErr at h
  unfold readPt
  split
  · rfl
  · rename_i h1
    rw [if_neg h1] at h
    split
    · rename_i h2
      rw [if_pos h2] at h
      exact absurd rfl h
    · rfl
/-- Open's answer, without the root's own error. -/
theorem openE_plain {xs : List Int} (hl : 512 ≤ xs.length) (hq : sumOk xs = true) : openE xs = if (lbOf xs).right = true ∧ sealB (lbOf xs) = xs.take 512 then 0 else 11 := by
  unfold openE
  rw [if_neg (by omega), if_neg (by rw [hq]; decide)]
  by_cases hr : rootErr xs = 0
  · rw [if_neg (by rw [hr]; decide)]
  · rw [if_pos hr, if_neg]
    rintro ⟨_, e⟩
    have hz : (lbOf xs).root = Pt.zero := readPt_bad hr
    have hs : (lbOf xs).root.sha.length = 32 := by rw [hz]; rfl
    have h1 := seal_root (lbOf xs) hs []
    rw [List.append_nil, e, hz] at h1
    refine hr (putZero_reads _ (by rw [List.length_take, List.length_drop]; omega) ?_)
    have h2 := congrArg (List.take 52) h1
    rw [List.take_append_of_le_length (by rw [putOf_length _ rfl]; exact Nat.le_refl _), List.take_of_length_le (l := putOf Pt.zero) (by rw [putOf_length _ rfl]; exact Nat.le_refl _), List.drop_take, List.take_take, List.take_take] at h2
    rw [List.take_take]
    exact h2
theorem lbOf_short (xs : List Int) (hl : 512 ≤ xs.length) : (⟨i64w (numAt xs 0 8), readPt ((xs.drop 20).take 52), i64w (numAt xs 12 8)⟩ : Lb) = lbOf xs := by
  unfold lbOf
  rw [(readPt_first ((xs.drop 20).take 480) (by rw [List.length_take, List.length_drop]; omega)).1, List.take_take]
  rfl
theorem Tryd.resultsROpen : Tryd.f10.results = #[.cell 2 34, .tmp 3] := by kernel_rfl
set_option maxHeartbeats 1000000 in
theorem ropen_small (A : Option Addr) (n c : Nat) (xs : List Int) (w : World) (hn : n = xs.length) (hl : n < 512) : Calls Tryd.prog 10 #[.slice A n c] w (OpenEnds xs w) := by
  have H2 := Lib.hid (show openE xs = 10 by unfold openE; rw [if_pos (by omega)])
  have H1 := Lib.hid (show openL xs = Lb.zero by unfold openL; rw [H2.out]; rfl)
  have hd : decide ((n : Int) < 512) = true := by simp; omega
  have hd2 : decide (n < 512) = true := by simp; omega
  clear hn hl
  go_enter Tryd.func10, Tryd.ntmps10
  go_wp2_with (first
    | (refine wpList_allocL ltR 2 rfl rfl rfl ?_; intro w2 q2 b2 _)
    | (refine wpList_build0 ltR rfl rfl ?_)
    | (refine wpList_storeL ltR rfl (.tmp 2) (.tmp 22) rfl w.heap.size rfl Lb.zero rfl rfl Lb.zero rfl q2 ?_; intro w3 q3 o3; have b3 := b2.trans o3.below; clear q2 b2 o3))
  refine bodyPost_ret (v := .tuple #[.agg (lcells Lb.zero), .int .i64 10]) ?_ rfl ?_
  · exact results_cell_tmp_row Tryd.resultsROpen _ _ w.heap.size 34 (lcells Lb.zero) (0, 0) _ rfl q3 ltR.struct rfl (lb_size ltR rfl)
  · exact ⟨by rw [H1.out, H2.out], b3⟩
/-- What Take answers of a part. -/
def PartEnds (V : Int) (w : World) (e : Ending) (w' : World) : Prop := ∃ A n c T, e = .returned (.tuple #[.int .u64 V, .slice A n c, .bool T]) ∧ Below w.heap.size w w'
theorem rtake_part {w W : World} {b o c : Nat} {xs : List Int} (j k : Nat) (h1 : 1 ≤ k) (h8 : k ≤ 8) (hj : j + k ≤ xs.length) (hs : Src .u8 w (some ⟨b, o, none⟩) xs) (hx : IsBytes xs) (hnc : xs.length ≤ c) (hc : c ≤ 9223372036854775807) (hb : Below w.heap.size w W) :
    Calls Tryd.prog 26 #[.slice (some ⟨b, o + j, none⟩) k (c - j), .int .i64 (k : Int)] W (PartEnds (numAt xs j k) W) := by
  have hl : ((xs.drop j).take k).length = k := by rw [List.length_take, List.length_drop]; omega
  refine (takeRef_any (some ⟨b, o + j, none⟩) k (c - j) ((xs.drop j).take k) (k : Int) W hl.symm (src_cut (c := c) (hs.keep hb) j k (by omega) hnc) ((hx.drop _).take _) (by omega) (by omega) (by omega) (by omega) (by omega)).mono ?_
  rintro e w' ⟨A1, n1, c1, rfl, _, _, hb1⟩
  rw [takeNum_full _ k hl h1 h8]
  exact ⟨A1, n1, c1, _, rfl, hb1⟩
theorem rtake_first {w W : World} {b o c : Nat} {xs : List Int} (k : Nat) (h1 : 1 ≤ k) (h8 : k ≤ 8) (hj : k ≤ xs.length) (hs : Src .u8 w (some ⟨b, o, none⟩) xs) (hx : IsBytes xs) (hnc : xs.length ≤ c) (hc : c ≤ 9223372036854775807) (hb : Below w.heap.size w W) :
    Calls Tryd.prog 26 #[.slice (some ⟨b, o, none⟩) k c, .int .i64 (k : Int)] W (PartEnds (numAt xs 0 k) W) := by
  have := rtake_part (w := w) (W := W) (c := c) 0 k h1 h8 (by omega) hs hx hnc hc hb
  exact this

set_option maxRecDepth 100000 in
set_option maxHeartbeats 8000000 in
theorem ropen_big (b o n c : Nat) (xs : List Int) (w : World) (hn : n = xs.length) (hs : Src .u8 w (some ⟨b, o, none⟩) xs) (hx : IsBytes xs) (h : 512 ≤ n) (hnc : n ≤ c) (hc : c ≤ 9223372036854775807) :
    Calls Tryd.prog 10 #[.slice (some ⟨b, o, none⟩) n c] w (OpenEnds xs w) := by
  have hd : decide ((n : Int) < 512) = false := by simp; omega
  have hd2 : decide (n < 512) = false := by simp; omega
  have h512 : (512 : Int) ≤ (c : Int) := by omega
  have h504 : (504 : Int) ≤ (c : Int) := by omega
  have h500 : (500 : Int) ≤ (c : Int) := by omega
  have h72 : (72 : Int) ≤ (c : Int) := by omega
  have h20 : (20 : Int) ≤ (c : Int) := by omega
  have h8 : (8 : Int) ≤ (c : Int) := by omega
  have k500 : 500 < c := by omega
  have k20 : 20 < c := by omega
  have k12 : 12 < c := by omega
  have n500 : ¬ c = 500 := by omega
  have n20 : ¬ c = 20 := by omega
  have n12 : ¬ c = 12 := by omega
  have HL := Lib.hid (show 512 ≤ xs.length by omega)
  have HTs : Hid (∀ W, Below w.heap.size w W → Calls Tryd.prog 26 #[.slice (some ⟨b, o + 500, none⟩) 4 (c - 500), .int .i64 4] W (PartEnds (numAt xs 500 4) W)) :=
    Lib.hid (fun W hW => rtake_part 500 4 (by omega) (by omega) (by omega) hs hx (by omega) hc hW)
  have HTe : Hid (∀ W, Below w.heap.size w W → Calls Tryd.prog 26 #[.slice (some ⟨b, o, none⟩) 8 c, .int .i64 8] W (PartEnds (numAt xs 0 8) W)) :=
    Lib.hid (fun W hW => rtake_first 8 (by omega) (by omega) (by omega) hs hx (by omega) hc hW)
  have HTn : Hid (∀ W, Below w.heap.size w W → Calls Tryd.prog 26 #[.slice (some ⟨b, o + 12, none⟩) 8 (c - 12), .int .i64 8] W (PartEnds (numAt xs 12 8) W)) :=
    Lib.hid (fun W hW => rtake_part 12 8 (by omega) (by omega) (by omega) hs hx (by omega) hc hW)
  have HSm : Hid (∀ W, Below w.heap.size w W → Calls Tryd.prog 21 #[.int .u32 0, .slice (some ⟨b, o, none⟩) 500 c] W fun e w' => e = .returned (.int .u32 (uv (goW 0#32 (xs.take 500)))) ∧ W = w') :=
    Lib.hid (fun W hW => refGo_any 0#32 (some ⟨b, o, none⟩) 500 c (xs.take 500) W (by rw [List.length_take]; omega) ((hs.keep hW).take 500) (hx.take 500) (by omega))
  have HRd : Hid (∀ W, Below w.heap.size w W → Calls Tryd.prog 27 #[.slice (some ⟨b, o + 20, none⟩) 52 (c - 20)] W fun e w' => e = .returned (.tuple #[.agg (pcells (readPt ((xs.drop 20).take 52))), .int .i64 (readErr ((xs.drop 20).take 52))]) ∧ Below W.heap.size W w') :=
    Lib.hid (fun W hW => refRead_any (some ⟨b, o + 20, none⟩) 52 (c - 20) ((xs.drop 20).take 52) W (by rw [List.length_take, List.length_drop]; omega) (src_cut (c := c) (hs.keep hW) 20 52 (by omega) (by omega)) ((hx.drop _).take _) (by omega) (by omega))
  have HSl : Hid (∀ W, Calls Tryd.prog 8 #[.agg (lcells (lbOf xs))] W (SealEnds (lbOf xs) W)) :=
    Lib.hid (fun W => rseal_any (lbOf xs) W (lbOf_ok xs hx))
  have HTx : Hid (∀ W, Below w.heap.size w W → (convert 28 9 (.slice (some ⟨b, o, none⟩) 512 c)).run Tryd.prog W = .ok (.string (strOfNums (xs.take 512))) W) :=
    Lib.hid (fun W hW => run_text W _ 512 c (xs.take 512) (by rw [List.length_take]; omega) ((hs.keep hW).take 512))
  have HXt := Lib.hid (hx.take 512)
  have HOK := Lib.hid (lbOf_ok xs hx)
  have HPO := Lib.hid (readPt_ok ((xs.drop 20).take 52) ((hx.drop _).take _)).shaL
  have HLb := Lib.hid (lbOf_short xs (by omega))
  have v0 := numAt_lo xs 500 4
  have v1 := numAt_hi4 xs 500 hx
  have uu4 : IntKind.u32.wrap (numAt xs 500 4) = numAt xs 500 4 := by rw [IntKind.wrap_u32]; omega
  clear hn hs hx h hnc hc v0 v1
  have HE12 : Hid (sumOk xs = false → openE xs = 12) := Lib.hid (fun hq => by unfold openE; rw [if_neg (by have := HL.out; omega), if_pos hq])
  have HEE : Hid (sumOk xs = true → openE xs = if (lbOf xs).right = true ∧ sealB (lbOf xs) = xs.take 512 then 0 else 11) := Lib.hid (fun hq => openE_plain HL.out hq)
  have hSO : sumOk xs = (numAt xs 500 4 == uv (goW 0#32 (xs.take 500))) := rfl
  generalize numAt xs 500 4 = V at *
  generalize uv (goW 0#32 (xs.take 500)) = U at *
  generalize readErr ((xs.drop 20).take 52) = E0 at *
  generalize readPt ((xs.drop 20).take 52) = rt at *
  have uu0 : IntKind.i64.wrap (numAt xs 0 8) = i64w (numAt xs 0 8) := by rw [IntKind.wrap_i64]; rfl
  have uu1 : IntKind.i64.wrap (numAt xs 12 8) = i64w (numAt xs 12 8) := by rw [IntKind.wrap_i64]; rfl
  generalize numAt xs 0 8 = V0 at *
  generalize numAt xs 12 8 = V1 at *
  cases hq : sumOk xs with
  | false =>
    have HE := Lib.hid (HE12.out hq)
    have HZ := Lib.hid (openL_none (xs := xs) (by rw [HE.out]; decide))
    rw [hq] at hSO
    have f1 : (V != U) = true := by unfold bne; rw [← hSO]; rfl
    have f3 : ¬ V = U := fun e => by rw [e] at hSO; simp at hSO
    clear hq hSO
    go_enter Tryd.func10, Tryd.ntmps10
    go_wp2_with (refine wpList_allocL ltR 2 rfl rfl rfl ?_; intro w2 q2 b2 _)
    refine (HTs.out _ b2).mono ?_
    rintro e w3 ⟨A3, n3, c3, T3, rfl, hb3⟩
    have q3 := q2.keep hb3
    have b3 := b2.trans (hb3.mono b2.size)
    clear q2 b2 hb3
    go_wp2_with fail
    refine (HSm.out _ b3).mono ?_
    rintro e w' ⟨rfl, rfl⟩
    go_wp2_with (first
      | (refine wpList_build0 ltR rfl rfl ?_)
      | (refine wpList_storeL ltR rfl (.tmp 2) (.tmp 38) rfl w.heap.size rfl Lb.zero rfl rfl Lb.zero rfl q3 ?_; intro w6 q6 o6; have b6 := b3.trans o6.below; clear q3 b3 o6))
    refine bodyPost_ret (v := .tuple #[.agg (lcells Lb.zero), .int .i64 12]) ?_ rfl ?_
    · exact results_cell_tmp_row Tryd.resultsROpen _ _ w.heap.size 34 (lcells Lb.zero) (0, 0) _ rfl q6 ltR.struct rfl (lb_size ltR rfl)
    · exact ⟨by rw [HE.out, HZ.out], b6⟩
  | true =>
    have HE := Lib.hid (HEE.out hq)
    rw [hq] at hSO
    have f1 : (V != U) = false := by unfold bne; rw [← hSO]; rfl
    have f3 : V = U := eq_of_beq hSO.symm
    subst f3
    clear hq hSO
    go_enter Tryd.func10, Tryd.ntmps10
    go_wp2_with (refine wpList_allocL ltR 2 rfl rfl rfl ?_; intro w2 q2 b2 _)
    refine (HTs.out _ b2).mono ?_
    rintro e w3 ⟨A3, n3, c3, T3, rfl, hb3⟩
    have q3 := q2.keep hb3
    have b3 := b2.trans (hb3.mono b2.size)
    clear q2 b2 hb3
    go_wp2_with fail
    refine (HSm.out _ b3).mono ?_
    rintro e w' ⟨rfl, rfl⟩
    clear HTs HSm
    go_wp2_with fail
    refine (HTe.out _ b3).mono ?_
    rintro e w4 ⟨A4, n4, c4, T4, rfl, hb4⟩
    have q4 := q3.keep hb4
    have b4 := b3.trans (hb4.mono b3.size)
    clear q3 b3 hb4 HTe f1 uu4
    go_wp2_with fail
    refine (HTn.out _ b4).mono ?_
    rintro e w5 ⟨A5, n5, c5, T5, rfl, hb5⟩
    have q5 := q4.keep hb5
    have b5 := b4.trans (hb5.mono b4.size)
    clear q4 b4 hb5 HTn
    go_wp2_with fail
    refine (HRd.out _ b5).mono ?_
    rintro e w6 ⟨rfl, hb6⟩
    have q6 := q5.keep hb6
    have b6 := b5.trans (hb6.mono b5.size)
    have lt6 := q6.lt
    clear q5 b5 hb6 HRd
    go_wp2_with (first
      | (refine wpList_allocP 13 rfl rfl rfl ?_; intro w7 r7 hb7 hz7; have q7 := q6.keep hb7; have b7 := b6.trans (hb7.mono b6.size); have s6 := b6.size; clear q6 b6 hb7 hz7)
      | (refine wpList_storeP rfl (.tmp 13) (.tmp 57) rfl w6.heap.size rfl rt rfl HPO.out Pt.zero rfl r7 ?_; intro w8 r8 o8; have q8 := o8.row q7 (by omega); have b8 := b7.trans (o8.below.mono s6); have lt8 := q8.lt; clear q7 b7 o8 r7)
      | (refine wpList_loadP (.tmp 13) rfl rfl w6.heap.size rfl rt HPO.out r8 ?_)
      | (refine wpList_build3 ltR (.tmp 60) (.tmp 61) (.tmp 63) rfl rfl (i64w V0) (i64w V1) rt HPO.out rfl rfl rfl ?_)
      | (refine wpList_allocL ltR 15 rfl rfl rfl ?_; intro w9 r9 hb9 hz9; have q9 := q8.keep hb9; have b9 := b8.trans (hb9.mono b8.size); have s8 := b8.size; clear q8 b8 hb9 hz9 r8)
      | (refine wpList_storeL ltR rfl (.tmp 15) (.tmp 64) rfl w8.heap.size rfl ⟨i64w V0, rt, i64w V1⟩ rfl HPO.out Lb.zero rfl r9 ?_; intro w10 r10 o10; have q10 := o10.row q9 (by omega); have b10 := b9.trans (o10.below.mono s8); clear q9 b9 o10 r9)
      | (refine wpList_loadL (.tmp 15) _ ltR rfl rfl w8.heap.size rfl ⟨i64w V0, rt, i64w V1⟩ HPO.out r10 ?_))
    rw [HLb.out] at r10 ⊢
    have HLs := Lib.hid HOK.out.root.shaL
    refine (HSl.out _).mono ?_
    rintro e w11 ⟨hb11, ⟨hrt, g2, c2, rfl, ho2⟩ | ⟨hrt, rfl⟩⟩
    · have q11 := q10.keep hb11
      have r11 := r10.keep hb11
      have b11 := b10.trans (hb11.mono b10.size)
      have tx := run_text w11 (some ⟨g2, 0, none⟩) 512 c2 (sealB (lbOf xs)) (sealB_length _ HLs.out).symm ho2.src
      have ty := HTx.out _ b11
      have hts := text_same (sealB_bytes _ HOK.out.root.shaB) HXt.out
      clear q10 r10 b10 hb11 ho2 HTx
      generalize strOfNums (xs.take 512) = TX at *
      generalize strOfNums (sealB (lbOf xs)) = TS at *
      cases hd3 : decide (sealB (lbOf xs) = xs.take 512) with
      | true =>
        have HE0 := Lib.hid (show openE xs = 0 by rw [HE.out, if_pos ⟨hrt, of_decide_eq_true hd3⟩])
        have HL0 := Lib.hid (show openL xs = lbOf xs by unfold openL; rw [if_pos HE0.out])
        rw [hd3] at hts
        have t1 : (TS.toList != TX.toList) = false := by unfold bne; rw [hts]; rfl
        have t2 : TS.toList = TX.toList := eq_of_beq hts
        clear hd3 hrt hts
        go_wp2_with (first
          | (refine wpList_loadL (.tmp 15) _ ltR rfl rfl w8.heap.size rfl (lbOf xs) HLs.out r11 ?_)
          | (refine wpList_storeL ltR rfl (.tmp 2) (.tmp 81) rfl w.heap.size rfl (lbOf xs) rfl HLs.out Lb.zero rfl q11 ?_; intro w13 q13 o13; have b13 := b11.trans o13.below; clear q11 b11 o13))
        refine bodyPost_ret (v := .tuple #[.agg (lcells (lbOf xs)), .int .i64 0]) ?_ rfl ?_
        · exact results_cell_tmp_row Tryd.resultsROpen _ _ w.heap.size 34 (lcells (lbOf xs)) (0, 0) _ rfl q13 ltR.struct rfl (lb_size ltR HLs.out)
        · exact ⟨by rw [HE0.out, HL0.out], b13⟩
      | false =>
        have HE0 := Lib.hid (show openE xs = 11 by rw [HE.out, if_neg (fun h => absurd (decide_eq_true h.2) (by rw [hd3]; decide))])
        have HZ := Lib.hid (openL_none (xs := xs) (by rw [HE0.out]; decide))
        rw [hd3] at hts
        have t1 : (TS.toList != TX.toList) = true := by unfold bne; rw [hts]; rfl
        have t2 : ¬ TS.toList = TX.toList := fun e => by rw [e] at hts; simp at hts
        clear hd3 hrt
        go_wp2_with (first
          | (refine wpList_build0 ltR rfl rfl ?_)
          | (refine wpList_storeL ltR rfl (.tmp 2) (.tmp 80) rfl w.heap.size rfl Lb.zero rfl rfl Lb.zero rfl q11 ?_; intro w13 q13 o13; have b13 := b11.trans o13.below; clear q11 b11 o13))
        refine bodyPost_ret (v := .tuple #[.agg (lcells Lb.zero), .int .i64 11]) ?_ rfl ?_
        · exact results_cell_tmp_row Tryd.resultsROpen _ _ w.heap.size 34 (lcells Lb.zero) (0, 0) _ rfl q13 ltR.struct rfl (lb_size ltR rfl)
        · exact ⟨by rw [HE0.out, HZ.out], b13⟩
    · have q11 := q10.keep hb11
      have b11 := b10.trans (hb11.mono b10.size)
      have HE0 := Lib.hid (show openE xs = 11 by rw [HE.out, if_neg (fun h => by rw [hrt] at h; exact absurd h.1 (by decide))])
      have HZ := Lib.hid (openL_none (xs := xs) (by rw [HE0.out]; decide))
      clear q10 r10 b10 hb11 hrt
      go_wp2_with (first
        | (refine wpList_build0 ltR rfl rfl ?_)
        | (refine wpList_storeL ltR rfl (.tmp 2) (.tmp 80) rfl w.heap.size rfl Lb.zero rfl rfl Lb.zero rfl q11 ?_; intro w13 q13 o13; have b13 := b11.trans o13.below; clear q11 b11 o13))
      refine bodyPost_ret (v := .tuple #[.agg (lcells Lb.zero), .int .i64 11]) ?_ rfl ?_
      · exact results_cell_tmp_row Tryd.resultsROpen _ _ w.heap.size 34 (lcells Lb.zero) (0, 0) _ rfl q13 ltR.struct rfl (lb_size ltR rfl)
      · exact ⟨by rw [HE0.out, HZ.out], b13⟩
theorem ropen_any (A : Option Addr) (n c : Nat) (xs : List Int) (w : World) (hn : n = xs.length) (hs : Src .u8 w A xs) (hx : IsBytes xs) (hnc : n ≤ c) (hc : c ≤ 9223372036854775807) :
    Calls Tryd.prog 10 #[.slice A n c] w (OpenEnds xs w) := by
  by_cases h : n < 512
  · exact ropen_small A n c xs w hn h
  · obtain ⟨b, o, rfl, _, _⟩ := hs (by omega)
    exact ropen_big b o n c xs w hn hs hx (by omega) hnc hc
end Go.Proofs.YtcolicmefehcnaaDoor

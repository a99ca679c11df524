/- Open: any bytes are their label, or its error; nothing that was there is written. No conditions but those that stand in each lemma. -/
import Derived.Test.YtcolicmefehcnaaDoorLblPart
import Derived.Test.YtcolicmefehcnaaDoorLblDraw
namespace Go.Proofs.YtcolicmefehcnaaDoor
open Go.RowKit

theorem Tryd.resultsOpen : Tryd.f9.results = #[.cell 2 27, .tmp 3] := by kernel_rfl
/-- What Open answers. -/
def OpenEnds (xs : List Int) (w : World) (e : Ending) (w' : World) : Prop := e = .returned (.tuple #[.agg (lcells (openL xs)), .int .i64 (openE xs)]) ∧ Below w.heap.size w w'
/-- The call's two first variables: the bytes, and the answer. -/
def OSt (w : World) (s : Value) (W : World) : Prop := Row W w.heap.size 28 #[s] ∧ Row W (w.heap.size + 1) 27 (lcells Lb.zero) ∧ Below w.heap.size w W
theorem OSt.keep {w W W' : World} {s : Value} (h : OSt w s W) (hb : Below W.heap.size W W') : OSt w s W' := ⟨h.1.keep hb, h.2.1.keep hb, h.2.2.trans (hb.mono h.2.2.size)⟩
theorem OSt.only {w W W' : World} {s : Value} {g : Nat} (h : OSt w s W) (hb : Only g W W') (hg : w.heap.size + 1 < g) : OSt w s W' := ⟨hb.row h.1 (by omega), hb.row h.2.1 (by omega), h.2.2.trans (hb.below.mono (by omega))⟩
theorem OSt.above {w W : World} {s : Value} (h : OSt w s W) : ∀ x : Above W, x.1.cell? ⟨w.heap.size, 0, none⟩ = some s := h.1.above (j := 0) rfl
theorem OSt.start {w w2 : World} {s : Value} (q : Row w2 (w.heap.size + 1) 27 (lcells Lb.zero)) (hb : Below (w.heap.size + 1) (w.alloc (.cells #[s] 28)) w2) : OSt w s w2 :=
  ⟨(Row.new w 28 #[s]).keepB hb (Nat.lt_succ_self _), q, ((Below.refl _ _).alloc (Nat.le_refl _) _).trans (hb.mono (Nat.le_succ _))⟩
set_option maxHeartbeats 1000000 in
theorem open_small (A : Option Addr) (n c : Nat) (xs : List Int) (w : World) (hn : n = xs.length) (hl : n < 512) : Calls Tryd.prog 9 #[.slice A n c] w (OpenEnds xs w) := by
  have H2 := Lib.hid (show openE xs = 10 by unfold openE; rw [if_pos (by omega)])
  have H1 := Lib.hid (show openL xs = Lb.zero by unfold openL; rw [H2.out]; rfl)
  have hd : decide ((n : Int) < 512) = true := by simp; omega
  have hd2 : decide (n < 512) = true := by simp; omega
  clear hn hl
  go_enter Tryd.func9, Tryd.ntmps9
  go_wp2_with (first
    | (refine wpList_allocLg ltL 2 rfl rfl rfl (w.heap.size + 1) (alloc_size w _) ?_; intro w2 q2 hb2 _; have s2 := OSt.start q2 hb2; have c0 := s2.1.cell (j := 0) rfl; clear q2 hb2)
    | (refine wpList_build0 ltL rfl rfl ?_)
    | (refine wpList_storeL ltL rfl (.tmp 2) (.tmp 13) rfl (w.heap.size + 1) rfl Lb.zero rfl rfl Lb.zero rfl s2.2.1 ?_; intro w3 q3 o3; have b3 := s2.2.2.trans (o3.below.mono (Nat.le_succ _)); clear c0 s2 o3))
  refine bodyPost_ret (v := .tuple #[.agg (lcells Lb.zero), .int .i64 10]) ?_ rfl ?_
  · exact results_cell_tmp_row Tryd.resultsOpen _ _ (w.heap.size + 1) 27 (lcells Lb.zero) (0, 0) _ rfl q3 ltL.struct rfl (lb_size ltL rfl)
  · exact ⟨by rw [H1.out, H2.out], b3⟩
theorem rootErr_cases (xs : List Int) (h : 512 ≤ xs.length) : rootErr xs = 0 ∨ rootErr xs = 11 := by
  unfold rootErr readErr
  rw [if_neg (by rw [List.length_take, List.length_drop]; omega)]
  split
  · exact .inl rfl
  · exact .inr rfl
theorem OSt.cut {w W W' : World} {s : Value} {g : Nat} (h : OSt w s W) (hb : Only g W W') (hg : w.heap.size + 1 < g) : OSt w s W' := h.only hb hg
set_option maxRecDepth 100000 in
set_option maxHeartbeats 8000000 in
theorem open_big (b o n c : Nat) (xs : List Int) (w : World) (ht : Tab w) (hn : n = xs.length) (hs : Src .u8 w (some ⟨b, o, none⟩) xs) (hx : IsBytes xs) (h : 512 ≤ n) (hnc : n ≤ c) (hc : c ≤ 9223372036854775807) :
    Calls Tryd.prog 9 #[.slice (some ⟨b, o, none⟩) n c] w (OpenEnds xs w) := by
  have hd : decide ((n : Int) < 512) = false := by simp; omega
  have hd2 : decide (n < 512) = false := by simp; omega
  have h500 : (500 : Int) ≤ (c : Int) := by omega
  have h512 : (512 : Int) ≤ (c : Int) := by omega
  have hc20 : 20 < c := by omega
  have hne : ¬ c = 20 := by omega
  have HL := Lib.hid (show 512 ≤ xs.length by omega)
  have HPS : Hid (∀ W, OSt w (.slice (some ⟨b, o, none⟩) n c) W → Calls Tryd.prog 22 #[.int .i64 500, .int .i64 4, .pointer (some ⟨w.heap.size, 0, none⟩)] W fun e w' => e = .returned (.int .u64 (numAt xs 500 4)) ∧ Below W.heap.size W w') :=
    Lib.hid (fun W hW => part_sum w.heap.size b o n c xs W hW.1 hn (hs.keep hW.2.2) hx h hnc hc)
  have HPE : Hid (∀ W, OSt w (.slice (some ⟨b, o, none⟩) n c) W → Calls Tryd.prog 22 #[.int .i64 0, .int .i64 8, .pointer (some ⟨w.heap.size, 0, none⟩)] W fun e w' => e = .returned (.int .u64 (numAt xs 0 8)) ∧ Below W.heap.size W w') :=
    Lib.hid (fun W hW => part_epoch w.heap.size b o n c xs W hW.1 hn (hs.keep hW.2.2) hx h hnc hc)
  have HPN : Hid (∀ W, OSt w (.slice (some ⟨b, o, none⟩) n c) W → Calls Tryd.prog 22 #[.int .i64 12, .int .i64 8, .pointer (some ⟨w.heap.size, 0, none⟩)] W fun e w' => e = .returned (.int .u64 (numAt xs 12 8)) ∧ Below W.heap.size W w') :=
    Lib.hid (fun W hW => part_next w.heap.size b o n c xs W hW.1 hn (hs.keep hW.2.2) hx h hnc hc)
  have HSm : Hid (∀ W, OSt w (.slice (some ⟨b, o, none⟩) n c) W → Calls Tryd.prog 16 #[.slice (some ⟨b, o, none⟩) 500 c] W fun e w' => e = .returned (.int .u32 (uv (goW 0#32 (xs.take 500)))) ∧ Below W.heap.size W w') :=
    Lib.hid (fun W hW => sum_any (some ⟨b, o, none⟩) 500 c (xs.take 500) W (ht.keep hW.2.2) (by rw [List.length_take]; omega) ((hs.keep hW.2.2).take 500) (hx.take 500) (by omega))
  have HRd : Hid (∀ W, OSt w (.slice (some ⟨b, o, none⟩) n c) W → Calls Tryd.prog 24 #[.slice (some ⟨b, o + 20, none⟩) 480 (c - 20)] W fun e w' => e = .returned (.tuple #[.agg (pcells (lbOf xs).root), .int .i64 (rootErr xs)]) ∧ Below W.heap.size W w') :=
    Lib.hid (fun W hW => read_any (some ⟨b, o + 20, none⟩) 480 (c - 20) ((xs.drop 20).take 480) W (by rw [List.length_take, List.length_drop]; omega) (src_cut (c := c) (hs.keep hW.2.2) 20 480 (by omega) (by omega)) ((hx.drop _).take _) (by omega) (by omega))
  have HSl : Hid (∀ W, OSt w (.slice (some ⟨b, o, none⟩) n c) W → Calls Tryd.prog 7 #[.agg (lcells (lbOf xs))] W (SealEnds (lbOf xs) W)) :=
    Lib.hid (fun W hW => seal_any (lbOf xs) W (lbOf_ok xs hx) (ht.keep hW.2.2))
  have HEq : Hid (∀ g d ys W, OSt w (.slice (some ⟨b, o, none⟩) n c) W → Src .u8 W (some ⟨g, 0, none⟩) ys → IsBytes ys → ys.length = 512 → Calls Tryd.prog 25 #[.slice (some ⟨g, 0, none⟩) 512 d, .slice (some ⟨b, o, none⟩) 512 c] W fun e w' => e = .returned (.bool (decide (ys = xs.take 512))) ∧ W = w') :=
    Lib.hid (fun g d ys W hW hsy hy hly => equal_any (some ⟨g, 0, none⟩) 512 d ys (some ⟨b, o, none⟩) 512 c (xs.take 512) W hly.symm hsy hy (by rw [List.length_take]; omega) ((hs.keep hW.2.2).take 512) (hx.take 512))
  have HRE := Lib.hid (rootErr_cases xs (by omega))
  have HOK := Lib.hid (lbOf_ok xs hx)
  have HW4 := Lib.hid (uv_wrap64 (goW 0#32 (xs.take 500)))
  clear ht hn hs hx h hnc hc
  have HE12 : Hid (sumOk xs = false → openE xs = 12) := Lib.hid (fun hq => by unfold openE; rw [if_neg (by have := HL.out; omega), if_pos hq])
  have HE11 : Hid (sumOk xs = true → rootErr xs = 11 → openE xs = 11) := Lib.hid (fun hq hr => by unfold openE; rw [if_neg (by have := HL.out; omega), if_neg (by rw [hq]; decide), if_pos (by rw [hr]; decide)])
  have HEE : Hid (sumOk xs = true → rootErr xs = 0 → openE xs = if (lbOf xs).right = true ∧ sealB (lbOf xs) = xs.take 512 then 0 else 11) := Lib.hid (fun hq hr => by unfold openE; rw [if_neg (by have := HL.out; omega), if_neg (by rw [hq]; decide), if_neg (by rw [hr]; decide)])
  have HSO := Lib.hid (show sumOk xs = (numAt xs 500 4 == uv (goW 0#32 (xs.take 500))) from rfl)
  cases hq : sumOk xs with
  | false =>
    have HE := Lib.hid (HE12.out hq)
    have HZ := Lib.hid (openL_none (xs := xs) (by rw [HE.out]; decide))
    have hv := HSO.out
    rw [hq] at hv
    have f1 : (numAt xs 500 4 != uv (goW 0#32 (xs.take 500))) = true := by unfold bne; rw [← hv]; rfl
    have f3 : ¬ numAt xs 500 4 = uv (goW 0#32 (xs.take 500)) := fun e => by rw [e] at hv; simp at hv
    have Hq := Lib.hid hq
    clear hq hv
    go_enter Tryd.func9, Tryd.ntmps9
    go_wp2_with (refine wpList_allocLg ltL 2 rfl rfl rfl (w.heap.size + 1) (alloc_size w _) ?_; intro w2 q2 hb2 _; have s2 := OSt.start q2 hb2; have c0 := s2.1.cell (j := 0) rfl; clear q2 hb2)
    clear c0
    have c0 := OSt.above (s2.keep (Ext.drew _))
    have s3 : OSt w (.slice (some ⟨b, o, none⟩) n c) w2.drew := s2.keep (Ext.drew _)
    clear s2
    refine wp_region_segs [([0, 2, 3], 1), ([], 4)] [5, 6] (by kernel_rfl) (by kernel_rfl) (by kernel_rfl) (by kernel_rfl) (fun _ _ d _ _ h => by cases d <;> exact h) ?_
    refine wpSegs_next (by simp [pickOps]; rfl) ?_
    repeat (go_big_quiet_step (fail))
    refine wpQuiet_nil ?_
    refine wpOp_alone rfl rfl (fun K hK => ?_)
    go_simp
    refine (HPS.out _ s3).mono ?_
    rintro e w3 ⟨rfl, hb3⟩
    have s4 := s3.keep hb3
    refine hK _ _ ⟨hb3, ?_⟩
    clear hK K hb3 s3 c0
    refine wpSegs_next (by simp [pickOps]; rfl) ?_
    repeat (go_big_quiet_step (fail))
    refine wpQuiet_nil ?_
    refine wpOp_alone rfl rfl (fun K hK => ?_)
    go_simp
    refine (HSm.out _ s4).mono ?_
    rintro e w4 ⟨rfl, hb4⟩
    have s5 := s4.keep hb4
    refine hK _ _ ⟨hb4, ?_⟩
    clear hK K hb4 s4
    have hw4 := HW4.out
    generalize numAt xs 500 4 = V at *
    generalize uv (goW 0#32 (xs.take 500)) = U at *
    refine wpSegs_last (by simp [pickOps]; rfl) ?_
    repeat (go_big_quiet_step (fail))
    refine wpQuiet_nil ?_
    go_wp2_with (first
      | (refine wpList_build0 ltL rfl rfl ?_)
      | (refine wpList_storeL ltL rfl (.tmp 2) (.tmp 22) rfl (w.heap.size + 1) rfl Lb.zero rfl rfl Lb.zero rfl s5.2.1 ?_; intro w6 q6 o6; have b6 := s5.2.2.trans (o6.below.mono (Nat.le_succ _)); clear s5 o6))
    refine bodyPost_ret (v := .tuple #[.agg (lcells Lb.zero), .int .i64 12]) ?_ rfl ?_
    · exact results_cell_tmp_row Tryd.resultsOpen _ _ (w.heap.size + 1) 27 (lcells Lb.zero) (0, 0) _ rfl q6 ltL.struct rfl (lb_size ltL rfl)
    · exact ⟨by rw [HE.out, HZ.out], b6⟩
  | true =>
    have hv := HSO.out
    rw [hq] at hv
    have f1 : (numAt xs 500 4 != uv (goW 0#32 (xs.take 500))) = false := by unfold bne; rw [← hv]; rfl
    have f2 : (numAt xs 500 4 == uv (goW 0#32 (xs.take 500))) = true := hv.symm
    have f3 : numAt xs 500 4 = uv (goW 0#32 (xs.take 500)) := eq_of_beq f2
    have F1 := Lib.hid f1
    have Hq := Lib.hid hq
    clear hq hv
    go_enter Tryd.func9, Tryd.ntmps9
    go_wp2_with (refine wpList_allocLg ltL 2 rfl rfl rfl (w.heap.size + 1) (alloc_size w _) ?_; intro w2 q2 hb2 _; have s2 := OSt.start q2 hb2; have c0 := s2.1.cell (j := 0) rfl; clear q2 hb2)
    clear c0
    have c0 := OSt.above (s2.keep (Ext.drew _))
    have s3 : OSt w (.slice (some ⟨b, o, none⟩) n c) w2.drew := s2.keep (Ext.drew _)
    clear s2
    refine wp_region_segs [([0, 2, 3], 1), ([], 4)] [5, 6] (by kernel_rfl) (by kernel_rfl) (by kernel_rfl) (by kernel_rfl) (fun _ _ d _ _ h => by cases d <;> exact h) ?_
    refine wpSegs_next (by simp [pickOps]; rfl) ?_
    repeat (go_big_quiet_step (fail))
    refine wpQuiet_nil ?_
    refine wpOp_alone rfl rfl (fun K hK => ?_)
    go_simp
    refine (HPS.out _ s3).mono ?_
    rintro e w3 ⟨rfl, hb3⟩
    have s4 := s3.keep hb3
    refine hK _ _ ⟨hb3, ?_⟩
    clear hK K hb3 s3 c0
    refine wpSegs_next (by simp [pickOps]; rfl) ?_
    repeat (go_big_quiet_step (fail))
    refine wpQuiet_nil ?_
    refine wpOp_alone rfl rfl (fun K hK => ?_)
    go_simp
    refine (HSm.out _ s4).mono ?_
    rintro e w4 ⟨rfl, hb4⟩
    have s5 := s4.keep hb4
    refine hK _ _ ⟨hb4, ?_⟩
    clear hK K hb4 s4
    have hw4 := HW4.out
    generalize numAt xs 500 4 = V at *
    generalize uv (goW 0#32 (xs.take 500)) = U at *
    refine wpSegs_last (by simp [pickOps]; rfl) ?_
    repeat (go_big_quiet_step (fail))
    refine wpQuiet_nil ?_
    clear f1 f2 f3 F1 hw4 HSO HW4
    have c0 := s5.1.cell (j := 0) rfl
    go_wp2_with fail
    refine (HRd.out _ s5).mono ?_
    rintro e w6 ⟨rfl, hb6⟩
    have s6 := s5.keep hb6
    clear s5 hb6 c0
    have HRS := Lib.hid HOK.out.root.shaL
    obtain ⟨rt, hrt⟩ : ∃ r, r = (lbOf xs).root := ⟨_, rfl⟩
    rw [← hrt] at HRS ⊢
    have HRT := Lib.hid hrt
    clear hrt
    rcases HRE.out with hr | hr
    · have HE := Lib.hid (HEE.out Hq.out hr)
      rw [hr]
      clear hr
      have lt6 := s6.2.1.lt
      go_wp2_with (first
        | (refine wpList_allocP 5 rfl rfl rfl ?_; intro w7 r7 hb7 hz7; have s7 := s6.keep hb7; clear s6 hb7 hz7)
        | (refine wpList_storeP rfl (.tmp 5) (.tmp 27) rfl w6.heap.size rfl rt rfl HRS.out Pt.zero rfl r7 ?_; intro w8 r8 o8; have s8 := s7.only o8 lt6; clear s7 o8 r7))
      have s9 : OSt w (.slice (some ⟨b, o, none⟩) n c) w8.drew := s8.keep (Ext.drew _)
      have HLb := Lib.hid (show (⟨i64w (numAt xs 0 8), rt, i64w (numAt xs 12 8)⟩ : Lb) = lbOf xs by rw [HRT.out]; rfl)
      have HRs := Lib.hid (pt_size HRS.out)
      have HCr : Hid (∀ g : AboveR Ext w8.drew, Cells g.1 w6.heap.size 0 (pcells rt)) := Lib.hid (fun g => (r8.drew.keep g.2).cells)
      have uu0 : IntKind.i64.wrap (numAt xs 0 8) = i64w (numAt xs 0 8) := by rw [IntKind.wrap_i64]; rfl
      have uu1 : IntKind.i64.wrap (numAt xs 12 8) = i64w (numAt xs 12 8) := by rw [IntKind.wrap_i64]; rfl
      generalize numAt xs 0 8 = V0 at *
      generalize numAt xs 12 8 = V1 at *
      clear s8 r8
      go_cut [7] from 10 (fun v wx => ∃ g, v = .pointer (some ⟨g, 0, none⟩) ∧ w.heap.size + 1 < g ∧ Row wx g 27 (lcells ⟨i64w V0, rt, i64w V1⟩) ∧ OSt w (.slice (some ⟨b, o, none⟩) n c) wx)
      case first =>
        refine wp_region_treeT Ext 9 (.two [0, 4, 3] 1 8 (.two [2] 5 8 (.two [6] 7 8 (.one [] 8 (.tail [] 9)) (.one [] 7 (.tail [] 9))) (.one [] 5 (.one [6] 7 (.tail [] 9)))) (.one [] 1 (.one [2] 5 (.one [6] 7 (.tail [] 9))))) (by kernel_rfl) (by kernel_rfl) (by decide) (by kernel_rfl) (by kernel_rfl) (fun _ _ d _ _ h => by cases d <;> exact h) ?_
        generalize w8.drew = W8 at *
        refine wpTree_two (by simp [pickOps]; rfl) ?_
        repeat (go_big_quiet_step (fail))
        refine wpQuiet_load_cellsR rfl 25 (.tmp 5) rfl w6.heap.size 0 rfl (pcells rt) _ HCr.out Tryd.structP rfl HRs.out ?_
        refine wpQuiet_nil ?_
        go_simp
        refine ⟨?_, ?_⟩
        · refine wpOp_alone rfl rfl (fun K hK => ?_)
          go_simp
          refine (HPE.out _ s9).mono ?_
          rintro e v1 ⟨rfl, hb1⟩
          have sa1 := s9.keep hb1
          refine hK _ _ ⟨hb1, ?_⟩
          clear hK K hb1 s9
          refine wpTree_two (by simp [pickOps]; rfl) ?_
          repeat (go_big_quiet_step (fail))
          refine wpQuiet_nil ?_
          refine ⟨?_, ?_⟩
          · refine wpOp_alone rfl rfl (fun K hK => ?_)
            go_simp
            refine (HPN.out _ sa1).mono ?_
            rintro e v2 ⟨rfl, hb2⟩
            have sa2 := sa1.keep hb2
            refine hK _ _ ⟨hb2, ?_⟩
            clear hK K hb2 sa1
            refine wpTree_two (by simp [pickOps]; rfl) ?_
            repeat (go_big_quiet_step (fail))
            refine wpQuiet_nil ?_
            refine ⟨?_, ?_⟩
            · refine wpOp_alone rfl rfl (fun K hK => ?_)
              refine wp_build3 ltL (.tmp 34) (.tmp 35) (.tmp 38) rfl (i64w V0) (i64w V1) rt HRS.out rfl rfl rfl ?_
              refine hK _ _ ⟨Ext.refl _, ?_⟩
              clear hK K
              go_simp
              refine wpTree_one (by simp [pickOps]; rfl) ?_
              repeat (go_big_quiet_step (fail))
              refine wpQuiet_nil ?_
              refine wpOp_alone rfl rfl (fun K hK => ?_)
              refine wp_allocL ltL rfl ?_
              intro v4 ra4 hb4 hz4
              have hG4 := sa2.2.1.lt
              have sa4 := sa2.keep hb4
              refine hK _ _ ⟨hb4, ?_⟩
              clear hK K hb4 hz4 sa2
              go_simp
              refine wpTree_tail (by simp [pickOps]; rfl) ?_
              repeat (go_big_quiet_step (fail))
              refine wpQuiet_nil ?_
              refine wpOp_alone rfl rfl (fun K hK => ?_)
              refine wp_storeL ltL (.tmp 7) (.tmp 39) rfl v2.heap.size rfl ⟨i64w V0, rt, i64w V1⟩ rfl HRS.out Lb.zero rfl ra4 ?_
              intro vz rz oz
              have sz := sa4.only oz hG4
              refine hK _ _ ?_
              clear hK K oz sa4 ra4
              go_wp2_with fail
              go_meet
              exact ⟨_, rfl, hG4, rz, sz⟩
            · refine wpOp_alone rfl rfl (fun K hK => ?_)
              refine wp_allocL ltL rfl ?_
              intro v5 ra5 hb5 hz5
              have hG5 := sa2.2.1.lt
              have sa5 := sa2.keep hb5
              refine hK _ _ ⟨hb5, ?_⟩
              clear hK K hb5 hz5 sa2
              go_simp
              refine wpTree_one (by simp [pickOps]; rfl) ?_
              repeat (go_big_quiet_step (fail))
              refine wpQuiet_nil ?_
              refine wpOp_alone rfl rfl (fun K hK => ?_)
              refine wp_build3 ltL (.tmp 34) (.tmp 35) (.tmp 38) rfl (i64w V0) (i64w V1) rt HRS.out rfl rfl rfl ?_
              refine hK _ _ ⟨Ext.refl _, ?_⟩
              clear hK K
              go_simp
              refine wpTree_tail (by simp [pickOps]; rfl) ?_
              repeat (go_big_quiet_step (fail))
              refine wpQuiet_nil ?_
              refine wpOp_alone rfl rfl (fun K hK => ?_)
              refine wp_storeL ltL (.tmp 7) (.tmp 39) rfl v2.heap.size rfl ⟨i64w V0, rt, i64w V1⟩ rfl HRS.out Lb.zero rfl ra5 ?_
              intro vz rz oz
              have sz := sa5.only oz hG5
              refine hK _ _ ?_
              clear hK K oz sa5 ra5
              go_wp2_with fail
              go_meet
              exact ⟨_, rfl, hG5, rz, sz⟩
          · refine wpOp_alone rfl rfl (fun K hK => ?_)
            refine wp_allocL ltL rfl ?_
            intro v7 ra7 hb7 hz7
            have hG7 := sa1.2.1.lt
            have sa7 := sa1.keep hb7
            refine hK _ _ ⟨hb7, ?_⟩
            clear hK K hb7 hz7 sa1
            go_simp
            refine wpTree_one (by simp [pickOps]; rfl) ?_
            repeat (go_big_quiet_step (fail))
            refine wpQuiet_nil ?_
            refine wpOp_alone rfl rfl (fun K hK => ?_)
            go_simp
            refine (HPN.out _ sa7).mono ?_
            rintro e v8 ⟨rfl, hb8⟩
            have sa8 := sa7.keep hb8
            have ra8 := ra7.keep hb8
            refine hK _ _ ⟨hb8, ?_⟩
            clear hK K hb8 sa7 ra7
            refine wpTree_one (by simp [pickOps]; rfl) ?_
            repeat (go_big_quiet_step (fail))
            refine wpQuiet_nil ?_
            refine wpOp_alone rfl rfl (fun K hK => ?_)
            refine wp_build3 ltL (.tmp 34) (.tmp 35) (.tmp 38) rfl (i64w V0) (i64w V1) rt HRS.out rfl rfl rfl ?_
            refine hK _ _ ⟨Ext.refl _, ?_⟩
            clear hK K
            go_simp
            refine wpTree_tail (by simp [pickOps]; rfl) ?_
            repeat (go_big_quiet_step (fail))
            refine wpQuiet_nil ?_
            refine wpOp_alone rfl rfl (fun K hK => ?_)
            refine wp_storeL ltL (.tmp 7) (.tmp 39) rfl v1.heap.size rfl ⟨i64w V0, rt, i64w V1⟩ rfl HRS.out Lb.zero rfl ra8 ?_
            intro vz rz oz
            have sz := sa8.only oz hG7
            refine hK _ _ ?_
            clear hK K oz sa8 ra8
            go_wp2_with fail
            go_meet
            exact ⟨_, rfl, hG7, rz, sz⟩
        · refine wpOp_alone rfl rfl (fun K hK => ?_)
          refine wp_allocL ltL rfl ?_
          intro v10 ra10 hb10 hz10
          have hG10 := s9.2.1.lt
          have sa10 := s9.keep hb10
          refine hK _ _ ⟨hb10, ?_⟩
          clear hK K hb10 hz10 s9
          go_simp
          refine wpTree_one (by simp [pickOps]; rfl) ?_
          repeat (go_big_quiet_step (fail))
          refine wpQuiet_nil ?_
          refine wpOp_alone rfl rfl (fun K hK => ?_)
          go_simp
          refine (HPE.out _ sa10).mono ?_
          rintro e v11 ⟨rfl, hb11⟩
          have sa11 := sa10.keep hb11
          have ra11 := ra10.keep hb11
          refine hK _ _ ⟨hb11, ?_⟩
          clear hK K hb11 sa10 ra10
          refine wpTree_one (by simp [pickOps]; rfl) ?_
          repeat (go_big_quiet_step (fail))
          refine wpQuiet_nil ?_
          refine wpOp_alone rfl rfl (fun K hK => ?_)
          go_simp
          refine (HPN.out _ sa11).mono ?_
          rintro e v12 ⟨rfl, hb12⟩
          have sa12 := sa11.keep hb12
          have ra12 := ra11.keep hb12
          refine hK _ _ ⟨hb12, ?_⟩
          clear hK K hb12 sa11 ra11
          refine wpTree_one (by simp [pickOps]; rfl) ?_
          repeat (go_big_quiet_step (fail))
          refine wpQuiet_nil ?_
          refine wpOp_alone rfl rfl (fun K hK => ?_)
          refine wp_build3 ltL (.tmp 34) (.tmp 35) (.tmp 38) rfl (i64w V0) (i64w V1) rt HRS.out rfl rfl rfl ?_
          refine hK _ _ ⟨Ext.refl _, ?_⟩
          clear hK K
          go_simp
          refine wpTree_tail (by simp [pickOps]; rfl) ?_
          repeat (go_big_quiet_step (fail))
          refine wpQuiet_nil ?_
          refine wpOp_alone rfl rfl (fun K hK => ?_)
          refine wp_storeL ltL (.tmp 7) (.tmp 39) rfl W8.heap.size rfl ⟨i64w V0, rt, i64w V1⟩ rfl HRS.out Lb.zero rfl ra12 ?_
          intro vz rz oz
          have sz := sa12.only oz hG10
          refine hK _ _ ?_
          clear hK K oz sa12 ra12
          go_wp2_with fail
          go_meet
          exact ⟨_, rfl, hG10, rz, sz⟩
      case rest =>
        obtain ⟨g, rfl, hg, rg, s10⟩ := hcut
        rw [HLb.out] at rg
        have HLs := Lib.hid HOK.out.root.shaL
        clear HPE HPN uu0 uu1 HCr HRs HRT HRS s9 HLb HRd
        go_wp2_with (refine wpList_loadL (.tmp 7) _ ltL rfl rfl g rfl (lbOf xs) HLs.out rg ?_)
        refine (HSl.out _ s10).mono ?_
        rintro e w11 ⟨hb11, ⟨hrt, g2, c2, rfl, ho2⟩ | ⟨hrt, rfl⟩⟩
        · have s11 := s10.keep hb11
          have r11 := rg.keep hb11
          have HO := Lib.hid ho2
          have c0 := s11.1.cell (j := 0) rfl
          clear s10 rg hb11 ho2
          go_wp2_with fail
          refine (HEq.out g2 c2 _ _ s11 HO.out.src (sealB_bytes _ HOK.out.root.shaB) (sealB_length _ HLs.out)).mono ?_
          rintro e w12 ⟨rfl, rfl⟩
          cases hd3 : decide (sealB (lbOf xs) = xs.take 512) with
          | true =>
            have HE0 := Lib.hid (show openE xs = 0 by rw [HE.out, if_pos ⟨hrt, of_decide_eq_true hd3⟩])
            have HL0 := Lib.hid (show openL xs = lbOf xs by unfold openL; rw [if_pos HE0.out])
            clear hd3 hrt c0
            go_wp2_with (first
              | (refine wpList_loadL (.tmp 7) _ ltL rfl rfl g rfl (lbOf xs) HLs.out r11 ?_)
              | (refine wpList_storeL ltL rfl (.tmp 2) (.tmp 56) rfl (w.heap.size + 1) rfl (lbOf xs) rfl HLs.out Lb.zero rfl s11.2.1 ?_; intro w13 q13 o13; have b13 := s11.2.2.trans (o13.below.mono (Nat.le_succ _)); clear s11 o13))
            refine bodyPost_ret (v := .tuple #[.agg (lcells (lbOf xs)), .int .i64 0]) ?_ rfl ?_
            · exact results_cell_tmp_row Tryd.resultsOpen _ _ (w.heap.size + 1) 27 (lcells (lbOf xs)) (0, 0) _ rfl q13 ltL.struct rfl (lb_size ltL HLs.out)
            · exact ⟨by rw [HE0.out, HL0.out], b13⟩
          | false =>
            have HE0 := Lib.hid (show openE xs = 11 by rw [HE.out, if_neg (fun h => absurd (decide_eq_true h.2) (by rw [hd3]; decide))])
            have HZ := Lib.hid (openL_none (xs := xs) (by rw [HE0.out]; decide))
            clear hd3 hrt c0
            go_wp2_with (first
              | (refine wpList_build0 ltL rfl rfl ?_)
              | (refine wpList_storeL ltL rfl (.tmp 2) (.tmp 55) rfl (w.heap.size + 1) rfl Lb.zero rfl rfl Lb.zero rfl s11.2.1 ?_; intro w13 q13 o13; have b13 := s11.2.2.trans (o13.below.mono (Nat.le_succ _)); clear s11 o13))
            refine bodyPost_ret (v := .tuple #[.agg (lcells Lb.zero), .int .i64 11]) ?_ rfl ?_
            · exact results_cell_tmp_row Tryd.resultsOpen _ _ (w.heap.size + 1) 27 (lcells Lb.zero) (0, 0) _ rfl q13 ltL.struct rfl (lb_size ltL rfl)
            · exact ⟨by rw [HE0.out, HZ.out], b13⟩
        · have s11 := s10.keep hb11
          have HE0 := Lib.hid (show openE xs = 11 by rw [HE.out, if_neg (fun h => by rw [hrt] at h; exact absurd h.1 (by decide))])
          have HZ := Lib.hid (openL_none (xs := xs) (by rw [HE0.out]; decide))
          clear s10 rg hb11 hrt
          go_wp2_with (first
            | (refine wpList_build0 ltL rfl rfl ?_)
            | (refine wpList_storeL ltL rfl (.tmp 2) (.tmp 55) rfl (w.heap.size + 1) rfl Lb.zero rfl rfl Lb.zero rfl s11.2.1 ?_; intro w13 q13 o13; have b13 := s11.2.2.trans (o13.below.mono (Nat.le_succ _)); clear s11 o13))
          refine bodyPost_ret (v := .tuple #[.agg (lcells Lb.zero), .int .i64 11]) ?_ rfl ?_
          · exact results_cell_tmp_row Tryd.resultsOpen _ _ (w.heap.size + 1) 27 (lcells Lb.zero) (0, 0) _ rfl q13 ltL.struct rfl (lb_size ltL rfl)
          · exact ⟨by rw [HE0.out, HZ.out], b13⟩
    · have HE := Lib.hid (HE11.out Hq.out hr)
      have HZ := Lib.hid (openL_none (xs := xs) (by rw [HE.out]; decide))
      rw [hr]
      clear hr
      have lt6 := s6.2.1.lt
      go_wp2_with (first
        | (refine wpList_allocP 5 rfl rfl rfl ?_; intro w7 r7 hb7 hz7; have s7 := s6.keep hb7; clear s6 hb7 hz7)
        | (refine wpList_storeP rfl (.tmp 5) (.tmp 27) rfl w6.heap.size rfl rt rfl HRS.out Pt.zero rfl r7 ?_; intro w8 r8 o8; have s8 := s7.only o8 lt6; clear s7 o8 r7)
        | (refine wpList_build0 ltL rfl rfl ?_)
        | (refine wpList_storeL ltL rfl (.tmp 2) (.tmp 31) rfl (w.heap.size + 1) rfl Lb.zero rfl rfl Lb.zero rfl s8.2.1 ?_; intro w9 q9 o9; have b9 := s8.2.2.trans (o9.below.mono (Nat.le_succ _)); clear s8 o9))
      refine bodyPost_ret (v := .tuple #[.agg (lcells Lb.zero), .int .i64 11]) ?_ rfl ?_
      · exact results_cell_tmp_row Tryd.resultsOpen _ _ (w.heap.size + 1) 27 (lcells Lb.zero) (0, 0) _ rfl q9 ltL.struct rfl (lb_size ltL rfl)
      · exact ⟨by rw [HE.out, HZ.out], b9⟩
theorem open_any (A : Option Addr) (n c : Nat) (xs : List Int) (w : World) (ht : Tab w) (hn : n = xs.length) (hs : Src .u8 w A xs) (hx : IsBytes xs) (hnc : n ≤ c) (hc : c ≤ 9223372036854775807) :
    Calls Tryd.prog 9 #[.slice A n c] w (OpenEnds xs w) := by
  by_cases h : n < 512
  · exact open_small A n c xs w hn h
  · obtain ⟨b, o, rfl, _, _⟩ := hs (by omega)
    exact open_big b o n c xs w ht hn hs hx (by omega) hnc hc
end Go.Proofs.YtcolicmefehcnaaDoor

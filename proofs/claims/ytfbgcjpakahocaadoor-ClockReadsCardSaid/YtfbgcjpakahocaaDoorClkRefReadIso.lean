/- ReadIso of the document, of any text: the right time that tells it, or none. Nothing that was there is written. No conditions. -/
import Derived.Test.YtfbgcjpakahocaaDoorClkReadW
import Derived.Test.YtfbgcjpakahocaaDoorClkRefTell
namespace Go.Proofs.YtfbgcjpakahocaaDoor
open Go.RowKit
namespace Clk

theorem Tryd.resultsRRI : Tryd.f26.results = #[.cell 2 26, .tmp 3] := by kernel_rfl
set_option maxRecDepth 100000 in
set_option maxHeartbeats 8000000 in
theorem rreadIso_any (s : ByteArray) (w : World) : Calls Tryd.prog 26 #[.string s] w fun e w' => ReadTo isoW (numsOf s) e ∧ Below w.heap.size w w' := by
  have HL := Lib.hid (numsOf_length s)
  by_cases hs : s.size = 24
  · have HNE := Lib.hid (show numsOf s ≠ [] from fun h => by have := HL.out; rw [h, hs] at this; simp at this)
    have H0 := Lib.hid (fun (w' : World) => rvalue_any (s.extract 0 4) w' (by rw [ByteArray.size_extract]; omega))
    rw [nums_extract s 0 4] at H0
    have H1 := Lib.hid (fun (w' : World) => rvalue_any (s.extract 5 7) w' (by rw [ByteArray.size_extract]; omega))
    rw [nums_extract s 5 7] at H1
    have H2 := Lib.hid (fun (w' : World) => rvalue_any (s.extract 8 10) w' (by rw [ByteArray.size_extract]; omega))
    rw [nums_extract s 8 10] at H2
    have H3 := Lib.hid (fun (w' : World) => rvalue_any (s.extract 11 13) w' (by rw [ByteArray.size_extract]; omega))
    rw [nums_extract s 11 13] at H3
    have H4 := Lib.hid (fun (w' : World) => rvalue_any (s.extract 14 16) w' (by rw [ByteArray.size_extract]; omega))
    rw [nums_extract s 14 16] at H4
    have H5 := Lib.hid (fun (w' : World) => rvalue_any (s.extract 17 19) w' (by rw [ByteArray.size_extract]; omega))
    rw [nums_extract s 17 19] at H5
    have HBK := Lib.hid (fun (t' : Tm) (hr : t'.Right) (he : isoW t' = numsOf s) => show isoT numW (numsOf s) = t' by rw [← he]; exact iso_back knows_numW hr)
    unfold isoT at HBK
    have HTELL := Lib.hid (fun (t : Tm) (w' : World) => riso_any t w')
    have HSE := Lib.hid (fun (t : Tm) => str_eq (tellW isoW t) s (tell_bytes isoW_bytes t))
    generalize numW (partW (numsOf s) 0 4) = n0 at *
    generalize numW (partW (numsOf s) 5 7) = n1 at *
    generalize numW (partW (numsOf s) 8 10) = n2 at *
    generalize numW (partW (numsOf s) 11 13) = n3 at *
    generalize numW (partW (numsOf s) 14 16) = n4 at *
    generalize numW (partW (numsOf s) 17 19) = n5 at *
    generalize numsOf s = xs at *
    go_enter Tryd.func26, Tryd.ntmps26
    go_wp2_with (first
      | (refine wpList_allocT ttR rfl rfl ?_; intro W1 r1 b1 z1; have HZ1 := Lib.hid r1.drew; have HB1 := Lib.hid (b1.trans (below_drewN (Below.refl _ W1) 1 |>.mono b1.size)); clear b1 r1 z1))
    go_cut [4] from 9 (fun v wx => ∃ g : Nat, v = .pointer (some ⟨g, 0, none⟩) ∧ w.heap.size < g ∧ Row wx g 26 (tmC ⟨n0, n1, n2, n3, n4, n5⟩) ∧ Row wx w.heap.size 26 (tmC Tm.zero) ∧ Below w.heap.size w wx)
    case first =>
      refine wp_region_treeT Ext 20 (.two [0, 1, 3, 4, 6, 7, 9, 10, 12, 13, 15, 16] 2 19 (.two [] 5 19 (.two [] 8 19 (.two [] 11 19 (.two [] 14 19 (.two [] 17 19 (.two [] 18 19 (.one [] 19 (.tail [] 20)) (.one [] 18 (.tail [] 20))) (.one [] 17 (.one [] 18 (.tail [] 20)))) (.one [] 14 (.one [] 17 (.one [] 18 (.tail [] 20))))) (.one [] 11 (.one [] 14 (.one [] 17 (.one [] 18 (.tail [] 20)))))) (.one [] 8 (.one [] 11 (.one [] 14 (.one [] 17 (.one [] 18 (.tail [] 20))))))) (.one [] 5 (.one [] 8 (.one [] 11 (.one [] 14 (.one [] 17 (.one [] 18 (.tail [] 20)))))))) (.one [] 2 (.one [] 5 (.one [] 8 (.one [] 11 (.one [] 14 (.one [] 17 (.one [] 18 (.tail [] 20))))))))) (by kernel_rfl) (by kernel_rfl) (by decide) (by kernel_rfl) (by kernel_rfl) (fun _ _ d _ _ h => by cases d <;> exact h) ?_
      refine wpTree_two (by simp [pickOps]; rfl) ?_
      repeat (go_big_quiet_step (fail))
      refine wpQuiet_nil ?_
      refine ⟨?_, ?_⟩
      · skip
        refine wpOp_alone rfl rfl (fun K hK => ?_)
        go_simp
        refine (H0.out _).mono ?_
        rintro e v0 ⟨rfl, rfl⟩
        refine hK _ _ ⟨Ext.refl _, ?_⟩
        clear hK K
        refine wpTree_two (by simp [pickOps]; rfl) ?_
        refine wpQuiet_nil ?_
        refine ⟨?_, ?_⟩
        · skip
          refine wpOp_alone rfl rfl (fun K hK => ?_)
          go_simp
          refine (H1.out _).mono ?_
          rintro e v1 ⟨rfl, rfl⟩
          refine hK _ _ ⟨Ext.refl _, ?_⟩
          clear hK K
          refine wpTree_two (by simp [pickOps]; rfl) ?_
          refine wpQuiet_nil ?_
          refine ⟨?_, ?_⟩
          · skip
            refine wpOp_alone rfl rfl (fun K hK => ?_)
            go_simp
            refine (H2.out _).mono ?_
            rintro e v2 ⟨rfl, rfl⟩
            refine hK _ _ ⟨Ext.refl _, ?_⟩
            clear hK K
            refine wpTree_two (by simp [pickOps]; rfl) ?_
            refine wpQuiet_nil ?_
            refine ⟨?_, ?_⟩
            · skip
              refine wpOp_alone rfl rfl (fun K hK => ?_)
              go_simp
              refine (H3.out _).mono ?_
              rintro e v3 ⟨rfl, rfl⟩
              refine hK _ _ ⟨Ext.refl _, ?_⟩
              clear hK K
              refine wpTree_two (by simp [pickOps]; rfl) ?_
              refine wpQuiet_nil ?_
              refine ⟨?_, ?_⟩
              · skip
                refine wpOp_alone rfl rfl (fun K hK => ?_)
                go_simp
                refine (H4.out _).mono ?_
                rintro e v4 ⟨rfl, rfl⟩
                refine hK _ _ ⟨Ext.refl _, ?_⟩
                clear hK K
                refine wpTree_two (by simp [pickOps]; rfl) ?_
                refine wpQuiet_nil ?_
                refine ⟨?_, ?_⟩
                · skip
                  refine wpOp_alone rfl rfl (fun K hK => ?_)
                  go_simp
                  refine (H5.out _).mono ?_
                  rintro e v5 ⟨rfl, rfl⟩
                  refine hK _ _ ⟨Ext.refl _, ?_⟩
                  clear hK K
                  refine wpTree_two (by simp [pickOps]; rfl) ?_
                  refine wpQuiet_nil ?_
                  refine ⟨?_, ?_⟩
                  · skip
                    refine wpOp_alone rfl rfl (fun K hK => ?_)
                    refine wp_build6 ttR _ _ _ _ _ _ rfl ⟨n0, n1, n2, n3, n4, n5⟩ rfl rfl rfl rfl rfl rfl ?_
                    refine hK _ _ ⟨Ext.refl _, ?_⟩
                    clear hK K
                    refine wpTree_one (by simp [pickOps]; rfl) ?_
                    refine wpQuiet_nil ?_
                    refine wpOp_alone rfl rfl (fun K hK => ?_)
                    refine wp_allocT ttR rfl ?_
                    intro u1 r1 b1 z1
                    refine hK _ _ ⟨b1, ?_⟩
                    have HB2 := Lib.hid (HB1.out.trans (b1.mono HB1.out.size))
                    have HZ2 := Lib.hid (HZ1.out.keep b1)
                    have HG2 := Lib.hid r1
                    have hlt := HZ1.out.lt
                    clear b1 r1 z1 hK K HB1 HZ1
                    refine wpTree_tail (by simp [pickOps]; rfl) ?_
                    refine wpQuiet_nil ?_
                    refine wpOp_alone rfl rfl (fun K hK => ?_)
                    refine wp_storeT ttR _ _ rfl _ rfl ⟨n0, n1, n2, n3, n4, n5⟩ rfl Tm.zero HG2.out ?_
                    intro w99 r99 o99
                    refine hK _ _ ?_
                    go_simp
                    go_wp2_with fail
                    go_meet
                    exact ⟨_, rfl, hlt, r99, o99.row HZ2.out (Nat.ne_of_lt hlt), HB2.out.trans (o99.below.mono (Nat.le_of_lt hlt))⟩
                  · skip
                    refine wpOp_alone rfl rfl (fun K hK => ?_)
                    refine wp_allocT ttR rfl ?_
                    intro u1 r1 b1 z1
                    refine hK _ _ ⟨b1, ?_⟩
                    have HB2 := Lib.hid (HB1.out.trans (b1.mono HB1.out.size))
                    have HZ2 := Lib.hid (HZ1.out.keep b1)
                    have HG2 := Lib.hid r1
                    have hlt := HZ1.out.lt
                    clear b1 r1 z1 hK K HB1 HZ1
                    refine wpTree_one (by simp [pickOps]; rfl) ?_
                    refine wpQuiet_nil ?_
                    refine wpOp_alone rfl rfl (fun K hK => ?_)
                    refine wp_build6 ttR _ _ _ _ _ _ rfl ⟨n0, n1, n2, n3, n4, n5⟩ rfl rfl rfl rfl rfl rfl ?_
                    refine hK _ _ ⟨Ext.refl _, ?_⟩
                    clear hK K
                    refine wpTree_tail (by simp [pickOps]; rfl) ?_
                    refine wpQuiet_nil ?_
                    refine wpOp_alone rfl rfl (fun K hK => ?_)
                    refine wp_storeT ttR _ _ rfl _ rfl ⟨n0, n1, n2, n3, n4, n5⟩ rfl Tm.zero HG2.out ?_
                    intro w99 r99 o99
                    refine hK _ _ ?_
                    go_simp
                    go_wp2_with fail
                    go_meet
                    exact ⟨_, rfl, hlt, r99, o99.row HZ2.out (Nat.ne_of_lt hlt), HB2.out.trans (o99.below.mono (Nat.le_of_lt hlt))⟩
                · skip
                  refine wpOp_alone rfl rfl (fun K hK => ?_)
                  refine wp_allocT ttR rfl ?_
                  intro u1 r1 b1 z1
                  refine hK _ _ ⟨b1, ?_⟩
                  have HB2 := Lib.hid (HB1.out.trans (b1.mono HB1.out.size))
                  have HZ2 := Lib.hid (HZ1.out.keep b1)
                  have HG2 := Lib.hid r1
                  have hlt := HZ1.out.lt
                  clear b1 r1 z1 hK K HB1 HZ1
                  refine wpTree_one (by simp [pickOps]; rfl) ?_
                  refine wpQuiet_nil ?_
                  refine wpOp_alone rfl rfl (fun K hK => ?_)
                  go_simp
                  refine (H5.out _).mono ?_
                  rintro e v5 ⟨rfl, rfl⟩
                  refine hK _ _ ⟨Ext.refl _, ?_⟩
                  clear hK K
                  refine wpTree_one (by simp [pickOps]; rfl) ?_
                  refine wpQuiet_nil ?_
                  refine wpOp_alone rfl rfl (fun K hK => ?_)
                  refine wp_build6 ttR _ _ _ _ _ _ rfl ⟨n0, n1, n2, n3, n4, n5⟩ rfl rfl rfl rfl rfl rfl ?_
                  refine hK _ _ ⟨Ext.refl _, ?_⟩
                  clear hK K
                  refine wpTree_tail (by simp [pickOps]; rfl) ?_
                  refine wpQuiet_nil ?_
                  refine wpOp_alone rfl rfl (fun K hK => ?_)
                  refine wp_storeT ttR _ _ rfl _ rfl ⟨n0, n1, n2, n3, n4, n5⟩ rfl Tm.zero HG2.out ?_
                  intro w99 r99 o99
                  refine hK _ _ ?_
                  go_simp
                  go_wp2_with fail
                  go_meet
                  exact ⟨_, rfl, hlt, r99, o99.row HZ2.out (Nat.ne_of_lt hlt), HB2.out.trans (o99.below.mono (Nat.le_of_lt hlt))⟩
              · skip
                refine wpOp_alone rfl rfl (fun K hK => ?_)
                refine wp_allocT ttR rfl ?_
                intro u1 r1 b1 z1
                refine hK _ _ ⟨b1, ?_⟩
                have HB2 := Lib.hid (HB1.out.trans (b1.mono HB1.out.size))
                have HZ2 := Lib.hid (HZ1.out.keep b1)
                have HG2 := Lib.hid r1
                have hlt := HZ1.out.lt
                clear b1 r1 z1 hK K HB1 HZ1
                refine wpTree_one (by simp [pickOps]; rfl) ?_
                refine wpQuiet_nil ?_
                refine wpOp_alone rfl rfl (fun K hK => ?_)
                go_simp
                refine (H4.out _).mono ?_
                rintro e v4 ⟨rfl, rfl⟩
                refine hK _ _ ⟨Ext.refl _, ?_⟩
                clear hK K
                refine wpTree_one (by simp [pickOps]; rfl) ?_
                refine wpQuiet_nil ?_
                refine wpOp_alone rfl rfl (fun K hK => ?_)
                go_simp
                refine (H5.out _).mono ?_
                rintro e v5 ⟨rfl, rfl⟩
                refine hK _ _ ⟨Ext.refl _, ?_⟩
                clear hK K
                refine wpTree_one (by simp [pickOps]; rfl) ?_
                refine wpQuiet_nil ?_
                refine wpOp_alone rfl rfl (fun K hK => ?_)
                refine wp_build6 ttR _ _ _ _ _ _ rfl ⟨n0, n1, n2, n3, n4, n5⟩ rfl rfl rfl rfl rfl rfl ?_
                refine hK _ _ ⟨Ext.refl _, ?_⟩
                clear hK K
                refine wpTree_tail (by simp [pickOps]; rfl) ?_
                refine wpQuiet_nil ?_
                refine wpOp_alone rfl rfl (fun K hK => ?_)
                refine wp_storeT ttR _ _ rfl _ rfl ⟨n0, n1, n2, n3, n4, n5⟩ rfl Tm.zero HG2.out ?_
                intro w99 r99 o99
                refine hK _ _ ?_
                go_simp
                go_wp2_with fail
                go_meet
                exact ⟨_, rfl, hlt, r99, o99.row HZ2.out (Nat.ne_of_lt hlt), HB2.out.trans (o99.below.mono (Nat.le_of_lt hlt))⟩
            · skip
              refine wpOp_alone rfl rfl (fun K hK => ?_)
              refine wp_allocT ttR rfl ?_
              intro u1 r1 b1 z1
              refine hK _ _ ⟨b1, ?_⟩
              have HB2 := Lib.hid (HB1.out.trans (b1.mono HB1.out.size))
              have HZ2 := Lib.hid (HZ1.out.keep b1)
              have HG2 := Lib.hid r1
              have hlt := HZ1.out.lt
              clear b1 r1 z1 hK K HB1 HZ1
              refine wpTree_one (by simp [pickOps]; rfl) ?_
              refine wpQuiet_nil ?_
              refine wpOp_alone rfl rfl (fun K hK => ?_)
              go_simp
              refine (H3.out _).mono ?_
              rintro e v3 ⟨rfl, rfl⟩
              refine hK _ _ ⟨Ext.refl _, ?_⟩
              clear hK K
              refine wpTree_one (by simp [pickOps]; rfl) ?_
              refine wpQuiet_nil ?_
              refine wpOp_alone rfl rfl (fun K hK => ?_)
              go_simp
              refine (H4.out _).mono ?_
              rintro e v4 ⟨rfl, rfl⟩
              refine hK _ _ ⟨Ext.refl _, ?_⟩
              clear hK K
              refine wpTree_one (by simp [pickOps]; rfl) ?_
              refine wpQuiet_nil ?_
              refine wpOp_alone rfl rfl (fun K hK => ?_)
              go_simp
              refine (H5.out _).mono ?_
              rintro e v5 ⟨rfl, rfl⟩
              refine hK _ _ ⟨Ext.refl _, ?_⟩
              clear hK K
              refine wpTree_one (by simp [pickOps]; rfl) ?_
              refine wpQuiet_nil ?_
              refine wpOp_alone rfl rfl (fun K hK => ?_)
              refine wp_build6 ttR _ _ _ _ _ _ rfl ⟨n0, n1, n2, n3, n4, n5⟩ rfl rfl rfl rfl rfl rfl ?_
              refine hK _ _ ⟨Ext.refl _, ?_⟩
              clear hK K
              refine wpTree_tail (by simp [pickOps]; rfl) ?_
              refine wpQuiet_nil ?_
              refine wpOp_alone rfl rfl (fun K hK => ?_)
              refine wp_storeT ttR _ _ rfl _ rfl ⟨n0, n1, n2, n3, n4, n5⟩ rfl Tm.zero HG2.out ?_
              intro w99 r99 o99
              refine hK _ _ ?_
              go_simp
              go_wp2_with fail
              go_meet
              exact ⟨_, rfl, hlt, r99, o99.row HZ2.out (Nat.ne_of_lt hlt), HB2.out.trans (o99.below.mono (Nat.le_of_lt hlt))⟩
          · skip
            refine wpOp_alone rfl rfl (fun K hK => ?_)
            refine wp_allocT ttR rfl ?_
            intro u1 r1 b1 z1
            refine hK _ _ ⟨b1, ?_⟩
            have HB2 := Lib.hid (HB1.out.trans (b1.mono HB1.out.size))
            have HZ2 := Lib.hid (HZ1.out.keep b1)
            have HG2 := Lib.hid r1
            have hlt := HZ1.out.lt
            clear b1 r1 z1 hK K HB1 HZ1
            refine wpTree_one (by simp [pickOps]; rfl) ?_
            refine wpQuiet_nil ?_
            refine wpOp_alone rfl rfl (fun K hK => ?_)
            go_simp
            refine (H2.out _).mono ?_
            rintro e v2 ⟨rfl, rfl⟩
            refine hK _ _ ⟨Ext.refl _, ?_⟩
            clear hK K
            refine wpTree_one (by simp [pickOps]; rfl) ?_
            refine wpQuiet_nil ?_
            refine wpOp_alone rfl rfl (fun K hK => ?_)
            go_simp
            refine (H3.out _).mono ?_
            rintro e v3 ⟨rfl, rfl⟩
            refine hK _ _ ⟨Ext.refl _, ?_⟩
            clear hK K
            refine wpTree_one (by simp [pickOps]; rfl) ?_
            refine wpQuiet_nil ?_
            refine wpOp_alone rfl rfl (fun K hK => ?_)
            go_simp
            refine (H4.out _).mono ?_
            rintro e v4 ⟨rfl, rfl⟩
            refine hK _ _ ⟨Ext.refl _, ?_⟩
            clear hK K
            refine wpTree_one (by simp [pickOps]; rfl) ?_
            refine wpQuiet_nil ?_
            refine wpOp_alone rfl rfl (fun K hK => ?_)
            go_simp
            refine (H5.out _).mono ?_
            rintro e v5 ⟨rfl, rfl⟩
            refine hK _ _ ⟨Ext.refl _, ?_⟩
            clear hK K
            refine wpTree_one (by simp [pickOps]; rfl) ?_
            refine wpQuiet_nil ?_
            refine wpOp_alone rfl rfl (fun K hK => ?_)
            refine wp_build6 ttR _ _ _ _ _ _ rfl ⟨n0, n1, n2, n3, n4, n5⟩ rfl rfl rfl rfl rfl rfl ?_
            refine hK _ _ ⟨Ext.refl _, ?_⟩
            clear hK K
            refine wpTree_tail (by simp [pickOps]; rfl) ?_
            refine wpQuiet_nil ?_
            refine wpOp_alone rfl rfl (fun K hK => ?_)
            refine wp_storeT ttR _ _ rfl _ rfl ⟨n0, n1, n2, n3, n4, n5⟩ rfl Tm.zero HG2.out ?_
            intro w99 r99 o99
            refine hK _ _ ?_
            go_simp
            go_wp2_with fail
            go_meet
            exact ⟨_, rfl, hlt, r99, o99.row HZ2.out (Nat.ne_of_lt hlt), HB2.out.trans (o99.below.mono (Nat.le_of_lt hlt))⟩
        · skip
          refine wpOp_alone rfl rfl (fun K hK => ?_)
          refine wp_allocT ttR rfl ?_
          intro u1 r1 b1 z1
          refine hK _ _ ⟨b1, ?_⟩
          have HB2 := Lib.hid (HB1.out.trans (b1.mono HB1.out.size))
          have HZ2 := Lib.hid (HZ1.out.keep b1)
          have HG2 := Lib.hid r1
          have hlt := HZ1.out.lt
          clear b1 r1 z1 hK K HB1 HZ1
          refine wpTree_one (by simp [pickOps]; rfl) ?_
          refine wpQuiet_nil ?_
          refine wpOp_alone rfl rfl (fun K hK => ?_)
          go_simp
          refine (H1.out _).mono ?_
          rintro e v1 ⟨rfl, rfl⟩
          refine hK _ _ ⟨Ext.refl _, ?_⟩
          clear hK K
          refine wpTree_one (by simp [pickOps]; rfl) ?_
          refine wpQuiet_nil ?_
          refine wpOp_alone rfl rfl (fun K hK => ?_)
          go_simp
          refine (H2.out _).mono ?_
          rintro e v2 ⟨rfl, rfl⟩
          refine hK _ _ ⟨Ext.refl _, ?_⟩
          clear hK K
          refine wpTree_one (by simp [pickOps]; rfl) ?_
          refine wpQuiet_nil ?_
          refine wpOp_alone rfl rfl (fun K hK => ?_)
          go_simp
          refine (H3.out _).mono ?_
          rintro e v3 ⟨rfl, rfl⟩
          refine hK _ _ ⟨Ext.refl _, ?_⟩
          clear hK K
          refine wpTree_one (by simp [pickOps]; rfl) ?_
          refine wpQuiet_nil ?_
          refine wpOp_alone rfl rfl (fun K hK => ?_)
          go_simp
          refine (H4.out _).mono ?_
          rintro e v4 ⟨rfl, rfl⟩
          refine hK _ _ ⟨Ext.refl _, ?_⟩
          clear hK K
          refine wpTree_one (by simp [pickOps]; rfl) ?_
          refine wpQuiet_nil ?_
          refine wpOp_alone rfl rfl (fun K hK => ?_)
          go_simp
          refine (H5.out _).mono ?_
          rintro e v5 ⟨rfl, rfl⟩
          refine hK _ _ ⟨Ext.refl _, ?_⟩
          clear hK K
          refine wpTree_one (by simp [pickOps]; rfl) ?_
          refine wpQuiet_nil ?_
          refine wpOp_alone rfl rfl (fun K hK => ?_)
          refine wp_build6 ttR _ _ _ _ _ _ rfl ⟨n0, n1, n2, n3, n4, n5⟩ rfl rfl rfl rfl rfl rfl ?_
          refine hK _ _ ⟨Ext.refl _, ?_⟩
          clear hK K
          refine wpTree_tail (by simp [pickOps]; rfl) ?_
          refine wpQuiet_nil ?_
          refine wpOp_alone rfl rfl (fun K hK => ?_)
          refine wp_storeT ttR _ _ rfl _ rfl ⟨n0, n1, n2, n3, n4, n5⟩ rfl Tm.zero HG2.out ?_
          intro w99 r99 o99
          refine hK _ _ ?_
          go_simp
          go_wp2_with fail
          go_meet
          exact ⟨_, rfl, hlt, r99, o99.row HZ2.out (Nat.ne_of_lt hlt), HB2.out.trans (o99.below.mono (Nat.le_of_lt hlt))⟩
      · skip
        refine wpOp_alone rfl rfl (fun K hK => ?_)
        refine wp_allocT ttR rfl ?_
        intro u1 r1 b1 z1
        refine hK _ _ ⟨b1, ?_⟩
        have HB2 := Lib.hid (HB1.out.trans (b1.mono HB1.out.size))
        have HZ2 := Lib.hid (HZ1.out.keep b1)
        have HG2 := Lib.hid r1
        have hlt := HZ1.out.lt
        clear b1 r1 z1 hK K HB1 HZ1
        refine wpTree_one (by simp [pickOps]; rfl) ?_
        refine wpQuiet_nil ?_
        refine wpOp_alone rfl rfl (fun K hK => ?_)
        go_simp
        refine (H0.out _).mono ?_
        rintro e v0 ⟨rfl, rfl⟩
        refine hK _ _ ⟨Ext.refl _, ?_⟩
        clear hK K
        refine wpTree_one (by simp [pickOps]; rfl) ?_
        refine wpQuiet_nil ?_
        refine wpOp_alone rfl rfl (fun K hK => ?_)
        go_simp
        refine (H1.out _).mono ?_
        rintro e v1 ⟨rfl, rfl⟩
        refine hK _ _ ⟨Ext.refl _, ?_⟩
        clear hK K
        refine wpTree_one (by simp [pickOps]; rfl) ?_
        refine wpQuiet_nil ?_
        refine wpOp_alone rfl rfl (fun K hK => ?_)
        go_simp
        refine (H2.out _).mono ?_
        rintro e v2 ⟨rfl, rfl⟩
        refine hK _ _ ⟨Ext.refl _, ?_⟩
        clear hK K
        refine wpTree_one (by simp [pickOps]; rfl) ?_
        refine wpQuiet_nil ?_
        refine wpOp_alone rfl rfl (fun K hK => ?_)
        go_simp
        refine (H3.out _).mono ?_
        rintro e v3 ⟨rfl, rfl⟩
        refine hK _ _ ⟨Ext.refl _, ?_⟩
        clear hK K
        refine wpTree_one (by simp [pickOps]; rfl) ?_
        refine wpQuiet_nil ?_
        refine wpOp_alone rfl rfl (fun K hK => ?_)
        go_simp
        refine (H4.out _).mono ?_
        rintro e v4 ⟨rfl, rfl⟩
        refine hK _ _ ⟨Ext.refl _, ?_⟩
        clear hK K
        refine wpTree_one (by simp [pickOps]; rfl) ?_
        refine wpQuiet_nil ?_
        refine wpOp_alone rfl rfl (fun K hK => ?_)
        go_simp
        refine (H5.out _).mono ?_
        rintro e v5 ⟨rfl, rfl⟩
        refine hK _ _ ⟨Ext.refl _, ?_⟩
        clear hK K
        refine wpTree_one (by simp [pickOps]; rfl) ?_
        refine wpQuiet_nil ?_
        refine wpOp_alone rfl rfl (fun K hK => ?_)
        refine wp_build6 ttR _ _ _ _ _ _ rfl ⟨n0, n1, n2, n3, n4, n5⟩ rfl rfl rfl rfl rfl rfl ?_
        refine hK _ _ ⟨Ext.refl _, ?_⟩
        clear hK K
        refine wpTree_tail (by simp [pickOps]; rfl) ?_
        refine wpQuiet_nil ?_
        refine wpOp_alone rfl rfl (fun K hK => ?_)
        refine wp_storeT ttR _ _ rfl _ rfl ⟨n0, n1, n2, n3, n4, n5⟩ rfl Tm.zero HG2.out ?_
        intro w99 r99 o99
        refine hK _ _ ?_
        go_simp
        go_wp2_with fail
        go_meet
        exact ⟨_, rfl, hlt, r99, o99.row HZ2.out (Nat.ne_of_lt hlt), HB2.out.trans (o99.below.mono (Nat.le_of_lt hlt))⟩
    case rest =>
      obtain ⟨g, rfl, hlt, hr9, hz9, hb9⟩ := hcut
      have HR9 := Lib.hid hr9
      have HZ9 := Lib.hid hz9
      have HB9 := Lib.hid hb9
      have HTL := Lib.hid (HTELL.out ⟨n0, n1, n2, n3, n4, n5⟩ wc)
      have hE := HSE.out ⟨n0, n1, n2, n3, n4, n5⟩
      have hE2 : ((strOfNums (tellW isoW ⟨n0, n1, n2, n3, n4, n5⟩)).toList == s.toList) = decide (tellW isoW ⟨n0, n1, n2, n3, n4, n5⟩ = xs) := by rw [← beq_toListBytes]; exact hE
      clear hr9 hz9 hb9 HB1 HZ1 HTELL HSE H0 H1 H2 H3 H4 H5
      generalize strOfNums (tellW isoW ⟨n0, n1, n2, n3, n4, n5⟩) = S at *
      unfold tmV at HTL
      by_cases hx : tellW isoW ⟨n0, n1, n2, n3, n4, n5⟩ = xs
      · have HRE := Lib.hid (told_read (q := ⟨n0, n1, n2, n3, n4, n5⟩) (b := true) HNE.out HBK.out (.inl ⟨hx, rfl, rfl⟩))
        rw [decide_eq_true hx] at hE hE2
        clear hx
        go_wp2_with (first
          | (refine wpList_loadT ttR (.tmp 4) rfl rfl g rfl ⟨n0, n1, n2, n3, n4, n5⟩ ?_ ?_; exact HR9.out))
        refine HTL.out.mono ?_
        rintro e w10 ⟨rfl, hb10⟩
        have HR19 := Lib.hid (HR9.out.keep hb10)
        have HR20 := Lib.hid (HZ9.out.keep hb10)
        have HB10 := Lib.hid (HB9.out.trans (hb10.mono HB9.out.size))
        clear hb10
        go_wp2_with (first
          | (refine wpList_loadT ttR (.tmp 4) rfl rfl g rfl ⟨n0, n1, n2, n3, n4, n5⟩ ?_ ?_; exact HR19.out)
          | (refine wpList_storeT ttR rfl (.tmp 2) (.tmp 33) rfl w.heap.size rfl ⟨n0, n1, n2, n3, n4, n5⟩ rfl Tm.zero ?_ ?_; exact HR20.out; intro W11 r11 o11; have HB11 := Lib.hid (HB10.out.trans o11.below)))
        refine bodyPost_ret (v := .tuple #[tmV ⟨n0, n1, n2, n3, n4, n5⟩, .bool true]) ?_ rfl ?_
        · exact results_time_tmp ttR Tryd.resultsRRI _ _ w.heap.size _ rfl r11
        · exact ⟨HRE.out, HB11.out⟩
      · have HRE := Lib.hid (told_read (q := Tm.zero) (b := false) HNE.out HBK.out (.inr ⟨hx, rfl, rfl⟩))
        rw [decide_eq_false hx] at hE hE2
        clear hx
        go_wp2_with (first
          | (refine wpList_loadT ttR (.tmp 4) rfl rfl g rfl ⟨n0, n1, n2, n3, n4, n5⟩ ?_ ?_; exact HR9.out))
        refine HTL.out.mono ?_
        rintro e w10 ⟨rfl, hb10⟩
        have HR20 := Lib.hid (HZ9.out.keep hb10)
        have HB10 := Lib.hid (HB9.out.trans (hb10.mono HB9.out.size))
        clear hb10
        go_wp2_with (first
          | (refine wpList_storeT ttR rfl (.tmp 2) (.tmp 32) rfl w.heap.size rfl Tm.zero rfl Tm.zero ?_ ?_; exact HR20.out; intro W11 r11 o11; have HB11 := Lib.hid (HB10.out.trans o11.below)))
        refine bodyPost_ret (v := .tuple #[tmV Tm.zero, .bool false]) ?_ rfl ?_
        · exact results_time_tmp ttR Tryd.resultsRRI _ _ w.heap.size _ rfl r11
        · exact ⟨HRE.out, HB11.out⟩
  · have HN := Lib.hid (show ∀ t : Tm, t.Right → isoW t ≠ numsOf s from fun t _ h => hs (by rw [← HL.out, ← h, isoW_length]))
    have hs2 : ((s.size : Int) != 24) = true := by simp; omega
    generalize numsOf s = xs at *
    clear hs
    go_enter Tryd.func26, Tryd.ntmps26
    go_wp2_with (first
      | (refine wpList_allocT ttR rfl rfl ?_; intro W r1 b1 z1; have HB1 := Lib.hid b1; clear b1 z1)
      | (refine wpList_storeT ttR rfl (.tmp 2) (.tmp 8) rfl w.heap.size rfl Tm.zero rfl Tm.zero ?_ ?_; exact r1; intro W5 r5 o5; have HB5 := Lib.hid (HB1.out.trans o5.below)))
    refine bodyPost_ret (v := .tuple #[tmV Tm.zero, .bool false]) ?_ rfl ?_
    · exact results_time_tmp ttR Tryd.resultsRRI _ _ w.heap.size _ rfl r5
    · exact ⟨.inr ⟨HN.out, rfl⟩, HB5.out⟩
end Clk
end Go.Proofs.YtfbgcjpakahocaaDoor

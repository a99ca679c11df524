/- ReadWeb of the document, of any text: the right time that tells it, or none. Nothing that was there is written. No conditions. -/
import Derived.Test.YtfbgcjpakahocaaDoorClkReadW
import Derived.Test.YtfbgcjpakahocaaDoorClkRefWeb
import Derived.Test.YtfbgcjpakahocaaDoorClkRefOf
namespace Go.Proofs.YtfbgcjpakahocaaDoor
open Go.RowKit
namespace Clk

/-- At a round's head: no month below k tells the text. -/
def WbAt (w : World) (xs : List Int) (n0 n1 n2 n3 n4 : Int) (g : Nat) (m : Value) (wr : World) : Prop :=
  ∃ k j : Int, 1 ≤ k ∧ k ≤ 13 ∧ m = .int .i64 k ∧ Row wr g 26 (tmC ⟨n0, j, n1, n2, n3, n4⟩) ∧ Row wr w.heap.size 26 (tmC Tm.zero) ∧ Below w.heap.size w wr ∧ ∀ i : Int, 1 ≤ i → i < k → tellW webW ⟨n0, i, n1, n2, n3, n4⟩ ≠ xs
theorem Tryd.resultsRRW : Tryd.f24.results = #[.cell 2 26, .tmp 3] := by kernel_rfl
set_option maxRecDepth 100000 in
set_option maxHeartbeats 8000000 in
theorem rreadWeb_any (s : ByteArray) (w : World) : Calls Tryd.prog 24 #[.string s] w fun e w' => ReadTo webW (numsOf s) e ∧ Below w.heap.size w w' := by
  have HL := Lib.hid (numsOf_length s)
  by_cases hs : s.size = 29
  · have HNE := Lib.hid (show numsOf s ≠ [] from fun h => by have := HL.out; rw [h, hs] at this; simp at this)
    have H0 := Lib.hid (fun (w' : World) => rvalue_any (s.extract 12 16) w' (by rw [ByteArray.size_extract]; omega))
    rw [nums_extract s 12 16] at H0
    have H1 := Lib.hid (fun (w' : World) => rvalue_any (s.extract 5 7) w' (by rw [ByteArray.size_extract]; omega))
    rw [nums_extract s 5 7] at H1
    have H2 := Lib.hid (fun (w' : World) => rvalue_any (s.extract 17 19) w' (by rw [ByteArray.size_extract]; omega))
    rw [nums_extract s 17 19] at H2
    have H3 := Lib.hid (fun (w' : World) => rvalue_any (s.extract 20 22) w' (by rw [ByteArray.size_extract]; omega))
    rw [nums_extract s 20 22] at H3
    have H4 := Lib.hid (fun (w' : World) => rvalue_any (s.extract 23 25) w' (by rw [ByteArray.size_extract]; omega))
    rw [nums_extract s 23 25] at H4
    have HBK := Lib.hid (fun (t' : Tm) (hr : t'.Right) (he : webW t' = numsOf s) => show webT numW t'.m (numsOf s) = t' by rw [← he]; exact web_back knows_numW hr)
    unfold webT at HBK
    have HTELL := Lib.hid (fun (t : Tm) (w' : World) => rweb_any t w')
    have HSE := Lib.hid (fun (t : Tm) => str_eq (tellW webW t) s (tell_bytes webW_bytes t))
    generalize numW (partW (numsOf s) 12 16) = n0 at *
    generalize numW (partW (numsOf s) 5 7) = n1 at *
    generalize numW (partW (numsOf s) 17 19) = n2 at *
    generalize numW (partW (numsOf s) 20 22) = n3 at *
    generalize numW (partW (numsOf s) 23 25) = n4 at *
    generalize numsOf s = xs at *
    go_enter Tryd.func24, Tryd.ntmps24
    go_wp2_with (first
      | (refine wpList_allocT ttR rfl rfl ?_; intro W1 r1 b1 z1; have HZ1 := Lib.hid r1.drew; have HB1 := Lib.hid (b1.trans (below_drewN (Below.refl _ W1) 1 |>.mono b1.size)); clear b1 r1 z1))
    go_cut [4] from 10 (fun v wx => ∃ g : Nat, v = .pointer (some ⟨g, 0, none⟩) ∧ w.heap.size < g ∧ Row wx g 26 (tmC ⟨n0, 0, n1, n2, n3, n4⟩) ∧ Row wx w.heap.size 26 (tmC Tm.zero) ∧ Below w.heap.size w wx)
    case first =>
      refine wp_region_treeT Ext 17 (.two [0, 1, 3, 4, 6, 7, 9, 10, 12, 13] 2 16 (.two [] 5 16 (.two [] 8 16 (.two [] 11 16 (.two [] 14 16 (.two [] 15 16 (.one [] 16 (.tail [] 17)) (.one [] 15 (.tail [] 17))) (.one [] 14 (.one [] 15 (.tail [] 17)))) (.one [] 11 (.one [] 14 (.one [] 15 (.tail [] 17))))) (.one [] 8 (.one [] 11 (.one [] 14 (.one [] 15 (.tail [] 17)))))) (.one [] 5 (.one [] 8 (.one [] 11 (.one [] 14 (.one [] 15 (.tail [] 17))))))) (.one [] 2 (.one [] 5 (.one [] 8 (.one [] 11 (.one [] 14 (.one [] 15 (.tail [] 17)))))))) (by kernel_rfl) (by kernel_rfl) (by decide) (by kernel_rfl) (by kernel_rfl) (fun _ _ d _ _ h => by cases d <;> exact h) ?_
      refine wpTree_two (by simp [pickOps]; rfl) ?_
      repeat (go_big_quiet_step (fail))
      refine wpQuiet_nil ?_
      refine ⟨?_, ?_⟩
      · skip
        refine wpOp_alone rfl rfl (fun K hK => ?_)
        go_simp
        refine (H0.out _).mono ?_
        rintro e v0 ⟨rfl, rfl⟩
        refine hK _ _ ⟨Ext.refl _, ?_⟩
        clear hK K
        refine wpTree_two (by simp [pickOps]; rfl) ?_
        refine wpQuiet_nil ?_
        refine ⟨?_, ?_⟩
        · skip
          refine wpOp_alone rfl rfl (fun K hK => ?_)
          go_simp
          refine (H1.out _).mono ?_
          rintro e v1 ⟨rfl, rfl⟩
          refine hK _ _ ⟨Ext.refl _, ?_⟩
          clear hK K
          refine wpTree_two (by simp [pickOps]; rfl) ?_
          refine wpQuiet_nil ?_
          refine ⟨?_, ?_⟩
          · skip
            refine wpOp_alone rfl rfl (fun K hK => ?_)
            go_simp
            refine (H2.out _).mono ?_
            rintro e v2 ⟨rfl, rfl⟩
            refine hK _ _ ⟨Ext.refl _, ?_⟩
            clear hK K
            refine wpTree_two (by simp [pickOps]; rfl) ?_
            refine wpQuiet_nil ?_
            refine ⟨?_, ?_⟩
            · skip
              refine wpOp_alone rfl rfl (fun K hK => ?_)
              go_simp
              refine (H3.out _).mono ?_
              rintro e v3 ⟨rfl, rfl⟩
              refine hK _ _ ⟨Ext.refl _, ?_⟩
              clear hK K
              refine wpTree_two (by simp [pickOps]; rfl) ?_
              refine wpQuiet_nil ?_
              refine ⟨?_, ?_⟩
              · skip
                refine wpOp_alone rfl rfl (fun K hK => ?_)
                go_simp
                refine (H4.out _).mono ?_
                rintro e v4 ⟨rfl, rfl⟩
                refine hK _ _ ⟨Ext.refl _, ?_⟩
                clear hK K
                refine wpTree_two (by simp [pickOps]; rfl) ?_
                refine wpQuiet_nil ?_
                refine ⟨?_, ?_⟩
                · skip
                  refine wpOp_alone rfl rfl (fun K hK => ?_)
                  refine wp_build5 ttR _ _ _ _ _ rfl ⟨n0, 0, n1, n2, n3, n4⟩ rfl rfl rfl rfl rfl rfl ?_
                  refine hK _ _ ⟨Ext.refl _, ?_⟩
                  clear hK K
                  refine wpTree_one (by simp [pickOps]; rfl) ?_
                  refine wpQuiet_nil ?_
                  refine wpOp_alone rfl rfl (fun K hK => ?_)
                  refine wp_allocT ttR rfl ?_
                  intro u1 r1 b1 z1
                  refine hK _ _ ⟨b1, ?_⟩
                  have HB2 := Lib.hid (HB1.out.trans (b1.mono HB1.out.size))
                  have HZ2 := Lib.hid (HZ1.out.keep b1)
                  have HG2 := Lib.hid r1
                  have hlt := HZ1.out.lt
                  clear b1 r1 z1 hK K HB1 HZ1
                  refine wpTree_tail (by simp [pickOps]; rfl) ?_
                  refine wpQuiet_nil ?_
                  refine wpOp_alone rfl rfl (fun K hK => ?_)
                  refine wp_storeT ttR _ _ rfl _ rfl ⟨n0, 0, n1, n2, n3, n4⟩ rfl Tm.zero HG2.out ?_
                  intro w99 r99 o99
                  refine hK _ _ ?_
                  go_simp
                  go_wp2_with fail
                  go_meet
                  exact ⟨_, rfl, hlt, r99, o99.row HZ2.out (Nat.ne_of_lt hlt), HB2.out.trans (o99.below.mono (Nat.le_of_lt hlt))⟩
                · skip
                  refine wpOp_alone rfl rfl (fun K hK => ?_)
                  refine wp_allocT ttR rfl ?_
                  intro u1 r1 b1 z1
                  refine hK _ _ ⟨b1, ?_⟩
                  have HB2 := Lib.hid (HB1.out.trans (b1.mono HB1.out.size))
                  have HZ2 := Lib.hid (HZ1.out.keep b1)
                  have HG2 := Lib.hid r1
                  have hlt := HZ1.out.lt
                  clear b1 r1 z1 hK K HB1 HZ1
                  refine wpTree_one (by simp [pickOps]; rfl) ?_
                  refine wpQuiet_nil ?_
                  refine wpOp_alone rfl rfl (fun K hK => ?_)
                  refine wp_build5 ttR _ _ _ _ _ rfl ⟨n0, 0, n1, n2, n3, n4⟩ rfl rfl rfl rfl rfl rfl ?_
                  refine hK _ _ ⟨Ext.refl _, ?_⟩
                  clear hK K
                  refine wpTree_tail (by simp [pickOps]; rfl) ?_
                  refine wpQuiet_nil ?_
                  refine wpOp_alone rfl rfl (fun K hK => ?_)
                  refine wp_storeT ttR _ _ rfl _ rfl ⟨n0, 0, n1, n2, n3, n4⟩ rfl Tm.zero HG2.out ?_
                  intro w99 r99 o99
                  refine hK _ _ ?_
                  go_simp
                  go_wp2_with fail
                  go_meet
                  exact ⟨_, rfl, hlt, r99, o99.row HZ2.out (Nat.ne_of_lt hlt), HB2.out.trans (o99.below.mono (Nat.le_of_lt hlt))⟩
              · skip
                refine wpOp_alone rfl rfl (fun K hK => ?_)
                refine wp_allocT ttR rfl ?_
                intro u1 r1 b1 z1
                refine hK _ _ ⟨b1, ?_⟩
                have HB2 := Lib.hid (HB1.out.trans (b1.mono HB1.out.size))
                have HZ2 := Lib.hid (HZ1.out.keep b1)
                have HG2 := Lib.hid r1
                have hlt := HZ1.out.lt
                clear b1 r1 z1 hK K HB1 HZ1
                refine wpTree_one (by simp [pickOps]; rfl) ?_
                refine wpQuiet_nil ?_
                refine wpOp_alone rfl rfl (fun K hK => ?_)
                go_simp
                refine (H4.out _).mono ?_
                rintro e v4 ⟨rfl, rfl⟩
                refine hK _ _ ⟨Ext.refl _, ?_⟩
                clear hK K
                refine wpTree_one (by simp [pickOps]; rfl) ?_
                refine wpQuiet_nil ?_
                refine wpOp_alone rfl rfl (fun K hK => ?_)
                refine wp_build5 ttR _ _ _ _ _ rfl ⟨n0, 0, n1, n2, n3, n4⟩ rfl rfl rfl rfl rfl rfl ?_
                refine hK _ _ ⟨Ext.refl _, ?_⟩
                clear hK K
                refine wpTree_tail (by simp [pickOps]; rfl) ?_
                refine wpQuiet_nil ?_
                refine wpOp_alone rfl rfl (fun K hK => ?_)
                refine wp_storeT ttR _ _ rfl _ rfl ⟨n0, 0, n1, n2, n3, n4⟩ rfl Tm.zero HG2.out ?_
                intro w99 r99 o99
                refine hK _ _ ?_
                go_simp
                go_wp2_with fail
                go_meet
                exact ⟨_, rfl, hlt, r99, o99.row HZ2.out (Nat.ne_of_lt hlt), HB2.out.trans (o99.below.mono (Nat.le_of_lt hlt))⟩
            · skip
              refine wpOp_alone rfl rfl (fun K hK => ?_)
              refine wp_allocT ttR rfl ?_
              intro u1 r1 b1 z1
              refine hK _ _ ⟨b1, ?_⟩
              have HB2 := Lib.hid (HB1.out.trans (b1.mono HB1.out.size))
              have HZ2 := Lib.hid (HZ1.out.keep b1)
              have HG2 := Lib.hid r1
              have hlt := HZ1.out.lt
              clear b1 r1 z1 hK K HB1 HZ1
              refine wpTree_one (by simp [pickOps]; rfl) ?_
              refine wpQuiet_nil ?_
              refine wpOp_alone rfl rfl (fun K hK => ?_)
              go_simp
              refine (H3.out _).mono ?_
              rintro e v3 ⟨rfl, rfl⟩
              refine hK _ _ ⟨Ext.refl _, ?_⟩
              clear hK K
              refine wpTree_one (by simp [pickOps]; rfl) ?_
              refine wpQuiet_nil ?_
              refine wpOp_alone rfl rfl (fun K hK => ?_)
              go_simp
              refine (H4.out _).mono ?_
              rintro e v4 ⟨rfl, rfl⟩
              refine hK _ _ ⟨Ext.refl _, ?_⟩
              clear hK K
              refine wpTree_one (by simp [pickOps]; rfl) ?_
              refine wpQuiet_nil ?_
              refine wpOp_alone rfl rfl (fun K hK => ?_)
              refine wp_build5 ttR _ _ _ _ _ rfl ⟨n0, 0, n1, n2, n3, n4⟩ rfl rfl rfl rfl rfl rfl ?_
              refine hK _ _ ⟨Ext.refl _, ?_⟩
              clear hK K
              refine wpTree_tail (by simp [pickOps]; rfl) ?_
              refine wpQuiet_nil ?_
              refine wpOp_alone rfl rfl (fun K hK => ?_)
              refine wp_storeT ttR _ _ rfl _ rfl ⟨n0, 0, n1, n2, n3, n4⟩ rfl Tm.zero HG2.out ?_
              intro w99 r99 o99
              refine hK _ _ ?_
              go_simp
              go_wp2_with fail
              go_meet
              exact ⟨_, rfl, hlt, r99, o99.row HZ2.out (Nat.ne_of_lt hlt), HB2.out.trans (o99.below.mono (Nat.le_of_lt hlt))⟩
          · skip
            refine wpOp_alone rfl rfl (fun K hK => ?_)
            refine wp_allocT ttR rfl ?_
            intro u1 r1 b1 z1
            refine hK _ _ ⟨b1, ?_⟩
            have HB2 := Lib.hid (HB1.out.trans (b1.mono HB1.out.size))
            have HZ2 := Lib.hid (HZ1.out.keep b1)
            have HG2 := Lib.hid r1
            have hlt := HZ1.out.lt
            clear b1 r1 z1 hK K HB1 HZ1
            refine wpTree_one (by simp [pickOps]; rfl) ?_
            refine wpQuiet_nil ?_
            refine wpOp_alone rfl rfl (fun K hK => ?_)
            go_simp
            refine (H2.out _).mono ?_
            rintro e v2 ⟨rfl, rfl⟩
            refine hK _ _ ⟨Ext.refl _, ?_⟩
            clear hK K
            refine wpTree_one (by simp [pickOps]; rfl) ?_
            refine wpQuiet_nil ?_
            refine wpOp_alone rfl rfl (fun K hK => ?_)
            go_simp
            refine (H3.out _).mono ?_
            rintro e v3 ⟨rfl, rfl⟩
            refine hK _ _ ⟨Ext.refl _, ?_⟩
            clear hK K
            refine wpTree_one (by simp [pickOps]; rfl) ?_
            refine wpQuiet_nil ?_
            refine wpOp_alone rfl rfl (fun K hK => ?_)
            go_simp
            refine (H4.out _).mono ?_
            rintro e v4 ⟨rfl, rfl⟩
            refine hK _ _ ⟨Ext.refl _, ?_⟩
            clear hK K
            refine wpTree_one (by simp [pickOps]; rfl) ?_
            refine wpQuiet_nil ?_
            refine wpOp_alone rfl rfl (fun K hK => ?_)
            refine wp_build5 ttR _ _ _ _ _ rfl ⟨n0, 0, n1, n2, n3, n4⟩ rfl rfl rfl rfl rfl rfl ?_
            refine hK _ _ ⟨Ext.refl _, ?_⟩
            clear hK K
            refine wpTree_tail (by simp [pickOps]; rfl) ?_
            refine wpQuiet_nil ?_
            refine wpOp_alone rfl rfl (fun K hK => ?_)
            refine wp_storeT ttR _ _ rfl _ rfl ⟨n0, 0, n1, n2, n3, n4⟩ rfl Tm.zero HG2.out ?_
            intro w99 r99 o99
            refine hK _ _ ?_
            go_simp
            go_wp2_with fail
            go_meet
            exact ⟨_, rfl, hlt, r99, o99.row HZ2.out (Nat.ne_of_lt hlt), HB2.out.trans (o99.below.mono (Nat.le_of_lt hlt))⟩
        · skip
          refine wpOp_alone rfl rfl (fun K hK => ?_)
          refine wp_allocT ttR rfl ?_
          intro u1 r1 b1 z1
          refine hK _ _ ⟨b1, ?_⟩
          have HB2 := Lib.hid (HB1.out.trans (b1.mono HB1.out.size))
          have HZ2 := Lib.hid (HZ1.out.keep b1)
          have HG2 := Lib.hid r1
          have hlt := HZ1.out.lt
          clear b1 r1 z1 hK K HB1 HZ1
          refine wpTree_one (by simp [pickOps]; rfl) ?_
          refine wpQuiet_nil ?_
          refine wpOp_alone rfl rfl (fun K hK => ?_)
          go_simp
          refine (H1.out _).mono ?_
          rintro e v1 ⟨rfl, rfl⟩
          refine hK _ _ ⟨Ext.refl _, ?_⟩
          clear hK K
          refine wpTree_one (by simp [pickOps]; rfl) ?_
          refine wpQuiet_nil ?_
          refine wpOp_alone rfl rfl (fun K hK => ?_)
          go_simp
          refine (H2.out _).mono ?_
          rintro e v2 ⟨rfl, rfl⟩
          refine hK _ _ ⟨Ext.refl _, ?_⟩
          clear hK K
          refine wpTree_one (by simp [pickOps]; rfl) ?_
          refine wpQuiet_nil ?_
          refine wpOp_alone rfl rfl (fun K hK => ?_)
          go_simp
          refine (H3.out _).mono ?_
          rintro e v3 ⟨rfl, rfl⟩
          refine hK _ _ ⟨Ext.refl _, ?_⟩
          clear hK K
          refine wpTree_one (by simp [pickOps]; rfl) ?_
          refine wpQuiet_nil ?_
          refine wpOp_alone rfl rfl (fun K hK => ?_)
          go_simp
          refine (H4.out _).mono ?_
          rintro e v4 ⟨rfl, rfl⟩
          refine hK _ _ ⟨Ext.refl _, ?_⟩
          clear hK K
          refine wpTree_one (by simp [pickOps]; rfl) ?_
          refine wpQuiet_nil ?_
          refine wpOp_alone rfl rfl (fun K hK => ?_)
          refine wp_build5 ttR _ _ _ _ _ rfl ⟨n0, 0, n1, n2, n3, n4⟩ rfl rfl rfl rfl rfl rfl ?_
          refine hK _ _ ⟨Ext.refl _, ?_⟩
          clear hK K
          refine wpTree_tail (by simp [pickOps]; rfl) ?_
          refine wpQuiet_nil ?_
          refine wpOp_alone rfl rfl (fun K hK => ?_)
          refine wp_storeT ttR _ _ rfl _ rfl ⟨n0, 0, n1, n2, n3, n4⟩ rfl Tm.zero HG2.out ?_
          intro w99 r99 o99
          refine hK _ _ ?_
          go_simp
          go_wp2_with fail
          go_meet
          exact ⟨_, rfl, hlt, r99, o99.row HZ2.out (Nat.ne_of_lt hlt), HB2.out.trans (o99.below.mono (Nat.le_of_lt hlt))⟩
      · skip
        refine wpOp_alone rfl rfl (fun K hK => ?_)
        refine wp_allocT ttR rfl ?_
        intro u1 r1 b1 z1
        refine hK _ _ ⟨b1, ?_⟩
        have HB2 := Lib.hid (HB1.out.trans (b1.mono HB1.out.size))
        have HZ2 := Lib.hid (HZ1.out.keep b1)
        have HG2 := Lib.hid r1
        have hlt := HZ1.out.lt
        clear b1 r1 z1 hK K HB1 HZ1
        refine wpTree_one (by simp [pickOps]; rfl) ?_
        refine wpQuiet_nil ?_
        refine wpOp_alone rfl rfl (fun K hK => ?_)
        go_simp
        refine (H0.out _).mono ?_
        rintro e v0 ⟨rfl, rfl⟩
        refine hK _ _ ⟨Ext.refl _, ?_⟩
        clear hK K
        refine wpTree_one (by simp [pickOps]; rfl) ?_
        refine wpQuiet_nil ?_
        refine wpOp_alone rfl rfl (fun K hK => ?_)
        go_simp
        refine (H1.out _).mono ?_
        rintro e v1 ⟨rfl, rfl⟩
        refine hK _ _ ⟨Ext.refl _, ?_⟩
        clear hK K
        refine wpTree_one (by simp [pickOps]; rfl) ?_
        refine wpQuiet_nil ?_
        refine wpOp_alone rfl rfl (fun K hK => ?_)
        go_simp
        refine (H2.out _).mono ?_
        rintro e v2 ⟨rfl, rfl⟩
        refine hK _ _ ⟨Ext.refl _, ?_⟩
        clear hK K
        refine wpTree_one (by simp [pickOps]; rfl) ?_
        refine wpQuiet_nil ?_
        refine wpOp_alone rfl rfl (fun K hK => ?_)
        go_simp
        refine (H3.out _).mono ?_
        rintro e v3 ⟨rfl, rfl⟩
        refine hK _ _ ⟨Ext.refl _, ?_⟩
        clear hK K
        refine wpTree_one (by simp [pickOps]; rfl) ?_
        refine wpQuiet_nil ?_
        refine wpOp_alone rfl rfl (fun K hK => ?_)
        go_simp
        refine (H4.out _).mono ?_
        rintro e v4 ⟨rfl, rfl⟩
        refine hK _ _ ⟨Ext.refl _, ?_⟩
        clear hK K
        refine wpTree_one (by simp [pickOps]; rfl) ?_
        refine wpQuiet_nil ?_
        refine wpOp_alone rfl rfl (fun K hK => ?_)
        refine wp_build5 ttR _ _ _ _ _ rfl ⟨n0, 0, n1, n2, n3, n4⟩ rfl rfl rfl rfl rfl rfl ?_
        refine hK _ _ ⟨Ext.refl _, ?_⟩
        clear hK K
        refine wpTree_tail (by simp [pickOps]; rfl) ?_
        refine wpQuiet_nil ?_
        refine wpOp_alone rfl rfl (fun K hK => ?_)
        refine wp_storeT ttR _ _ rfl _ rfl ⟨n0, 0, n1, n2, n3, n4⟩ rfl Tm.zero HG2.out ?_
        intro w99 r99 o99
        refine hK _ _ ?_
        go_simp
        go_wp2_with fail
        go_meet
        exact ⟨_, rfl, hlt, r99, o99.row HZ2.out (Nat.ne_of_lt hlt), HB2.out.trans (o99.below.mono (Nat.le_of_lt hlt))⟩
    case rest =>
      obtain ⟨g, rfl, hlt, hr9, hz9, hb9⟩ := hcut
      have HST : Hid (WbAt w xs n0 n1 n2 n3 n4 g (.int .i64 1) wc) := Lib.hid ⟨1, 0, by omega, by omega, rfl, hr9, hz9, hb9, fun i h1 h2 => absurd h1 (by omega)⟩
      clear hr9 hz9 hb9 HB1 HZ1 H0 H1 H2 H3 H4
      go_wp2_with fail
      go_loopw [5] (fun m wr => WbAt w xs n0 n1 n2 n3 n4 g m wr) (fun m _ => (20 - intOf m).toNat)
      case atStart => exact HST.out
      case round =>
        clear HST
        obtain ⟨k, j, k0, k1, rfl, hr, hz, hb, hp⟩ := hrel
        have HP := Lib.hid hp
        have HZ := Lib.hid hz
        have HB := Lib.hid hb
        clear hp hz hb
        rcases (show k ≤ 12 ∨ k = 13 by omega) with hk | rfl
        · have HRK := Lib.hid (row_m k hr)
          have HZK := Lib.hid (HZ.out.other (b := g) (by omega) 1 (.int .i64 k))
          have HBK2 := Lib.hid (HB.out.setCell (p := ⟨g, 1, none⟩) (by show w.heap.size ≤ g; omega) (.int .i64 k))
          have HTL := Lib.hid (fun w' => HTELL.out ⟨n0, k, n1, n2, n3, n4⟩ w')
          have hE := HSE.out ⟨n0, k, n1, n2, n3, n4⟩
          have hE2 : ((strOfNums (tellW webW ⟨n0, k, n1, n2, n3, n4⟩)).toList == s.toList) = decide (tellW webW ⟨n0, k, n1, n2, n3, n4⟩ = xs) := by rw [← beq_toListBytes]; exact hE
          generalize strOfNums (tellW webW ⟨n0, k, n1, n2, n3, n4⟩) = S at *
          unfold tmV at HTL
          have f1 := hr.free 1
          obtain ⟨c0, c1, c2, c3, c4, c5⟩ := TmAt.of hr
          have d1 : wr.cell? ⟨g, 1, none⟩ = some (.int .i64 j) := c1
          clear c0 c1 c2 c3 c4 c5 hr
          by_cases hx : tellW webW ⟨n0, k, n1, n2, n3, n4⟩ = xs
          · have HRE := Lib.hid hx
            rw [decide_eq_true hx] at hE hE2
            clear hx
            go_wp2_with (first
              | (refine wpList_loadT ttR (.tmp 4) rfl rfl g rfl ⟨n0, k, n1, n2, n3, n4⟩ ?_ ?_; exact HRK.out))
            refine (HTL.out _).mono ?_
            rintro e w10 ⟨rfl, hb10⟩
            have HR19 := Lib.hid (HRK.out.keep hb10)
            have HR20 := Lib.hid (HZK.out.keep hb10)
            have HB10 := Lib.hid (HBK2.out.trans (hb10.mono HBK2.out.size))
            clear hb10
            go_wp2_with (first
              | (refine wpList_loadT ttR (.tmp 4) rfl rfl g rfl ⟨n0, k, n1, n2, n3, n4⟩ ?_ ?_; exact HR19.out)
              | (refine wpList_storeT ttR rfl (.tmp 2) (.tmp 36) rfl w.heap.size rfl ⟨n0, k, n1, n2, n3, n4⟩ rfl Tm.zero ?_ ?_; exact HR20.out; intro W11 r11 o11; have HB11 := Lib.hid (HB10.out.trans o11.below)))
            refine bodyPost_ret (v := .tuple #[tmV ⟨n0, k, n1, n2, n3, n4⟩, .bool true]) ?_ rfl ?_
            · exact results_time_tmp ttR Tryd.resultsRRW _ _ w.heap.size _ rfl r11
            · refine ⟨.inl ⟨⟨n0, k, n1, n2, n3, n4⟩, ?_, ?_, rfl⟩, HB11.out⟩
              · by_cases hr : Tm.Right ⟨n0, k, n1, n2, n3, n4⟩
                · exact hr
                · exact absurd (HRE.out.symm.trans (tell_no hr)) HNE.out
              · by_cases hr : Tm.Right ⟨n0, k, n1, n2, n3, n4⟩
                · rw [← HRE.out, tell_yes hr]
                · exact absurd (HRE.out.symm.trans (tell_no hr)) HNE.out
          · have HX := Lib.hid hx
            rw [decide_eq_false hx] at hE hE2
            clear hx
            go_wp2_with (first
              | (refine wpList_loadT ttR (.tmp 4) rfl rfl g rfl ⟨n0, k, n1, n2, n3, n4⟩ ?_ ?_; exact HRK.out))
            refine (HTL.out _).mono ?_
            rintro e w10 ⟨rfl, hb10⟩
            have HR19 := Lib.hid (HRK.out.keep hb10)
            have HR20 := Lib.hid (HZK.out.keep hb10)
            have HB10 := Lib.hid (HBK2.out.trans (hb10.mono HBK2.out.size))
            clear hb10
            go_wp2_with fail
            refine ⟨⟨k + 1, k, by omega, by omega, rfl, HR19.out, HR20.out, HB10.out, fun i h1 h2 => ?_⟩, by simp [intOf]; omega⟩
            rcases (show i < k ∨ i = k by omega) with h | rfl
            · exact HP.out i h1 h
            · exact HX.out
        · have HN : Hid (∀ t : Tm, t.Right → webW t ≠ xs) := Lib.hid fun t hr he => by
            have e := HBK.out t hr he
            refine HP.out t.m hr.2.1.1 (by have := hr.2.1.2; omega) ?_
            rw [e, tell_yes hr, he]
          clear hr
          go_wp2_with (first
            | (refine wpList_storeT ttR rfl (.tmp 2) (.tmp 37) rfl w.heap.size rfl Tm.zero rfl Tm.zero ?_ ?_; exact HZ.out; intro W11 r11 o11; have HB11 := Lib.hid (HB.out.trans o11.below)))
          refine bodyPost_ret (v := .tuple #[tmV Tm.zero, .bool false]) ?_ rfl ?_
          · exact results_time_tmp ttR Tryd.resultsRRW _ _ w.heap.size _ rfl r11
          · exact ⟨.inr ⟨HN.out, rfl⟩, HB11.out⟩
  · have HN := Lib.hid (show ∀ t : Tm, t.Right → webW t ≠ numsOf s from fun t _ h => hs (by rw [← HL.out, ← h, webW_length]))
    have hs2 : ((s.size : Int) != 29) = true := by simp; omega
    generalize numsOf s = xs at *
    clear hs
    go_enter Tryd.func24, Tryd.ntmps24
    go_wp2_with (first
      | (refine wpList_allocT ttR rfl rfl ?_; intro W r1 b1 z1; have HB1 := Lib.hid b1; clear b1 z1)
      | (refine wpList_storeT ttR rfl (.tmp 2) (.tmp 9) rfl w.heap.size rfl Tm.zero rfl Tm.zero ?_ ?_; exact r1; intro W5 r5 o5; have HB5 := Lib.hid (HB1.out.trans o5.below)))
    refine bodyPost_ret (v := .tuple #[tmV Tm.zero, .bool false]) ?_ rfl ?_
    · exact results_time_tmp ttR Tryd.resultsRRW _ _ w.heap.size _ rfl r5
    · exact ⟨.inr ⟨HN.out, rfl⟩, HB5.out⟩
end Clk
end Go.Proofs.YtfbgcjpakahocaaDoor

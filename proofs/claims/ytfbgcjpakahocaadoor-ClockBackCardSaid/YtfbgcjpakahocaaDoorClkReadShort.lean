/- ReadShort of the program, of any text: the right time that tells it, or none. Nothing that was there is written. Conditions: the listed tables lie where they were laid. -/
import Derived.Test.YtfbgcjpakahocaaDoorClkReadW
namespace Go.Proofs.YtfbgcjpakahocaaDoor
open Go.RowKit Go.Shelf
namespace Clk

theorem Tryd.resultsRS : Tryd.f27.results = #[.cell 2 23, .tmp 3] := by kernel_rfl
set_option maxRecDepth 100000 in
set_option maxHeartbeats 8000000 in
theorem readShort_any (s : ByteArray) (w : World) (ht : Tabs w) : Calls Tryd.prog 27 #[.string s] w fun e w' => ReadTo shortW (numsOf s) e ∧ Below w.heap.size w w' := by
  have Ht := Lib.hid ht
  have HL := Lib.hid (numsOf_length s)
  clear ht
  by_cases hs : s.size = 16
  · have HNE := Lib.hid (show numsOf s ≠ [] from fun h => by have := HL.out; rw [h, hs] at this; simp at this)
    have H0 := Lib.hid (fun (w' : World) => number_any (s.extract 0 4) w' (by rw [ByteArray.size_extract]; omega))
    rw [nums_extract s 0 4] at H0
    have H1 := Lib.hid (fun (w' : World) => number_any (s.extract 4 6) w' (by rw [ByteArray.size_extract]; omega))
    rw [nums_extract s 4 6] at H1
    have H2 := Lib.hid (fun (w' : World) => number_any (s.extract 6 8) w' (by rw [ByteArray.size_extract]; omega))
    rw [nums_extract s 6 8] at H2
    have H3 := Lib.hid (fun (w' : World) => number_any (s.extract 9 11) w' (by rw [ByteArray.size_extract]; omega))
    rw [nums_extract s 9 11] at H3
    have H4 := Lib.hid (fun (w' : World) => number_any (s.extract 11 13) w' (by rw [ByteArray.size_extract]; omega))
    rw [nums_extract s 11 13] at H4
    have H5 := Lib.hid (fun (w' : World) => number_any (s.extract 13 15) w' (by rw [ByteArray.size_extract]; omega))
    rw [nums_extract s 13 15] at H5
    have HBK := Lib.hid (fun (t' : Tm) (hr : t'.Right) (he : shortW t' = numsOf s) => show shortT numR (numsOf s) = t' by rw [← he]; exact short_back knows_numR hr)
    unfold shortT at HBK
    have HTOLD := Lib.hid (fun (t : Tm) (w' : World) (h : Tabs w') => told_any 17 shortW t s w' h (tell_bytes shortW_bytes t) (enters_of Tryd.func17 (by kernel_rfl) rfl) (fun w2 h2 => short_any t w2 h2))
    generalize numR (partW (numsOf s) 0 4) = n0 at *
    generalize numR (partW (numsOf s) 4 6) = n1 at *
    generalize numR (partW (numsOf s) 6 8) = n2 at *
    generalize numR (partW (numsOf s) 9 11) = n3 at *
    generalize numR (partW (numsOf s) 11 13) = n4 at *
    generalize numR (partW (numsOf s) 13 15) = n5 at *
    generalize numsOf s = xs at *
    go_enter Tryd.func27, Tryd.ntmps27
    go_wp2_with (first
      | (refine wpList_allocT ttP rfl rfl ?_; intro W1 r1 b1 z1; have HZ1 := Lib.hid r1.drew; have HB1 := Lib.hid (b1.trans (below_drewN (Below.refl _ W1) 1 |>.mono b1.size)); clear b1 r1 z1))
    go_cut [4] from 9 (fun v wx => ∃ g : Nat, v = .pointer (some ⟨g, 0, none⟩) ∧ w.heap.size < g ∧ Row wx g 23 (tmC ⟨n0, n1, n2, n3, n4, n5⟩) ∧ Row wx w.heap.size 23 (tmC Tm.zero) ∧ Below w.heap.size w wx)
    case first =>
      refine wp_region_treeT Ext 20 (.two [0, 1, 3, 4, 6, 7, 9, 10, 12, 13, 15, 16] 2 19 (.two [] 5 19 (.two [] 8 19 (.two [] 11 19 (.two [] 14 19 (.two [] 17 19 (.two [] 18 19 (.one [] 19 (.tail [] 20)) (.one [] 18 (.tail [] 20))) (.one [] 17 (.one [] 18 (.tail [] 20)))) (.one [] 14 (.one [] 17 (.one [] 18 (.tail [] 20))))) (.one [] 11 (.one [] 14 (.one [] 17 (.one [] 18 (.tail [] 20)))))) (.one [] 8 (.one [] 11 (.one [] 14 (.one [] 17 (.one [] 18 (.tail [] 20))))))) (.one [] 5 (.one [] 8 (.one [] 11 (.one [] 14 (.one [] 17 (.one [] 18 (.tail [] 20)))))))) (.one [] 2 (.one [] 5 (.one [] 8 (.one [] 11 (.one [] 14 (.one [] 17 (.one [] 18 (.tail [] 20))))))))) (by kernel_rfl) (by kernel_rfl) (by decide) (by kernel_rfl) (by kernel_rfl) (fun _ _ d _ _ h => by cases d <;> exact h) ?_
      refine wpTree_two (by simp [pickOps]; rfl) ?_
      repeat (go_big_quiet_step (fail))
      refine wpQuiet_nil ?_
      refine ⟨?_, ?_⟩
      · skip
        refine wpOp_alone rfl rfl (fun K hK => ?_)
        go_simp
        refine (H0.out _).mono ?_
        rintro e w2 ⟨rfl, hb2⟩
        refine hK _ _ ⟨hb2, ?_⟩
        have HB2 := Lib.hid (HB1.out.trans (hb2.mono HB1.out.size))
        have HZ2 := Lib.hid (HZ1.out.keep hb2)
        clear hb2 hK K HB1 HZ1
        refine wpTree_two (by simp [pickOps]; rfl) ?_
        refine wpQuiet_nil ?_
        refine ⟨?_, ?_⟩
        · skip
          refine wpOp_alone rfl rfl (fun K hK => ?_)
          go_simp
          refine (H1.out _).mono ?_
          rintro e w3 ⟨rfl, hb3⟩
          refine hK _ _ ⟨hb3, ?_⟩
          have HB3 := Lib.hid (HB2.out.trans (hb3.mono HB2.out.size))
          have HZ3 := Lib.hid (HZ2.out.keep hb3)
          clear hb3 hK K HB2 HZ2
          refine wpTree_two (by simp [pickOps]; rfl) ?_
          refine wpQuiet_nil ?_
          refine ⟨?_, ?_⟩
          · skip
            refine wpOp_alone rfl rfl (fun K hK => ?_)
            go_simp
            refine (H2.out _).mono ?_
            rintro e w4 ⟨rfl, hb4⟩
            refine hK _ _ ⟨hb4, ?_⟩
            have HB4 := Lib.hid (HB3.out.trans (hb4.mono HB3.out.size))
            have HZ4 := Lib.hid (HZ3.out.keep hb4)
            clear hb4 hK K HB3 HZ3
            refine wpTree_two (by simp [pickOps]; rfl) ?_
            refine wpQuiet_nil ?_
            refine ⟨?_, ?_⟩
            · skip
              refine wpOp_alone rfl rfl (fun K hK => ?_)
              go_simp
              refine (H3.out _).mono ?_
              rintro e w5 ⟨rfl, hb5⟩
              refine hK _ _ ⟨hb5, ?_⟩
              have HB5 := Lib.hid (HB4.out.trans (hb5.mono HB4.out.size))
              have HZ5 := Lib.hid (HZ4.out.keep hb5)
              clear hb5 hK K HB4 HZ4
              refine wpTree_two (by simp [pickOps]; rfl) ?_
              refine wpQuiet_nil ?_
              refine ⟨?_, ?_⟩
              · skip
                refine wpOp_alone rfl rfl (fun K hK => ?_)
                go_simp
                refine (H4.out _).mono ?_
                rintro e w6 ⟨rfl, hb6⟩
                refine hK _ _ ⟨hb6, ?_⟩
                have HB6 := Lib.hid (HB5.out.trans (hb6.mono HB5.out.size))
                have HZ6 := Lib.hid (HZ5.out.keep hb6)
                clear hb6 hK K HB5 HZ5
                refine wpTree_two (by simp [pickOps]; rfl) ?_
                refine wpQuiet_nil ?_
                refine ⟨?_, ?_⟩
                · skip
                  refine wpOp_alone rfl rfl (fun K hK => ?_)
                  go_simp
                  refine (H5.out _).mono ?_
                  rintro e w7 ⟨rfl, hb7⟩
                  refine hK _ _ ⟨hb7, ?_⟩
                  have HB7 := Lib.hid (HB6.out.trans (hb7.mono HB6.out.size))
                  have HZ7 := Lib.hid (HZ6.out.keep hb7)
                  clear hb7 hK K HB6 HZ6
                  refine wpTree_two (by simp [pickOps]; rfl) ?_
                  refine wpQuiet_nil ?_
                  refine ⟨?_, ?_⟩
                  · skip
                    refine wpOp_alone rfl rfl (fun K hK => ?_)
                    refine wp_build6 ttP _ _ _ _ _ _ rfl ⟨n0, n1, n2, n3, n4, n5⟩ rfl rfl rfl rfl rfl rfl ?_
                    refine hK _ _ ⟨Ext.refl _, ?_⟩
                    clear hK K
                    refine wpTree_one (by simp [pickOps]; rfl) ?_
                    refine wpQuiet_nil ?_
                    refine wpOp_alone rfl rfl (fun K hK => ?_)
                    refine wp_allocT ttP rfl ?_
                    intro w8 r8 b8 z8
                    refine hK _ _ ⟨b8, ?_⟩
                    have HB8 := Lib.hid (HB7.out.trans (b8.mono HB7.out.size))
                    have HZ8 := Lib.hid (HZ7.out.keep b8)
                    have HG8 := Lib.hid r8
                    have hlt := HZ7.out.lt
                    clear b8 r8 z8 hK K HB7 HZ7
                    refine wpTree_tail (by simp [pickOps]; rfl) ?_
                    refine wpQuiet_nil ?_
                    refine wpOp_alone rfl rfl (fun K hK => ?_)
                    refine wp_storeT ttP _ _ rfl _ rfl ⟨n0, n1, n2, n3, n4, n5⟩ rfl Tm.zero HG8.out ?_
                    intro w99 r99 o99
                    refine hK _ _ ?_
                    go_simp
                    go_wp2_with fail
                    go_meet
                    exact ⟨_, rfl, hlt, r99, o99.row HZ8.out (Nat.ne_of_lt hlt), HB8.out.trans (o99.below.mono (Nat.le_of_lt hlt))⟩
                  · skip
                    refine wpOp_alone rfl rfl (fun K hK => ?_)
                    refine wp_allocT ttP rfl ?_
                    intro w8 r8 b8 z8
                    refine hK _ _ ⟨b8, ?_⟩
                    have HB8 := Lib.hid (HB7.out.trans (b8.mono HB7.out.size))
                    have HZ8 := Lib.hid (HZ7.out.keep b8)
                    have HG8 := Lib.hid r8
                    have hlt := HZ7.out.lt
                    clear b8 r8 z8 hK K HB7 HZ7
                    refine wpTree_one (by simp [pickOps]; rfl) ?_
                    refine wpQuiet_nil ?_
                    refine wpOp_alone rfl rfl (fun K hK => ?_)
                    refine wp_build6 ttP _ _ _ _ _ _ rfl ⟨n0, n1, n2, n3, n4, n5⟩ rfl rfl rfl rfl rfl rfl ?_
                    refine hK _ _ ⟨Ext.refl _, ?_⟩
                    clear hK K
                    refine wpTree_tail (by simp [pickOps]; rfl) ?_
                    refine wpQuiet_nil ?_
                    refine wpOp_alone rfl rfl (fun K hK => ?_)
                    refine wp_storeT ttP _ _ rfl _ rfl ⟨n0, n1, n2, n3, n4, n5⟩ rfl Tm.zero HG8.out ?_
                    intro w99 r99 o99
                    refine hK _ _ ?_
                    go_simp
                    go_wp2_with fail
                    go_meet
                    exact ⟨_, rfl, hlt, r99, o99.row HZ8.out (Nat.ne_of_lt hlt), HB8.out.trans (o99.below.mono (Nat.le_of_lt hlt))⟩
                · skip
                  refine wpOp_alone rfl rfl (fun K hK => ?_)
                  refine wp_allocT ttP rfl ?_
                  intro w7 r7 b7 z7
                  refine hK _ _ ⟨b7, ?_⟩
                  have HB7 := Lib.hid (HB6.out.trans (b7.mono HB6.out.size))
                  have HZ7 := Lib.hid (HZ6.out.keep b7)
                  have HG7 := Lib.hid r7
                  have hlt := HZ6.out.lt
                  clear b7 r7 z7 hK K HB6 HZ6
                  refine wpTree_one (by simp [pickOps]; rfl) ?_
                  refine wpQuiet_nil ?_
                  refine wpOp_alone rfl rfl (fun K hK => ?_)
                  go_simp
                  refine (H5.out _).mono ?_
                  rintro e w8 ⟨rfl, hb8⟩
                  refine hK _ _ ⟨hb8, ?_⟩
                  have HB8 := Lib.hid (HB7.out.trans (hb8.mono HB7.out.size))
                  have HZ8 := Lib.hid (HZ7.out.keep hb8)
                  have HG8 := Lib.hid (HG7.out.keep hb8)
                  clear HG7
                  clear hb8 hK K HB7 HZ7
                  refine wpTree_one (by simp [pickOps]; rfl) ?_
                  refine wpQuiet_nil ?_
                  refine wpOp_alone rfl rfl (fun K hK => ?_)
                  refine wp_build6 ttP _ _ _ _ _ _ rfl ⟨n0, n1, n2, n3, n4, n5⟩ rfl rfl rfl rfl rfl rfl ?_
                  refine hK _ _ ⟨Ext.refl _, ?_⟩
                  clear hK K
                  refine wpTree_tail (by simp [pickOps]; rfl) ?_
                  refine wpQuiet_nil ?_
                  refine wpOp_alone rfl rfl (fun K hK => ?_)
                  refine wp_storeT ttP _ _ rfl _ rfl ⟨n0, n1, n2, n3, n4, n5⟩ rfl Tm.zero HG8.out ?_
                  intro w99 r99 o99
                  refine hK _ _ ?_
                  go_simp
                  go_wp2_with fail
                  go_meet
                  exact ⟨_, rfl, hlt, r99, o99.row HZ8.out (Nat.ne_of_lt hlt), HB8.out.trans (o99.below.mono (Nat.le_of_lt hlt))⟩
              · skip
                refine wpOp_alone rfl rfl (fun K hK => ?_)
                refine wp_allocT ttP rfl ?_
                intro w6 r6 b6 z6
                refine hK _ _ ⟨b6, ?_⟩
                have HB6 := Lib.hid (HB5.out.trans (b6.mono HB5.out.size))
                have HZ6 := Lib.hid (HZ5.out.keep b6)
                have HG6 := Lib.hid r6
                have hlt := HZ5.out.lt
                clear b6 r6 z6 hK K HB5 HZ5
                refine wpTree_one (by simp [pickOps]; rfl) ?_
                refine wpQuiet_nil ?_
                refine wpOp_alone rfl rfl (fun K hK => ?_)
                go_simp
                refine (H4.out _).mono ?_
                rintro e w7 ⟨rfl, hb7⟩
                refine hK _ _ ⟨hb7, ?_⟩
                have HB7 := Lib.hid (HB6.out.trans (hb7.mono HB6.out.size))
                have HZ7 := Lib.hid (HZ6.out.keep hb7)
                have HG7 := Lib.hid (HG6.out.keep hb7)
                clear HG6
                clear hb7 hK K HB6 HZ6
                refine wpTree_one (by simp [pickOps]; rfl) ?_
                refine wpQuiet_nil ?_
                refine wpOp_alone rfl rfl (fun K hK => ?_)
                go_simp
                refine (H5.out _).mono ?_
                rintro e w8 ⟨rfl, hb8⟩
                refine hK _ _ ⟨hb8, ?_⟩
                have HB8 := Lib.hid (HB7.out.trans (hb8.mono HB7.out.size))
                have HZ8 := Lib.hid (HZ7.out.keep hb8)
                have HG8 := Lib.hid (HG7.out.keep hb8)
                clear HG7
                clear hb8 hK K HB7 HZ7
                refine wpTree_one (by simp [pickOps]; rfl) ?_
                refine wpQuiet_nil ?_
                refine wpOp_alone rfl rfl (fun K hK => ?_)
                refine wp_build6 ttP _ _ _ _ _ _ rfl ⟨n0, n1, n2, n3, n4, n5⟩ rfl rfl rfl rfl rfl rfl ?_
                refine hK _ _ ⟨Ext.refl _, ?_⟩
                clear hK K
                refine wpTree_tail (by simp [pickOps]; rfl) ?_
                refine wpQuiet_nil ?_
                refine wpOp_alone rfl rfl (fun K hK => ?_)
                refine wp_storeT ttP _ _ rfl _ rfl ⟨n0, n1, n2, n3, n4, n5⟩ rfl Tm.zero HG8.out ?_
                intro w99 r99 o99
                refine hK _ _ ?_
                go_simp
                go_wp2_with fail
                go_meet
                exact ⟨_, rfl, hlt, r99, o99.row HZ8.out (Nat.ne_of_lt hlt), HB8.out.trans (o99.below.mono (Nat.le_of_lt hlt))⟩
            · skip
              refine wpOp_alone rfl rfl (fun K hK => ?_)
              refine wp_allocT ttP rfl ?_
              intro w5 r5 b5 z5
              refine hK _ _ ⟨b5, ?_⟩
              have HB5 := Lib.hid (HB4.out.trans (b5.mono HB4.out.size))
              have HZ5 := Lib.hid (HZ4.out.keep b5)
              have HG5 := Lib.hid r5
              have hlt := HZ4.out.lt
              clear b5 r5 z5 hK K HB4 HZ4
              refine wpTree_one (by simp [pickOps]; rfl) ?_
              refine wpQuiet_nil ?_
              refine wpOp_alone rfl rfl (fun K hK => ?_)
              go_simp
              refine (H3.out _).mono ?_
              rintro e w6 ⟨rfl, hb6⟩
              refine hK _ _ ⟨hb6, ?_⟩
              have HB6 := Lib.hid (HB5.out.trans (hb6.mono HB5.out.size))
              have HZ6 := Lib.hid (HZ5.out.keep hb6)
              have HG6 := Lib.hid (HG5.out.keep hb6)
              clear HG5
              clear hb6 hK K HB5 HZ5
              refine wpTree_one (by simp [pickOps]; rfl) ?_
              refine wpQuiet_nil ?_
              refine wpOp_alone rfl rfl (fun K hK => ?_)
              go_simp
              refine (H4.out _).mono ?_
              rintro e w7 ⟨rfl, hb7⟩
              refine hK _ _ ⟨hb7, ?_⟩
              have HB7 := Lib.hid (HB6.out.trans (hb7.mono HB6.out.size))
              have HZ7 := Lib.hid (HZ6.out.keep hb7)
              have HG7 := Lib.hid (HG6.out.keep hb7)
              clear HG6
              clear hb7 hK K HB6 HZ6
              refine wpTree_one (by simp [pickOps]; rfl) ?_
              refine wpQuiet_nil ?_
              refine wpOp_alone rfl rfl (fun K hK => ?_)
              go_simp
              refine (H5.out _).mono ?_
              rintro e w8 ⟨rfl, hb8⟩
              refine hK _ _ ⟨hb8, ?_⟩
              have HB8 := Lib.hid (HB7.out.trans (hb8.mono HB7.out.size))
              have HZ8 := Lib.hid (HZ7.out.keep hb8)
              have HG8 := Lib.hid (HG7.out.keep hb8)
              clear HG7
              clear hb8 hK K HB7 HZ7
              refine wpTree_one (by simp [pickOps]; rfl) ?_
              refine wpQuiet_nil ?_
              refine wpOp_alone rfl rfl (fun K hK => ?_)
              refine wp_build6 ttP _ _ _ _ _ _ rfl ⟨n0, n1, n2, n3, n4, n5⟩ rfl rfl rfl rfl rfl rfl ?_
              refine hK _ _ ⟨Ext.refl _, ?_⟩
              clear hK K
              refine wpTree_tail (by simp [pickOps]; rfl) ?_
              refine wpQuiet_nil ?_
              refine wpOp_alone rfl rfl (fun K hK => ?_)
              refine wp_storeT ttP _ _ rfl _ rfl ⟨n0, n1, n2, n3, n4, n5⟩ rfl Tm.zero HG8.out ?_
              intro w99 r99 o99
              refine hK _ _ ?_
              go_simp
              go_wp2_with fail
              go_meet
              exact ⟨_, rfl, hlt, r99, o99.row HZ8.out (Nat.ne_of_lt hlt), HB8.out.trans (o99.below.mono (Nat.le_of_lt hlt))⟩
          · skip
            refine wpOp_alone rfl rfl (fun K hK => ?_)
            refine wp_allocT ttP rfl ?_
            intro w4 r4 b4 z4
            refine hK _ _ ⟨b4, ?_⟩
            have HB4 := Lib.hid (HB3.out.trans (b4.mono HB3.out.size))
            have HZ4 := Lib.hid (HZ3.out.keep b4)
            have HG4 := Lib.hid r4
            have hlt := HZ3.out.lt
            clear b4 r4 z4 hK K HB3 HZ3
            refine wpTree_one (by simp [pickOps]; rfl) ?_
            refine wpQuiet_nil ?_
            refine wpOp_alone rfl rfl (fun K hK => ?_)
            go_simp
            refine (H2.out _).mono ?_
            rintro e w5 ⟨rfl, hb5⟩
            refine hK _ _ ⟨hb5, ?_⟩
            have HB5 := Lib.hid (HB4.out.trans (hb5.mono HB4.out.size))
            have HZ5 := Lib.hid (HZ4.out.keep hb5)
            have HG5 := Lib.hid (HG4.out.keep hb5)
            clear HG4
            clear hb5 hK K HB4 HZ4
            refine wpTree_one (by simp [pickOps]; rfl) ?_
            refine wpQuiet_nil ?_
            refine wpOp_alone rfl rfl (fun K hK => ?_)
            go_simp
            refine (H3.out _).mono ?_
            rintro e w6 ⟨rfl, hb6⟩
            refine hK _ _ ⟨hb6, ?_⟩
            have HB6 := Lib.hid (HB5.out.trans (hb6.mono HB5.out.size))
            have HZ6 := Lib.hid (HZ5.out.keep hb6)
            have HG6 := Lib.hid (HG5.out.keep hb6)
            clear HG5
            clear hb6 hK K HB5 HZ5
            refine wpTree_one (by simp [pickOps]; rfl) ?_
            refine wpQuiet_nil ?_
            refine wpOp_alone rfl rfl (fun K hK => ?_)
            go_simp
            refine (H4.out _).mono ?_
            rintro e w7 ⟨rfl, hb7⟩
            refine hK _ _ ⟨hb7, ?_⟩
            have HB7 := Lib.hid (HB6.out.trans (hb7.mono HB6.out.size))
            have HZ7 := Lib.hid (HZ6.out.keep hb7)
            have HG7 := Lib.hid (HG6.out.keep hb7)
            clear HG6
            clear hb7 hK K HB6 HZ6
            refine wpTree_one (by simp [pickOps]; rfl) ?_
            refine wpQuiet_nil ?_
            refine wpOp_alone rfl rfl (fun K hK => ?_)
            go_simp
            refine (H5.out _).mono ?_
            rintro e w8 ⟨rfl, hb8⟩
            refine hK _ _ ⟨hb8, ?_⟩
            have HB8 := Lib.hid (HB7.out.trans (hb8.mono HB7.out.size))
            have HZ8 := Lib.hid (HZ7.out.keep hb8)
            have HG8 := Lib.hid (HG7.out.keep hb8)
            clear HG7
            clear hb8 hK K HB7 HZ7
            refine wpTree_one (by simp [pickOps]; rfl) ?_
            refine wpQuiet_nil ?_
            refine wpOp_alone rfl rfl (fun K hK => ?_)
            refine wp_build6 ttP _ _ _ _ _ _ rfl ⟨n0, n1, n2, n3, n4, n5⟩ rfl rfl rfl rfl rfl rfl ?_
            refine hK _ _ ⟨Ext.refl _, ?_⟩
            clear hK K
            refine wpTree_tail (by simp [pickOps]; rfl) ?_
            refine wpQuiet_nil ?_
            refine wpOp_alone rfl rfl (fun K hK => ?_)
            refine wp_storeT ttP _ _ rfl _ rfl ⟨n0, n1, n2, n3, n4, n5⟩ rfl Tm.zero HG8.out ?_
            intro w99 r99 o99
            refine hK _ _ ?_
            go_simp
            go_wp2_with fail
            go_meet
            exact ⟨_, rfl, hlt, r99, o99.row HZ8.out (Nat.ne_of_lt hlt), HB8.out.trans (o99.below.mono (Nat.le_of_lt hlt))⟩
        · skip
          refine wpOp_alone rfl rfl (fun K hK => ?_)
          refine wp_allocT ttP rfl ?_
          intro w3 r3 b3 z3
          refine hK _ _ ⟨b3, ?_⟩
          have HB3 := Lib.hid (HB2.out.trans (b3.mono HB2.out.size))
          have HZ3 := Lib.hid (HZ2.out.keep b3)
          have HG3 := Lib.hid r3
          have hlt := HZ2.out.lt
          clear b3 r3 z3 hK K HB2 HZ2
          refine wpTree_one (by simp [pickOps]; rfl) ?_
          refine wpQuiet_nil ?_
          refine wpOp_alone rfl rfl (fun K hK => ?_)
          go_simp
          refine (H1.out _).mono ?_
          rintro e w4 ⟨rfl, hb4⟩
          refine hK _ _ ⟨hb4, ?_⟩
          have HB4 := Lib.hid (HB3.out.trans (hb4.mono HB3.out.size))
          have HZ4 := Lib.hid (HZ3.out.keep hb4)
          have HG4 := Lib.hid (HG3.out.keep hb4)
          clear HG3
          clear hb4 hK K HB3 HZ3
          refine wpTree_one (by simp [pickOps]; rfl) ?_
          refine wpQuiet_nil ?_
          refine wpOp_alone rfl rfl (fun K hK => ?_)
          go_simp
          refine (H2.out _).mono ?_
          rintro e w5 ⟨rfl, hb5⟩
          refine hK _ _ ⟨hb5, ?_⟩
          have HB5 := Lib.hid (HB4.out.trans (hb5.mono HB4.out.size))
          have HZ5 := Lib.hid (HZ4.out.keep hb5)
          have HG5 := Lib.hid (HG4.out.keep hb5)
          clear HG4
          clear hb5 hK K HB4 HZ4
          refine wpTree_one (by simp [pickOps]; rfl) ?_
          refine wpQuiet_nil ?_
          refine wpOp_alone rfl rfl (fun K hK => ?_)
          go_simp
          refine (H3.out _).mono ?_
          rintro e w6 ⟨rfl, hb6⟩
          refine hK _ _ ⟨hb6, ?_⟩
          have HB6 := Lib.hid (HB5.out.trans (hb6.mono HB5.out.size))
          have HZ6 := Lib.hid (HZ5.out.keep hb6)
          have HG6 := Lib.hid (HG5.out.keep hb6)
          clear HG5
          clear hb6 hK K HB5 HZ5
          refine wpTree_one (by simp [pickOps]; rfl) ?_
          refine wpQuiet_nil ?_
          refine wpOp_alone rfl rfl (fun K hK => ?_)
          go_simp
          refine (H4.out _).mono ?_
          rintro e w7 ⟨rfl, hb7⟩
          refine hK _ _ ⟨hb7, ?_⟩
          have HB7 := Lib.hid (HB6.out.trans (hb7.mono HB6.out.size))
          have HZ7 := Lib.hid (HZ6.out.keep hb7)
          have HG7 := Lib.hid (HG6.out.keep hb7)
          clear HG6
          clear hb7 hK K HB6 HZ6
          refine wpTree_one (by simp [pickOps]; rfl) ?_
          refine wpQuiet_nil ?_
          refine wpOp_alone rfl rfl (fun K hK => ?_)
          go_simp
          refine (H5.out _).mono ?_
          rintro e w8 ⟨rfl, hb8⟩
          refine hK _ _ ⟨hb8, ?_⟩
          have HB8 := Lib.hid (HB7.out.trans (hb8.mono HB7.out.size))
          have HZ8 := Lib.hid (HZ7.out.keep hb8)
          have HG8 := Lib.hid (HG7.out.keep hb8)
          clear HG7
          clear hb8 hK K HB7 HZ7
          refine wpTree_one (by simp [pickOps]; rfl) ?_
          refine wpQuiet_nil ?_
          refine wpOp_alone rfl rfl (fun K hK => ?_)
          refine wp_build6 ttP _ _ _ _ _ _ rfl ⟨n0, n1, n2, n3, n4, n5⟩ rfl rfl rfl rfl rfl rfl ?_
          refine hK _ _ ⟨Ext.refl _, ?_⟩
          clear hK K
          refine wpTree_tail (by simp [pickOps]; rfl) ?_
          refine wpQuiet_nil ?_
          refine wpOp_alone rfl rfl (fun K hK => ?_)
          refine wp_storeT ttP _ _ rfl _ rfl ⟨n0, n1, n2, n3, n4, n5⟩ rfl Tm.zero HG8.out ?_
          intro w99 r99 o99
          refine hK _ _ ?_
          go_simp
          go_wp2_with fail
          go_meet
          exact ⟨_, rfl, hlt, r99, o99.row HZ8.out (Nat.ne_of_lt hlt), HB8.out.trans (o99.below.mono (Nat.le_of_lt hlt))⟩
      · skip
        refine wpOp_alone rfl rfl (fun K hK => ?_)
        refine wp_allocT ttP rfl ?_
        intro w2 r2 b2 z2
        refine hK _ _ ⟨b2, ?_⟩
        have HB2 := Lib.hid (HB1.out.trans (b2.mono HB1.out.size))
        have HZ2 := Lib.hid (HZ1.out.keep b2)
        have HG2 := Lib.hid r2
        have hlt := HZ1.out.lt
        clear b2 r2 z2 hK K HB1 HZ1
        refine wpTree_one (by simp [pickOps]; rfl) ?_
        refine wpQuiet_nil ?_
        refine wpOp_alone rfl rfl (fun K hK => ?_)
        go_simp
        refine (H0.out _).mono ?_
        rintro e w3 ⟨rfl, hb3⟩
        refine hK _ _ ⟨hb3, ?_⟩
        have HB3 := Lib.hid (HB2.out.trans (hb3.mono HB2.out.size))
        have HZ3 := Lib.hid (HZ2.out.keep hb3)
        have HG3 := Lib.hid (HG2.out.keep hb3)
        clear HG2
        clear hb3 hK K HB2 HZ2
        refine wpTree_one (by simp [pickOps]; rfl) ?_
        refine wpQuiet_nil ?_
        refine wpOp_alone rfl rfl (fun K hK => ?_)
        go_simp
        refine (H1.out _).mono ?_
        rintro e w4 ⟨rfl, hb4⟩
        refine hK _ _ ⟨hb4, ?_⟩
        have HB4 := Lib.hid (HB3.out.trans (hb4.mono HB3.out.size))
        have HZ4 := Lib.hid (HZ3.out.keep hb4)
        have HG4 := Lib.hid (HG3.out.keep hb4)
        clear HG3
        clear hb4 hK K HB3 HZ3
        refine wpTree_one (by simp [pickOps]; rfl) ?_
        refine wpQuiet_nil ?_
        refine wpOp_alone rfl rfl (fun K hK => ?_)
        go_simp
        refine (H2.out _).mono ?_
        rintro e w5 ⟨rfl, hb5⟩
        refine hK _ _ ⟨hb5, ?_⟩
        have HB5 := Lib.hid (HB4.out.trans (hb5.mono HB4.out.size))
        have HZ5 := Lib.hid (HZ4.out.keep hb5)
        have HG5 := Lib.hid (HG4.out.keep hb5)
        clear HG4
        clear hb5 hK K HB4 HZ4
        refine wpTree_one (by simp [pickOps]; rfl) ?_
        refine wpQuiet_nil ?_
        refine wpOp_alone rfl rfl (fun K hK => ?_)
        go_simp
        refine (H3.out _).mono ?_
        rintro e w6 ⟨rfl, hb6⟩
        refine hK _ _ ⟨hb6, ?_⟩
        have HB6 := Lib.hid (HB5.out.trans (hb6.mono HB5.out.size))
        have HZ6 := Lib.hid (HZ5.out.keep hb6)
        have HG6 := Lib.hid (HG5.out.keep hb6)
        clear HG5
        clear hb6 hK K HB5 HZ5
        refine wpTree_one (by simp [pickOps]; rfl) ?_
        refine wpQuiet_nil ?_
        refine wpOp_alone rfl rfl (fun K hK => ?_)
        go_simp
        refine (H4.out _).mono ?_
        rintro e w7 ⟨rfl, hb7⟩
        refine hK _ _ ⟨hb7, ?_⟩
        have HB7 := Lib.hid (HB6.out.trans (hb7.mono HB6.out.size))
        have HZ7 := Lib.hid (HZ6.out.keep hb7)
        have HG7 := Lib.hid (HG6.out.keep hb7)
        clear HG6
        clear hb7 hK K HB6 HZ6
        refine wpTree_one (by simp [pickOps]; rfl) ?_
        refine wpQuiet_nil ?_
        refine wpOp_alone rfl rfl (fun K hK => ?_)
        go_simp
        refine (H5.out _).mono ?_
        rintro e w8 ⟨rfl, hb8⟩
        refine hK _ _ ⟨hb8, ?_⟩
        have HB8 := Lib.hid (HB7.out.trans (hb8.mono HB7.out.size))
        have HZ8 := Lib.hid (HZ7.out.keep hb8)
        have HG8 := Lib.hid (HG7.out.keep hb8)
        clear HG7
        clear hb8 hK K HB7 HZ7
        refine wpTree_one (by simp [pickOps]; rfl) ?_
        refine wpQuiet_nil ?_
        refine wpOp_alone rfl rfl (fun K hK => ?_)
        refine wp_build6 ttP _ _ _ _ _ _ rfl ⟨n0, n1, n2, n3, n4, n5⟩ rfl rfl rfl rfl rfl rfl ?_
        refine hK _ _ ⟨Ext.refl _, ?_⟩
        clear hK K
        refine wpTree_tail (by simp [pickOps]; rfl) ?_
        refine wpQuiet_nil ?_
        refine wpOp_alone rfl rfl (fun K hK => ?_)
        refine wp_storeT ttP _ _ rfl _ rfl ⟨n0, n1, n2, n3, n4, n5⟩ rfl Tm.zero HG8.out ?_
        intro w99 r99 o99
        refine hK _ _ ?_
        go_simp
        go_wp2_with fail
        go_meet
        exact ⟨_, rfl, hlt, r99, o99.row HZ8.out (Nat.ne_of_lt hlt), HB8.out.trans (o99.below.mono (Nat.le_of_lt hlt))⟩
    case rest =>
      obtain ⟨g, rfl, hlt, hr9, hz9, hb9⟩ := hcut
      have HR9 := Lib.hid hr9
      have HZ9 := Lib.hid hz9
      have HB9 := Lib.hid hb9
      have HT9 := Lib.hid (Ht.out.keep hb9)
      clear hr9 hz9 hb9 HB1 HZ1
      go_wp2_with (first
        | (refine wpList_loadT ttP (.tmp 4) rfl rfl g rfl ⟨n0, n1, n2, n3, n4, n5⟩ ?_ ?_; exact HR9.out))
      refine (HTOLD.out ⟨n0, n1, n2, n3, n4, n5⟩ _ HT9.out).mono ?_
      rintro e w10 ⟨q, b, rfl, htold, hb10⟩
      have HR20 := Lib.hid (HZ9.out.keep hb10)
      have HB10 := Lib.hid (HB9.out.trans (hb10.mono HB9.out.size))
      have HRE := Lib.hid (told_read HNE.out (HBK.out) htold)
      clear hb10 htold
      unfold tmV
      go_wp2_with (first
        | (refine wpList_storeT ttP rfl (.tmp 2) (.tmp 31) rfl w.heap.size rfl q rfl Tm.zero ?_ ?_; exact HR20.out; intro W11 r11 o11; have HB11 := Lib.hid (HB10.out.trans o11.below)))
      refine bodyPost_ret (v := .tuple #[tmV q, .bool b]) ?_ rfl ?_
      · exact results_time_tmp ttP Tryd.resultsRS _ _ w.heap.size _ rfl r11
      · exact ⟨HRE.out, HB11.out⟩
  · have HN := Lib.hid (show ∀ t : Tm, t.Right → shortW t ≠ numsOf s from fun t _ h => hs (by rw [← HL.out, ← h, shortW_length]))
    have hs2 : ((s.size : Int) != 16) = true := by simp; omega
    generalize numsOf s = xs at *
    clear hs
    go_enter Tryd.func27, Tryd.ntmps27
    go_wp2_with (first
      | (refine wpList_allocT ttP rfl rfl ?_; intro W r1 b1 z1; have HB1 := Lib.hid b1; clear b1 z1)
      | (refine wpList_storeT ttP rfl (.tmp 2) (.tmp 8) rfl w.heap.size rfl Tm.zero rfl Tm.zero ?_ ?_; exact r1; intro W5 r5 o5; have HB5 := Lib.hid (HB1.out.trans o5.below)))
    refine bodyPost_ret (v := .tuple #[tmV Tm.zero, .bool false]) ?_ rfl ?_
    · exact results_time_tmp ttP Tryd.resultsRS _ _ w.heap.size _ rfl r5
    · exact ⟨.inr ⟨HN.out, rfl⟩, HB5.out⟩
end Clk
end Go.Proofs.YtfbgcjpakahocaaDoor

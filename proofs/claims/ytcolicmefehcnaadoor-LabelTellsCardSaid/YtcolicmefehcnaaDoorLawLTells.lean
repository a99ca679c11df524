/- LabelTells' walk: any label and any bytes. No conditions but those that stand in each lemma. -/
import Derived.Test.YtcolicmefehcnaaDoorLblRefOpen
import Derived.Test.YtcolicmefehcnaaDoorLblEq
namespace Go.Proofs.YtcolicmefehcnaaDoor
open Go.RowKit

theorem text_none (w : World) : (convert 28 9 (.slice none 0 0)).run Tryd.prog w = .ok (.string (strOfNums [])) w := run_text w none 0 0 [] rfl Src.none_
set_option maxRecDepth 100000 in
set_option maxHeartbeats 8000000 in
theorem ltells_any (q : Lb) (A : Option Addr) (n c : Nat) (xs : List Int) (w : World) (hq : q.Ok) (ht : Tab w) (hn : n = xs.length) (hs : Src .u8 w A xs) (hx : IsBytes xs) (hnc : n ≤ c) (hc : c ≤ 9223372036854775807) :
    Calls Tryd.prog 3 #[.agg (lcells q), .slice A n c] w fun e w' => e = .returned (.bool true) ∧ Below w.heap.size w w' := by
  have r1 := Row.new w 27 (lcells q)
  have b1 : Below w.heap.size w (w.alloc (.cells (lcells q) 27)) := (Below.refl _ _).alloc (Nat.le_refl _) _
  have HS := Lib.hid hq.root.shaL
  have HO := Lib.hid hq
  have HT := Lib.hid ht
  obtain ⟨zs, hzs⟩ : ∃ zs, zs = xs.take 600 := ⟨_, rfl⟩
  have hzl : zs.length = min 600 n := by rw [hzs, List.length_take, hn]
  obtain ⟨M, hM⟩ : ∃ M, M = zs.length := ⟨_, rfl⟩
  have HMn : Hid (M = min 600 n ∧ M ≤ c) := Lib.hid ⟨by rw [hM, hzl], by omega⟩
  have HZ := Lib.hid (show Src .u8 w A zs by rw [hzs]; exact hs.take 600)
  have HZb := Lib.hid (show IsBytes zs by rw [hzs]; exact hx.take 600)
  have HOp : Hid (∀ W, Below w.heap.size w W → Calls Tryd.prog 9 #[.slice A M c] W (OpenEnds zs W)) :=
    Lib.hid (fun W hW => open_any A M c zs W (ht.keep hW) hM (HZ.out.keep hW) HZb.out HMn.out.2 hc)
  have HRp : Hid (∀ W, Below w.heap.size w W → Calls Tryd.prog 10 #[.slice A M c] W (OpenEnds zs W)) :=
    Lib.hid (fun W hW => ropen_any A M c zs W hM (HZ.out.keep hW) HZb.out HMn.out.2 hc)
  have HLo := Lib.hid (openL_ok zs HZb.out).root.shaL
  have HNc := Lib.hid hnc
  clear hq ht hn hs hx hnc hc hzs hzl hM HZ HZb
  go_enter Tryd.func3, Tryd.ntmps3
  go_upto_if 20 with fail
  generalize w.alloc (.cells (lcells q) 27) = W1 at *
  go_cut [1] from 18 (fun v wx => v = .slice A M c ∧ wx = W1)
  case first =>
    obtain ⟨hMn, _⟩ := HMn.out
    by_cases h : 600 < n
    · have hp : (600 : Int) < (n : Int) := by omega
      have hd1 : decide ((600 : Int) < (n : Int)) = true := decide_eq_true hp
      have hc6 : (600 : Int) ≤ (c : Int) := by have := HNc.out; omega
      have hM : M = 600 := by omega
      clear hMn h
      go_wp2_with fail
      go_meet
      exact ⟨by rw [hM], rfl⟩
    · have hp : ¬ (600 : Int) < (n : Int) := by omega
      have hd1 : decide ((600 : Int) < (n : Int)) = false := decide_eq_false hp
      have hM : M = n := by omega
      clear hMn h
      go_wp2_with fail
      go_meet
      exact ⟨by rw [hM], rfl⟩
  case rest =>
  obtain ⟨rfl, rfl⟩ := hcut
  have HSl := Lib.hid (sealB_length q HS.out).symm
  obtain ⟨X, hX⟩ : ∃ X, X = openL zs := ⟨_, rfl⟩
  rw [← hX] at HLo
  have HXe := Lib.hid hX
  clear hX
  cases hR : q.right with
  | true =>
    have HR := Lib.hid hR
    clear hR
    go_wp2_with (refine wpList_loadL (.tmp 2) _ ltL rfl rfl w.heap.size rfl q HS.out r1 ?_)
    refine (seal_any q _ HO.out (HT.out.keep b1)).mono ?_
    rintro e w2 ⟨hb2, he2⟩
    obtain ⟨g2, c2, rfl, ho2⟩ : ∃ g c, e = .returned (.tuple #[.slice (some ⟨g, 0, none⟩) 512 c, .int .i64 (q.epoch.tmod 2), .int .i64 0]) ∧ Src .u8 w2 (some ⟨g, 0, none⟩) (sealB q) := by
      rcases he2 with ⟨_, g, c, he, ho⟩ | ⟨h, _⟩
      · exact ⟨g, c, he, ho.src⟩
      · rw [HR.out] at h; cases h
    have P2 := Lib.hid ho2
    clear ho2
    have b_1 := b1.trans (hb2.mono b1.size)
    have r2_1 := r1.keep hb2
    clear b1 r1 hb2
    go_wp2_with (refine wpList_loadL (.tmp 2) _ ltL rfl rfl w.heap.size rfl q HS.out r2_1 ?_)
    refine (rseal_any q _ HO.out).mono ?_
    rintro e w3 ⟨hb3, he3⟩
    obtain ⟨g3, c3, rfl, ho3⟩ : ∃ g c, e = .returned (.tuple #[.slice (some ⟨g, 0, none⟩) 512 c, .int .i64 (q.epoch.tmod 2), .int .i64 0]) ∧ Src .u8 w3 (some ⟨g, 0, none⟩) (sealB q) := by
      rcases he3 with ⟨_, g, c, he, ho⟩ | ⟨h, _⟩
      · exact ⟨g, c, he, ho.src⟩
      · rw [HR.out] at h; cases h
    have P3 := Lib.hid ho3
    clear ho3
    have b_2 := b_1.trans (hb3.mono b_1.size)
    have r2_2 := r2_1.keep hb3
    have P2_2 := Lib.hid (P2.out.keep hb3)
    clear b_1 r2_1 P2 hb3
    go_wp2_with fail
    refine (HOp.out _ b_2).mono ?_
    rintro e w4 ⟨rfl, hb4⟩
    have b_3 := b_2.trans (hb4.mono b_2.size)
    have r2_3 := r2_2.keep hb4
    have P2_3 := Lib.hid (P2_2.out.keep hb4)
    have P3_3 := Lib.hid (P3.out.keep hb4)
    clear b_2 r2_2 P2_2 P3 hb4
    rw [← HXe.out]
    go_wp2_with (first
      | (refine wpList_allocL ltL 11 rfl rfl rfl ?_; intro w5 r5 hb5 _)
      | (refine wpList_storeL ltL rfl (.tmp 11) (.tmp 38) rfl w4.heap.size rfl X rfl HLo.out Lb.zero rfl r5 ?_; intro w6 r11 o6; have hb6 := hb5.trans o6.below; clear hb5 r5 o6; have b_4 := b_3.trans (hb6.mono b_3.size); have r2_4 := r2_3.keep hb6; have P2_4 := Lib.hid (P2_3.out.keep hb6); have P3_4 := Lib.hid (P3_3.out.keep hb6); clear b_3 r2_3 P2_3 P3_3 hb6))
    refine (HRp.out _ b_4).mono ?_
    rintro e w7 ⟨rfl, hb7⟩
    have b_5 := b_4.trans (hb7.mono b_4.size)
    have r2_5 := r2_4.keep hb7
    have P2_5 := Lib.hid (P2_4.out.keep hb7)
    have P3_5 := Lib.hid (P3_4.out.keep hb7)
    have r11_5 := r11.keep hb7
    clear b_4 r2_4 P2_4 P3_4 r11 hb7
    rw [← HXe.out]
    go_wp2_with (first
      | (refine wpList_allocL ltR 13 rfl rfl rfl ?_; intro w8 r8 hb8 _)
      | (refine wpList_storeL ltR rfl (.tmp 13) (.tmp 43) rfl w7.heap.size rfl X rfl HLo.out Lb.zero rfl r8 ?_; intro w9 r13 o9; have hb9 := hb8.trans o9.below; clear hb8 r8 o9; have b_6 := b_5.trans (hb9.mono b_5.size); have r2_6 := r2_5.keep hb9; have P2_6 := Lib.hid (P2_5.out.keep hb9); have P3_6 := Lib.hid (P3_5.out.keep hb9); have r11_6 := r11_5.keep hb9; clear b_5 r2_5 P2_5 P3_5 r11_5 hb9)
      | (refine wpList_build2 ltL (.const (.int .i64 2)) (.const (.int .i64 1)) rfl rfl 2 1 rfl rfl ?_))
    refine (seal_small 2 1 (by omega) (by omega) (by omega) (by omega) _ (HT.out.keep b_6)).mono ?_
    rintro e w10 ⟨hb10, g10, c10, rfl, _⟩
    have b_7 := b_6.trans (hb10.mono b_6.size)
    have r2_7 := r2_6.keep hb10
    have P2_7 := Lib.hid (P2_6.out.keep hb10)
    have P3_7 := Lib.hid (P3_6.out.keep hb10)
    have r11_7 := r11_6.keep hb10
    have r13_7 := r13.keep hb10
    clear b_6 r2_6 P2_6 P3_6 r11_6 r13 hb10
    have tx := run_text w10 (some ⟨g2, 0, none⟩) 512 c2 (sealB q) HSl.out P2_7.out
    have ty := run_text w10 (some ⟨g3, 0, none⟩) 512 c3 (sealB q) HSl.out P3_7.out
    generalize strOfNums (sealB q) = S at *
    generalize q.epoch.tmod 2 = K at *
    go_wp2_with (first
      | (refine wpList_loadL (.tmp 11) _ ltL rfl rfl w4.heap.size rfl X HLo.out r11_7 ?_)
      | (refine wpList_loadL (.tmp 13) _ ltR rfl rfl w7.heap.size rfl X HLo.out r13_7 ?_)
      | (refine wpList_eqlL ltR guardR (.tmp 67) (.tmp 68) _ rfl rfl X X rfl rfl HLo.out HLo.out true (Lb.same_self X) ?_))
    go_ret
    exact ⟨rfl, b_7⟩
  | false =>
    have HR := Lib.hid hR
    clear hR
    go_wp2_with (refine wpList_loadL (.tmp 2) _ ltL rfl rfl w.heap.size rfl q HS.out r1 ?_)
    refine (seal_any q _ HO.out (HT.out.keep b1)).mono ?_
    rintro e w2 ⟨hb2, he2⟩
    obtain rfl : e = .returned (.tuple #[.slice none 0 0, .int .i64 0, .int .i64 2]) := by
      rcases he2 with ⟨h, _⟩ | ⟨_, h⟩
      · rw [HR.out] at h; cases h
      · exact h
    clear he2
    have b_8 := b1.trans (hb2.mono b1.size)
    have r2_8 := r1.keep hb2
    clear b1 r1 hb2
    go_wp2_with (refine wpList_loadL (.tmp 2) _ ltL rfl rfl w.heap.size rfl q HS.out r2_8 ?_)
    refine (rseal_any q _ HO.out).mono ?_
    rintro e w3 ⟨hb3, he3⟩
    obtain rfl : e = .returned (.tuple #[.slice none 0 0, .int .i64 0, .int .i64 2]) := by
      rcases he3 with ⟨h, _⟩ | ⟨_, h⟩
      · rw [HR.out] at h; cases h
      · exact h
    clear he3
    have b_9 := b_8.trans (hb3.mono b_8.size)
    have r2_9 := r2_8.keep hb3
    clear b_8 r2_8 hb3
    go_wp2_with fail
    refine (HOp.out _ b_9).mono ?_
    rintro e w4 ⟨rfl, hb4⟩
    have b_10 := b_9.trans (hb4.mono b_9.size)
    have r2_10 := r2_9.keep hb4
    clear b_9 r2_9 hb4
    rw [← HXe.out]
    go_wp2_with (first
      | (refine wpList_allocL ltL 11 rfl rfl rfl ?_; intro w5 r5 hb5 _)
      | (refine wpList_storeL ltL rfl (.tmp 11) (.tmp 38) rfl w4.heap.size rfl X rfl HLo.out Lb.zero rfl r5 ?_; intro w6 r11 o6; have hb6 := hb5.trans o6.below; clear hb5 r5 o6; have b_11 := b_10.trans (hb6.mono b_10.size); have r2_11 := r2_10.keep hb6; clear b_10 r2_10 hb6))
    refine (HRp.out _ b_11).mono ?_
    rintro e w7 ⟨rfl, hb7⟩
    have b_12 := b_11.trans (hb7.mono b_11.size)
    have r2_12 := r2_11.keep hb7
    have r11_12 := r11.keep hb7
    clear b_11 r2_11 r11 hb7
    rw [← HXe.out]
    go_wp2_with (first
      | (refine wpList_allocL ltR 13 rfl rfl rfl ?_; intro w8 r8 hb8 _)
      | (refine wpList_storeL ltR rfl (.tmp 13) (.tmp 43) rfl w7.heap.size rfl X rfl HLo.out Lb.zero rfl r8 ?_; intro w9 r13 o9; have hb9 := hb8.trans o9.below; clear hb8 r8 o9; have b_13 := b_12.trans (hb9.mono b_12.size); have r2_13 := r2_12.keep hb9; have r11_13 := r11_12.keep hb9; clear b_12 r2_12 r11_12 hb9)
      | (refine wpList_build2 ltL (.const (.int .i64 2)) (.const (.int .i64 1)) rfl rfl 2 1 rfl rfl ?_))
    refine (seal_small 2 1 (by omega) (by omega) (by omega) (by omega) _ (HT.out.keep b_13)).mono ?_
    rintro e w10 ⟨hb10, g10, c10, rfl, _⟩
    have b_14 := b_13.trans (hb10.mono b_13.size)
    have r2_14 := r2_13.keep hb10
    have r11_14 := r11_13.keep hb10
    have r13_14 := r13.keep hb10
    clear b_13 r2_13 r11_13 r13 hb10
    have tx := text_none w10
    generalize strOfNums [] = S at *
    go_wp2_with (first
      | (refine wpList_loadL (.tmp 11) _ ltL rfl rfl w4.heap.size rfl X HLo.out r11_14 ?_)
      | (refine wpList_loadL (.tmp 13) _ ltR rfl rfl w7.heap.size rfl X HLo.out r13_14 ?_)
      | (refine wpList_eqlL ltR guardR (.tmp 67) (.tmp 68) _ rfl rfl X X rfl rfl HLo.out HLo.out true (Lb.same_self X) ?_))
    go_ret
    exact ⟨rfl, b_14⟩
end Go.Proofs.YtcolicmefehcnaaDoor

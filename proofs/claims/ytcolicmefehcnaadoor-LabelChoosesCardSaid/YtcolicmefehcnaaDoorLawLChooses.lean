/- LabelChooses' walk: any two rows of bytes. No conditions but those that stand in each lemma. -/
import Derived.Test.YtcolicmefehcnaaDoorLblRefChoose
import Derived.Test.YtcolicmefehcnaaDoorLblEq
import Derived.IntWalk
namespace Go.Proofs.YtcolicmefehcnaaDoor
open Go.RowKit

/-- Where there is no label in the first sector, and a small one in the second, that one is chosen. -/
theorem choose_small (a b : Int) (h1 : 1 ≤ a) (h2 : a ≤ 1152921504606846976) (h3 : 1 ≤ b) (h4 : b ≤ 1152921504606846976) (ho : a.tmod 2 = 1) : chooseL [] (sealB ⟨a, Pt.zero, b⟩) = ⟨a, Pt.zero, b⟩ ∧ Lb.same (chooseL [] (sealB ⟨a, Pt.zero, b⟩)) Lb.zero = false := by
  have hs := small_ok a b h1 h2 h3 h4
  have hp := open_seal' hs.1 hs.2
  have e0 : isOne [] 0 = false := rfl
  have e1 : isOne (sealB ⟨a, Pt.zero, b⟩) 1 = true := by
    unfold isOne
    rw [hp.1, hp.2]
    show ((0 : Int) == 0 && a.tmod 2 == 1) = true
    rw [ho]
    rfl
  have := choose_second e1 (.inl e0)
  rw [hp.2] at this
  exact this
set_option maxRecDepth 100000 in
set_option maxHeartbeats 8000000 in
theorem lchooses_any (A : Option Addr) (n c : Nat) (xs : List Int) (B : Option Addr) (m d : Nat) (ys : List Int) (w : World) (ht : Tab w) (hn : n = xs.length) (hs : Src .u8 w A xs) (hx : IsBytes xs) (hnc : n ≤ c) (hc : c ≤ 9223372036854775807) (hm : m = ys.length) (hsy : Src .u8 w B ys) (hy : IsBytes ys) (hmd : m ≤ d) (hdm : d ≤ 9223372036854775807) (hr : n ≤ 140737488351232) (hr2 : m ≤ 140737488351232) :
    Calls Tryd.prog 4 #[.slice A n c, .slice B m d] w fun e w' => e = .returned (.bool true) ∧ Below w.heap.size w w' := by
  have hsum : IntKind.i64.wrap ((n : Int) + (m : Int)) = (n : Int) + (m : Int) := IntWalk.i64_in _ (by omega)
  by_cases h : 1100 < n + m
  · have hp : (1100 : Int) < (n : Int) + (m : Int) := by omega
    have hd : decide ((1100 : Int) < (n : Int) + (m : Int)) = true := decide_eq_true hp
    clear ht hn hs hx hnc hc hm hsy hy hmd hdm hr hr2 h
    go_enter Tryd.func4, Tryd.ntmps4
    go_wp2_with fail
    go_ret
    exact ⟨rfl, Below.refl _ _⟩
  · have hp : ¬ (1100 : Int) < (n : Int) + (m : Int) := by omega
    have hd : decide ((1100 : Int) < (n : Int) + (m : Int)) = false := decide_eq_false hp
    have HCh : Hid (Calls Tryd.prog 11 #[.slice A n c, .slice B m d] w (ChooseEnds xs ys w)) := Lib.hid (choose_any A n c xs B m d ys w ht hn hs hx hnc hc hm hsy hy hmd hdm)
    have HRCh : Hid (∀ W, Below w.heap.size w W → Calls Tryd.prog 12 #[.slice A n c, .slice B m d] W (ChooseEnds xs ys W)) :=
      Lib.hid (fun W hW => rchoose_any A n c xs B m d ys W hn (hs.keep hW) hx hnc hc hm (hsy.keep hW) hy hmd hdm)
    have HOne : Hid (∀ g c' W, Below w.heap.size w W → Own W w.heap.size (some ⟨g, 0, none⟩) c' (sealB ⟨3, Pt.zero, 5⟩) → Calls Tryd.prog 11 #[.slice none 0 0, .slice (some ⟨g, 0, none⟩) 512 c'] W fun e w' => e = .returned (.tuple #[.agg (lcells ⟨3, Pt.zero, 5⟩), .bool true]) ∧ Below W.heap.size W w') :=
      Lib.hid (fun g c' W hW ho => by
        have hok := small_ok 3 5 (by omega) (by omega) (by omega) (by omega)
        have hl := sealB_length ⟨3, Pt.zero, 5⟩ hok.1.root.shaL
        have hcp := ho.cap
        rw [hl] at hcp
        have hcm := choose_small 3 5 (by omega) (by omega) (by omega) (by omega) rfl
        refine (choose_any none 0 0 [] (some ⟨g, 0, none⟩) 512 c' (sealB ⟨3, Pt.zero, 5⟩) W (ht.keep hW) rfl Src.none_ IsBytes.nil (Nat.le_refl _) (by omega) hl.symm ho.src (sealB_bytes _ hok.1.root.shaB) hcp.1 (by have := hcp.2; unfold maxLen at this; omega)).mono ?_
        rintro e w' ⟨rfl, hb⟩
        rw [hcm.2, hcm.1]
        exact ⟨rfl, hb⟩)
    have HSe : Hid (∀ W, Below w.heap.size w W → Calls Tryd.prog 7 #[.agg (lcells ⟨3, Pt.zero, 5⟩)] W fun e w' => Below W.heap.size W w' ∧ ∃ g c, e = .returned (.tuple #[.slice (some ⟨g, 0, none⟩) 512 c, .int .i64 ((3 : Int).tmod 2), .int .i64 0]) ∧ Own w' W.heap.size (some ⟨g, 0, none⟩) c (sealB ⟨3, Pt.zero, 5⟩)) :=
      Lib.hid (fun W hW => seal_small 3 5 (by omega) (by omega) (by omega) (by omega) W (ht.keep hW))
    have HLo := Lib.hid (stepC_ok (k := 1) (stepC_ok (k := 0) Lb.zero_ok (openL_ok xs hx)) (openL_ok ys hy)).root.shaL
    clear ht hn hs hx hnc hc hm hsy hy hmd hdm hr hr2 h
    obtain ⟨X, hX⟩ : ∃ X, X = chooseL xs ys := ⟨_, rfl⟩
    have HXe := Lib.hid hX
    have HLx : Hid (X.root.sha.length = 32) := Lib.hid (by rw [hX]; exact HLo.out)
    clear hX HLo
    go_enter Tryd.func4, Tryd.ntmps4
    go_wp2_with fail
    refine HCh.out.mono ?_
    rintro e w2 ⟨rfl, b2⟩
    rw [← HXe.out]
    obtain ⟨V, hV⟩ : ∃ V, (!Lb.same X Lb.zero) = V := ⟨_, rfl⟩
    have HV := Lib.hid hV
    rw [hV]
    clear hV HCh
    go_wp2_with (first
      | (refine wpList_allocL ltL 5 rfl rfl rfl ?_; intro w3 r3 hb3 _)
      | (refine wpList_storeL ltL rfl (.tmp 5) (.tmp 24) rfl w2.heap.size rfl X rfl HLx.out Lb.zero rfl r3 ?_; intro w4 r5 o4; have hb4 := hb3.trans o4.below; clear hb3 r3 o4; have b_1 := b2.trans (hb4.mono b2.size); clear b2 hb4))
    refine (HRCh.out _ b_1).mono ?_
    rintro e w5 ⟨rfl, hb5⟩
    rw [← HXe.out, HV.out]
    have b_2 := b_1.trans (hb5.mono b_1.size)
    have r5_2 := r5.keep hb5
    clear b_1 r5 hb5
    go_wp2_with (first
      | (refine wpList_allocL ltR 7 rfl rfl rfl ?_; intro w6 r6 hb6 _)
      | (refine wpList_storeL ltR rfl (.tmp 7) (.tmp 30) rfl w5.heap.size rfl X rfl HLx.out Lb.zero rfl r6 ?_; intro w7 r7 o7; have hb7 := hb6.trans o7.below; clear hb6 r6 o7; have b_3 := b_2.trans (hb7.mono b_2.size); have r5_3 := r5_2.keep hb7; clear b_2 r5_2 hb7)
      | (refine wpList_build2 ltL (.const (.int .i64 3)) (.const (.int .i64 5)) rfl rfl 3 5 rfl rfl ?_))
    refine (HSe.out _ b_3).mono ?_
    rintro e w8 ⟨hb8, g8, c8, rfl, ho8⟩
    have P8 := Lib.hid (ho8.more b_3.size)
    clear ho8
    have b_4 := b_3.trans (hb8.mono b_3.size)
    have r5_4 := r5_3.keep hb8
    have r7_4 := r7.keep hb8
    clear b_3 r5_3 r7 hb8
    obtain ⟨O, hO⟩ : ∃ O, O = (⟨3, Pt.zero, 5⟩ : Lb) := ⟨_, rfl⟩
    go_wp2_with fail
    refine (HOne.out g8 c8 _ b_4 P8.out).mono ?_
    rintro e w9 ⟨rfl, hb9⟩
    rw [← hO]
    have HOs : Hid (O.root.sha.length = 32) := Lib.hid (by rw [hO]; rfl)
    have HOn := Lib.hid (show O.next = 5 by rw [hO])
    clear hO P8
    have b_5 := b_4.trans (hb9.mono b_4.size)
    have r5_5 := r5_4.keep hb9
    have r7_5 := r7_4.keep hb9
    clear b_4 r5_4 r7_4 hb9
    go_wp2_with (first
      | (refine wpList_allocL ltL 12 rfl rfl rfl ?_; intro w10 r10 hb10 _)
      | (refine wpList_storeL ltL rfl (.tmp 12) (.tmp 41) rfl w9.heap.size rfl O rfl HOs.out Lb.zero rfl r10 ?_; intro w11 r12 o11; have hb11 := hb10.trans o11.below; have cn := lrow_next r12 HOs.out; rw [HOn.out] at cn; clear hb10 r10 o11; have b_6 := b_5.trans (hb11.mono b_5.size); have r5_6 := r5_5.keep hb11; have r7_6 := r7_5.keep hb11; clear b_5 r5_5 r7_5 hb11)
      | (refine wpList_loadL (.tmp 5) _ ltL rfl rfl w2.heap.size rfl X HLx.out r5_6 ?_)
      | (refine wpList_loadL (.tmp 7) _ ltR rfl rfl w5.heap.size rfl X HLx.out r7_6 ?_)
      | (refine wpList_eqlL ltR guardR (.tmp 43) (.tmp 44) _ rfl rfl X X rfl rfl HLx.out HLx.out true (Lb.same_self X) ?_))
    go_ret
    exact ⟨by simp, b_6⟩
end Go.Proofs.YtcolicmefehcnaaDoor

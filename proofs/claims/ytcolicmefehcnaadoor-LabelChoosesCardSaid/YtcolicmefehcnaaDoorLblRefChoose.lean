/- The document's Choose: as the program's. No conditions but those that stand in each lemma. -/
import Derived.Test.YtcolicmefehcnaaDoorLblRefOpen
import Derived.Test.YtcolicmefehcnaaDoorLblChoose
namespace Go.Proofs.YtcolicmefehcnaaDoor
open Go.RowKit

theorem Tryd.resultsRChoose : Tryd.f12.results = #[.cell 4 34, .tmp 5] := by kernel_rfl
theorem isOne_spell {xs : List Int} {k : Int} {v : Bool} (h : isOne xs k = v) : (openE xs == 0) = true ∧ ((openL xs).epoch.tmod 2 == k) = v ∨ (openE xs == 0) = false ∧ v = false := by
  unfold isOne at h
  cases h0 : (openE xs == 0) with
  | true => rw [h0, Bool.true_and] at h; exact .inl ⟨rfl, h⟩
  | false => rw [h0, Bool.false_and] at h; exact .inr ⟨rfl, h.symm⟩
/-- The two variables behind both Opens. -/
def RCSt (w : World) (g6 g8 : Nat) (x y : Lb) (W : World) : Prop :=
  Row W w.heap.size 34 (lcells Lb.zero) ∧ Row W g6 34 (lcells x) ∧ Row W g8 34 (lcells y) ∧ Below w.heap.size w W
set_option maxRecDepth 100000 in
set_option maxHeartbeats 8000000 in
theorem rchoose_any (A : Option Addr) (n c : Nat) (xs : List Int) (B : Option Addr) (m d : Nat) (ys : List Int) (w : World) (hn : n = xs.length) (hs : Src .u8 w A xs) (hx : IsBytes xs) (hnc : n ≤ c) (hc : c ≤ 9223372036854775807) (hm : m = ys.length) (hsy : Src .u8 w B ys) (hy : IsBytes ys) (hmd : m ≤ d) (hdm : d ≤ 9223372036854775807) :
    Calls Tryd.prog 12 #[.slice A n c, .slice B m d] w (ChooseEnds xs ys w) := by
  have HOx : Hid (∀ W, Below w.heap.size w W → Calls Tryd.prog 10 #[.slice A n c] W (OpenEnds xs W)) :=
    Lib.hid (fun W hW => ropen_any A n c xs W hn (hs.keep hW) hx hnc hc)
  have HOy : Hid (∀ W, Below w.heap.size w W → Calls Tryd.prog 10 #[.slice B m d] W (OpenEnds ys W)) :=
    Lib.hid (fun W hW => ropen_any B m d ys W hm (hsy.keep hW) hy hmd hdm)
  have HXs := Lib.hid (openL_ok xs hx).root.shaL
  have HYs := Lib.hid (openL_ok ys hy).root.shaL
  clear hn hs hx hnc hc hm hsy hy hmd hdm
  have HF : Hid (isOne xs 0 = true → (isOne ys 1 = false ∨ (openL ys).epoch < (openL xs).epoch) → chooseL xs ys = openL xs ∧ Lb.same (chooseL xs ys) Lb.zero = false) := Lib.hid choose_first
  have HSc : Hid (isOne ys 1 = true → (isOne xs 0 = false ∨ ¬ (openL ys).epoch < (openL xs).epoch) → chooseL xs ys = openL ys ∧ Lb.same (chooseL xs ys) Lb.zero = false) := Lib.hid choose_second
  have HN : Hid (isOne xs 0 = false → isOne ys 1 = false → chooseL xs ys = Lb.zero ∧ Lb.same (chooseL xs ys) Lb.zero = true) := Lib.hid choose_none
  obtain ⟨v1, hv1⟩ : ∃ v, isOne xs 0 = v := ⟨_, rfl⟩
  obtain ⟨v2, hv2⟩ : ∃ v, isOne ys 1 = v := ⟨_, rfl⟩
  have hp1 := isOne_spell hv1
  have hp2 := isOne_spell hv2
  rw [hv1] at HF HSc HN
  rw [hv2] at HF HSc HN
  clear hv1 hv2
  go_enter Tryd.func12, Tryd.ntmps12
  go_wp2_with (refine wpList_allocL ltR 4 rfl rfl rfl ?_; intro w1 r1 b1 z1; have l1 : w.heap.size < w1.heap.size := (by omega); clear z1)
  refine (HOx.out _ b1).mono ?_
  rintro e w2 ⟨rfl, hb2⟩
  have r2 := r1.keep hb2
  have b2 := b1.trans (hb2.mono b1.size)
  have l2 := r2.lt
  clear r1 b1 hb2
  obtain ⟨X, hX⟩ : ∃ X, X = openL xs := ⟨_, rfl⟩
  rw [← hX] at HXs HF HSc hp1 ⊢
  obtain ⟨Y, hY⟩ : ∃ Y, Y = openL ys := ⟨_, rfl⟩
  rw [← hY] at HYs HF HSc hp2
  generalize openE xs = E1 at *
  clear hX
  go_wp2_with (first
    | (refine wpList_allocL ltR 6 rfl rfl rfl ?_; intro w3 r3 hb3 z3; have p3 := r2.keep hb3; have b3 := b2.trans (hb3.mono b2.size); have l3 : w2.heap.size < w3.heap.size := (by omega); clear z3 r2 b2 hb3)
    | (refine wpList_storeL ltR rfl (.tmp 6) (.tmp 15) rfl w2.heap.size rfl X rfl HXs.out Lb.zero rfl r3 ?_; intro w4 r4 o4; have p4 := o4.row p3 (by omega); have b4 := b3.trans (o4.below.mono (by omega)); have l4 := r4.lt; clear r3 p3 b3 o4))
  refine (HOy.out _ b4).mono ?_
  rintro e w5 ⟨rfl, hb5⟩
  have r5 := r4.keep hb5
  have p5 := p4.keep hb5
  have b5 := b4.trans (hb5.mono b4.size)
  have l5 := r5.lt
  clear r4 p4 b4 hb5
  rw [← hY]
  clear hY
  generalize openE ys = E2 at *
  go_upto_region 3 with (first
    | (refine wpList_allocL ltR 8 rfl rfl rfl ?_; intro w6 r6 hb6 z6; have q6 := r5.keep hb6; have p6 := p5.keep hb6; have b6 := b5.trans (hb6.mono b5.size); clear z6 r5 p5 b5 hb6)
    | (refine wpList_storeL ltR rfl (.tmp 8) (.tmp 20) rfl w5.heap.size rfl Y rfl HYs.out Lb.zero rfl r6 ?_; intro w7 r7 o7; have q7 := o7.row q6 (by omega); have p7 := o7.row p6 (by omega); have b7 := b6.trans (o7.below.mono (by omega)); have cx := lrow_epoch q7; have cy := lrow_epoch r7; clear r6 q6 p6 b6 o7))
  go_cut [10] from 12 (fun u wx => u = .bool v1 ∧ wx = w7)
  case first =>
    rcases hp1 with ⟨h1, h2⟩ | ⟨h1, h2⟩
    · have h1' : E1 = 0 := eq_of_beq h1
      subst h1'
      clear h1
      cases v1 with
      | true =>
        have h2' : X.epoch.tmod 2 = 0 := eq_of_beq h2
        go_wp2_with fail
        go_meet
        exact ⟨rfl, rfl⟩
      | false =>
        have h2' : ¬ X.epoch.tmod 2 = 0 := fun e => by rw [e] at h2; simp at h2
        go_wp2_with fail
        go_meet
        exact ⟨rfl, rfl⟩
    · have h1' : ¬ E1 = 0 := fun e => by rw [e] at h1; simp at h1
      subst h2
      go_wp2_with fail
      go_meet
      exact ⟨rfl, rfl⟩
  case rest =>
  obtain ⟨rfl, rfl⟩ := hcut
  clear hp1
  go_upto_region 4 with fail
  go_cut [11] from 12 (fun u wx => u = .bool v2 ∧ wx = wc)
  case first =>
    rcases hp2 with ⟨h1, h2⟩ | ⟨h1, h2⟩
    · have h1' : E2 = 0 := eq_of_beq h1
      subst h1'
      clear h1
      cases v2 with
      | true =>
        have h2' : Y.epoch.tmod 2 = 1 := eq_of_beq h2
        go_wp2_with fail
        go_meet
        exact ⟨rfl, rfl⟩
      | false =>
        have h2' : ¬ Y.epoch.tmod 2 = 1 := fun e => by rw [e] at h2; simp at h2
        go_wp2_with fail
        go_meet
        exact ⟨rfl, rfl⟩
    · have h1' : ¬ E2 = 0 := fun e => by rw [e] at h1; simp at h1
      subst h2
      go_wp2_with fail
      go_meet
      exact ⟨rfl, rfl⟩
  case rest =>
  obtain ⟨rfl, hwc⟩ := hcut
  subst hwc
  clear hp2
  cases v1 with
  | true =>
    cases v2 with
    | false =>
      have HR : Hid (chooseL xs ys = X ∧ Lb.same (chooseL xs ys) Lb.zero = false) := Lib.hid (HF.out rfl (.inl rfl))
      go_wp2_with (first | (refine wpList_loadL (.tmp 6) _ ltR rfl rfl w2.heap.size rfl X HXs.out q7 ?_) | (refine wpList_storeL ltR rfl (.tmp 4) (.tmp 50) rfl w.heap.size rfl X rfl HXs.out Lb.zero rfl p7 ?_; intro wz rz oz; have bz := b7.trans oz.below; clear q7 p7 r7 b7 oz cx cy))
      refine bodyPost_ret (v := .tuple #[.agg (lcells X), .bool true]) ?_ rfl ?_
      · exact results_cell_tmp_row Tryd.resultsRChoose _ _ w.heap.size 34 (lcells X) (0, 0) _ rfl rz ltR.struct rfl (lb_size ltR HXs.out)
      · exact ⟨by rw [HR.out.2, HR.out.1]; rfl, bz⟩
    | true =>
      cases hlt : decide (Y.epoch < X.epoch) with
      | true =>
        have HR : Hid (chooseL xs ys = X ∧ Lb.same (chooseL xs ys) Lb.zero = false) := Lib.hid (HF.out rfl (.inr (of_decide_eq_true hlt)))
        go_wp2_with (first | (refine wpList_loadL (.tmp 6) _ ltR rfl rfl w2.heap.size rfl X HXs.out q7 ?_) | (refine wpList_storeL ltR rfl (.tmp 4) (.tmp 50) rfl w.heap.size rfl X rfl HXs.out Lb.zero rfl p7 ?_; intro wz rz oz; have bz := b7.trans oz.below; clear q7 p7 r7 b7 oz cx cy))
        refine bodyPost_ret (v := .tuple #[.agg (lcells X), .bool true]) ?_ rfl ?_
        · exact results_cell_tmp_row Tryd.resultsRChoose _ _ w.heap.size 34 (lcells X) (0, 0) _ rfl rz ltR.struct rfl (lb_size ltR HXs.out)
        · exact ⟨by rw [HR.out.2, HR.out.1]; rfl, bz⟩
      | false =>
        have HR : Hid (chooseL xs ys = Y ∧ Lb.same (chooseL xs ys) Lb.zero = false) := Lib.hid (HSc.out rfl (.inr (by first | exact of_decide_eq_false hlt | exact Int.not_lt.1 (of_decide_eq_false hlt))))
        go_wp2_with (first | (refine wpList_loadL (.tmp 8) _ ltR rfl rfl w5.heap.size rfl Y HYs.out r7 ?_) | (refine wpList_storeL ltR rfl (.tmp 4) (.tmp 52) rfl w.heap.size rfl Y rfl HYs.out Lb.zero rfl p7 ?_; intro wz rz oz; have bz := b7.trans oz.below; clear q7 p7 r7 b7 oz cx cy))
        refine bodyPost_ret (v := .tuple #[.agg (lcells Y), .bool true]) ?_ rfl ?_
        · exact results_cell_tmp_row Tryd.resultsRChoose _ _ w.heap.size 34 (lcells Y) (0, 0) _ rfl rz ltR.struct rfl (lb_size ltR HYs.out)
        · exact ⟨by rw [HR.out.2, HR.out.1]; rfl, bz⟩
  | false =>
    cases v2 with
    | true =>
      have HR : Hid (chooseL xs ys = Y ∧ Lb.same (chooseL xs ys) Lb.zero = false) := Lib.hid (HSc.out rfl (.inl rfl))
      go_wp2_with (first | (refine wpList_loadL (.tmp 8) _ ltR rfl rfl w5.heap.size rfl Y HYs.out r7 ?_) | (refine wpList_storeL ltR rfl (.tmp 4) (.tmp 52) rfl w.heap.size rfl Y rfl HYs.out Lb.zero rfl p7 ?_; intro wz rz oz; have bz := b7.trans oz.below; clear q7 p7 r7 b7 oz cx cy))
      refine bodyPost_ret (v := .tuple #[.agg (lcells Y), .bool true]) ?_ rfl ?_
      · exact results_cell_tmp_row Tryd.resultsRChoose _ _ w.heap.size 34 (lcells Y) (0, 0) _ rfl rz ltR.struct rfl (lb_size ltR HYs.out)
      · exact ⟨by rw [HR.out.2, HR.out.1]; rfl, bz⟩
    | false =>
      have HR : Hid (chooseL xs ys = Lb.zero ∧ Lb.same (chooseL xs ys) Lb.zero = true) := Lib.hid (HN.out rfl rfl)
      go_wp2_with (first | (refine wpList_build0 ltR rfl rfl ?_) | (refine wpList_storeL ltR rfl (.tmp 4) (.tmp 53) rfl w.heap.size rfl Lb.zero rfl rfl Lb.zero rfl p7 ?_; intro wz rz oz; have bz := b7.trans oz.below; clear q7 p7 r7 b7 oz cx cy))
      refine bodyPost_ret (v := .tuple #[.agg (lcells Lb.zero), .bool false]) ?_ rfl ?_
      · exact results_cell_tmp_row Tryd.resultsRChoose _ _ w.heap.size 34 (lcells Lb.zero) (0, 0) _ rfl rz ltR.struct rfl (lb_size ltR rfl)
      · exact ⟨by rw [HR.out.2, HR.out.1]; rfl, bz⟩
end Go.Proofs.YtcolicmefehcnaaDoor

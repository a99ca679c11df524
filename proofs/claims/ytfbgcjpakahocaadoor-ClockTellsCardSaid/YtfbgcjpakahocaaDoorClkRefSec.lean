/- The document's Seconds and Weekday, of any time: its seconds, or none; its day of the week, or -1. Nothing that was there is written. No conditions. -/
import Derived.Test.YtfbgcjpakahocaaDoorClkRefSmall
import Derived.Test.YtfbgcjpakahocaaDoorClkOf
namespace Go.Proofs.YtfbgcjpakahocaaDoor
open Go.RowKit
namespace Clk

/-- At the heads of the three loops. -/
def R1At (t : Tm) (X : Int) (W : World) (n y : Value) (wr : World) : Prop := ∃ k : Int, 1970 ≤ k ∧ k ≤ X ∧ y = .int .i64 k ∧ n = .int .i64 (t.d - 1 + (aheadI k - 719162)) ∧ wr = W
def R2At (t : Tm) (X AX AY : Int) (W : World) (n y : Value) (wr : World) : Prop := ∃ k : Int, t.y ≤ k ∧ k ≤ X ∧ y = .int .i64 k ∧ n = .int .i64 (t.d - 1 + (AX - 719162) - (aheadI k - AY)) ∧ wr = W
def R3At (t : Tm) (W : World) (n m : Value) (wr : World) : Prop := ∃ k : Int, 1 ≤ k ∧ k ≤ t.m ∧ m = .int .i64 k ∧ n = .int .i64 (t.d - 1 + (aheadI t.y - 719162) + cumI t.y k) ∧ wr = W
theorem ahead_range (y : Int) (h0 : 1 ≤ y) (h1 : y ≤ 10000) : 0 ≤ aheadI y ∧ aheadI y ≤ 3660000 := by
  have a := ahead_low y h0
  have b := ahead_high y h0
  omega
set_option maxRecDepth 100000 in
set_option maxHeartbeats 2000000 in
theorem rseconds_any (t : Tm) (w : World) : Calls Tryd.prog 10 #[tmV t] w fun e w' => e = .returned (secV t) ∧ Below w.heap.size w w' := by
  have HP := Lib.hid (fun (w' : World) => rright_any t w')
  unfold tmV at HP ⊢
  by_cases hr : t.Right
  · have HE : Hid (secV t = .tuple #[.int .i64 ((t.days - 719162) * 86400 + t.h * 3600 + t.i * 60 + t.s), .bool true]) := Lib.hid (by unfold secV; rw [if_pos hr, rightB_yes hr]; rfl)
    have HDS : Hid (t.days = aheadI t.y + cumI t.y t.m + t.d - 1) := Lib.hid rfl
    rw [HDS.out] at HE
    rw [rightB_yes hr] at HP
    have HDR := days_range hr
    rw [HDS.out] at HDR
    obtain ⟨y01, m01, d01, h01, i01, s01⟩ := hr
    have d2 := (md_range t.y t.m m01).2
    obtain ⟨y0, y1⟩ := y01
    obtain ⟨m0, m1⟩ := m01
    obtain ⟨d0, d1⟩ := d01
    have d3 : t.d ≤ 31 := by omega
    obtain ⟨h0, h1⟩ := h01
    obtain ⟨i0, i1⟩ := i01
    obtain ⟨s0, s1⟩ := s01
    clear d1 d2 HDS
    obtain ⟨X, x0, x1, x2⟩ : ∃ X : Int, t.y ≤ X ∧ 1970 ≤ X ∧ (X = t.y ∨ X = 1970) := by
      by_cases h : t.y ≤ 1970
      · exact ⟨1970, h, by omega, .inr rfl⟩
      · exact ⟨t.y, by omega, by omega, .inl rfl⟩
    have x3 : X ≤ 9999 := by omega
    have HX := Lib.hid x2
    clear x2
    have HL := Lib.hid (fun (y : Int) (w' : World) => rlength_any y w')
    have HDY := Lib.hid (fun (y m : Int) (w' : World) => rdays_any y m w')
    have HAS := Lib.hid (fun y => ahead_succ y)
    have HAR := Lib.hid (fun y => ahead_range y)
    have HLN := Lib.hid (fun y => len_cases y)
    have HC1 := Lib.hid (cum_one t.y)
    have HCS := Lib.hid (fun k => cum_succ t.y k)
    have HCL := Lib.hid (fun k => cum_low t.y k)
    have HCH := Lib.hid (fun k => cum_mono (y := t.y) (m := k) (n := 13))
    have HC13 := Lib.hid (cum_last t.y)
    have HMR := Lib.hid (fun k => md_range t.y k)
    have H70 := Lib.hid ahead_1970
    have HDR' := Lib.hid HDR
    clear HDR
    go_enter Tryd.func10, Tryd.ntmps10
    go_wp2_with (first
      | (refine wpList_boxT ttR rfl (.tmp 0) rfl t rfl ?_; intro W r1 b1 z1; clear z1; have HB1 := Lib.hid b1; clear b1)
      | (refine wpList_loadT ttR (.tmp 1) rfl rfl w.heap.size rfl t r1 ?_))
    refine (HP.out _).mono ?_
    rintro e w2 ⟨rfl, hb2⟩
    obtain ⟨c0, c1, c2, c3, c4, c5⟩ := TmAt.of (r1.keep hb2)
    have HB2 := Lib.hid (HB1.out.trans (hb2.mono HB1.out.size))
    clear r1 hb2 HB1 HP
    go_wp2_with fail
    go_loopw [4, 5] (fun n y wr => R1At t X w2 n y wr) (fun _ y _ => (10000 - intOf y).toNat)
    case atStart => exact ⟨1970, by omega, x1, rfl, by rw [H70.out]; go_num, rfl⟩
    case round =>
      obtain ⟨k, k0, k1, rfl, rfl, rfl⟩ := hrel
      obtain ⟨a0, a1⟩ := HAR.out k (by omega) (by omega)
      rcases Int.lt_or_le k t.y with hlt | hge
      · have HS := Lib.hid (HAS.out k)
        have HN := Lib.hid (HLN.out k)
        have hl : 365 ≤ lenI k ∧ lenI k ≤ 366 := by rcases HN.out with h | h <;> omega
        obtain ⟨l0, l1⟩ := hl
        have HL1 := Lib.hid (HL.out k wr)
        generalize aheadI k = A at *
        generalize lenI k = N at *
        go_wp2_with fail
        refine HL1.out.mono ?_
        rintro e w3 ⟨rfl, rfl⟩
        go_wp2_with fail
        refine ⟨⟨k + 1, by omega, by omega, rfl, by rw [HS.out]; go_num, rfl⟩, by simp [intOf]; omega⟩
      · obtain rfl : k = X := by rcases HX.out with h | h <;> omega
        clear hge
        obtain ⟨b0, b1⟩ := HAR.out t.y (by omega) (by omega)
        generalize hAK : aheadI k = AK at *
        generalize hAY : aheadI t.y = AY at *
        have HAK := Lib.hid hAK
        have HAY := Lib.hid hAY
        clear hAK hAY
        go_wp2_with fail
        go_loopw [4, 6] (fun n y wr' => R2At t k AK AY wr n y wr') (fun _ y _ => (10000 - intOf y).toNat)
        case atStart => exact ⟨t.y, by omega, x0, rfl, by rw [HAY.out]; go_num, rfl⟩
        case round =>
          obtain ⟨j, j0, j1, rfl, rfl, rfl⟩ := hrel
          obtain ⟨e0, e1⟩ := HAR.out j (by omega) (by omega)
          rcases Int.lt_or_le j 1970 with hlt | hge
          · have HS := Lib.hid (HAS.out j)
            have HN := Lib.hid (HLN.out j)
            have hl : 365 ≤ lenI j ∧ lenI j ≤ 366 := by rcases HN.out with h | h <;> omega
            obtain ⟨l0, l1⟩ := hl
            have HL1 := Lib.hid (HL.out j wr)
            generalize aheadI j = A at *
            generalize lenI j = N at *
            go_wp2_with fail
            refine HL1.out.mono ?_
            rintro e w3 ⟨rfl, rfl⟩
            go_wp2_with fail
            refine ⟨⟨j + 1, by omega, by omega, rfl, by rw [HS.out]; go_num, rfl⟩, by simp [intOf]; omega⟩
          · obtain rfl : j = k := by rcases HX.out with h | h <;> omega
            rw [HAK.out] at *
            clear hge HAS HLN HAR HL H70
            go_wp2_with fail
            go_loopw [4, 7] (fun n m wr' => ∃ k : Int, 1 ≤ k ∧ k ≤ t.m ∧ m = .int .i64 k ∧ n = .int .i64 (t.d - 1 + (AY - 719162) + cumI t.y k) ∧ wr' = wr) (fun _ m _ => (100 - intOf m).toNat)
            case atStart => exact ⟨1, by omega, m0, rfl, by rw [HC1.out]; go_num, rfl⟩
            case round =>
              obtain ⟨q, q0, q1, rfl, rfl, rfl⟩ := hrel
              have g0 := HCL.out q (by omega)
              have g1 := HCH.out q (by omega) (by omega) (by omega)
              rw [HC13.out] at g1
              have g2 : cumI t.y q ≤ 366 := by rcases len_cases t.y with h | h <;> omega
              clear g1
              rcases Int.lt_or_le q t.m with hlt | hge
              · have HS := Lib.hid (HCS.out q (by omega))
                obtain ⟨r0, r1⟩ := HMR.out q (by omega)
                have HD1 := Lib.hid (HDY.out t.y q wr)
                generalize cumI t.y q = C at *
                generalize mdI t.y q = M at *
                go_wp2_with fail
                refine HD1.out.mono ?_
                rintro e w3 ⟨rfl, rfl⟩
                go_wp2_with fail
                refine ⟨⟨q + 1, by omega, by omega, rfl, by rw [HS.out]; go_num, trivial⟩, by simp [intOf]; omega⟩
              · obtain rfl : t.m = q := by omega
                obtain ⟨z0, z1⟩ := HDR'.out
                generalize hC : cumI t.y t.m = C at *
                go_wp2_with fail
                go_ret2
                exact ⟨by rw [HE.out]; go_num, HB2.out⟩
  · have HE : Hid (secV t = .tuple #[.int .i64 0, .bool false]) := Lib.hid (by unfold secV; rw [if_neg hr, rightB_no hr])
    rw [rightB_no hr] at HP
    clear hr
    go_enter Tryd.func10, Tryd.ntmps10
    go_wp2_with (first
      | (refine wpList_boxT ttR rfl (.tmp 0) rfl t rfl ?_; intro W r1 b1 z1; clear z1; have HB1 := Lib.hid b1; clear b1)
      | (refine wpList_loadT ttR (.tmp 1) rfl rfl w.heap.size rfl t r1 ?_))
    refine (HP.out _).mono ?_
    rintro e w2 ⟨rfl, hb2⟩
    have HB2 := Lib.hid (HB1.out.trans (hb2.mono HB1.out.size))
    clear r1 hb2 HB1 HP
    go_wp2_with fail
    go_ret2
    exact ⟨by rw [HE.out]; rfl, HB2.out⟩

theorem wd_floor {t : Tm} (hr : t.Right) : (t.secs / 86400 + 4) % 7 = t.wd := by
  obtain ⟨h, i, s⟩ := hr.2.2.2
  unfold Tm.wd
  have e : t.secs / 86400 = t.days - 719162 := by unfold Tm.secs; omega
  rw [e]
  omega
/-- The document's way to the day of the week. -/
theorem wd_trunc {n : Int} : (¬ n.tmod 86400 < 0 → (let d := (n.tdiv 86400 + 4).tmod 7; if d < 0 then d + 7 else d) = (n / 86400 + 4) % 7) ∧ (n.tmod 86400 < 0 → (let d := (n.tdiv 86400 + 3).tmod 7; if d < 0 then d + 7 else d) = (n / 86400 + 4) % 7) := by
  have key : ∀ x : Int, (if x.tmod 7 < 0 then x.tmod 7 + 7 else x.tmod 7) = x % 7 := fun x => by
    rcases Int.le_total 0 x with h | h
    · rw [Int.tmod_eq_emod_of_nonneg h]; split <;> omega
    · have e : x.tmod 7 = -((-x) % 7) := by rw [← Int.tmod_eq_emod_of_nonneg (show 0 ≤ -x by omega), Int.neg_tmod, Int.neg_neg]
      rw [e]; split <;> omega
  have two : (0 ≤ n ∧ n.tdiv 86400 = n / 86400 ∧ n.tmod 86400 = n % 86400) ∨ (n < 0 ∧ n.tdiv 86400 = -((-n) / 86400) ∧ n.tmod 86400 = -((-n) % 86400)) := by
    rcases Int.lt_or_le n 0 with h | h
    · refine .inr ⟨h, ?_, ?_⟩
      · rw [← Int.tdiv_eq_ediv_of_nonneg (show 0 ≤ -n by omega), Int.neg_tdiv, Int.neg_neg]
      · rw [← Int.tmod_eq_emod_of_nonneg (show 0 ≤ -n by omega), Int.neg_tmod, Int.neg_neg]
    · exact .inl ⟨h, Int.tdiv_eq_ediv_of_nonneg h, Int.tmod_eq_emod_of_nonneg h⟩
  refine ⟨fun h => ?_, fun h => ?_⟩
  · show (if (n.tdiv 86400 + 4).tmod 7 < 0 then _ else _) = _
    rw [key]
    rcases two with ⟨a, b, c⟩ | ⟨a, b, c⟩ <;> rw [c] at h <;> rw [b] <;> omega
  · show (if (n.tdiv 86400 + 3).tmod 7 < 0 then _ else _) = _
    rw [key]
    rcases two with ⟨a, b, c⟩ | ⟨a, b, c⟩ <;> rw [c] at h <;> rw [b] <;> omega
set_option maxRecDepth 100000 in
set_option maxHeartbeats 2000000 in
theorem rweekday_any (t : Tm) (w : World) : Calls Tryd.prog 12 #[tmV t] w fun e w' => e = .returned (.int .i64 (wdI t)) ∧ Below w.heap.size w w' := by
  have HP := Lib.hid (fun (w' : World) => rseconds_any t w')
  unfold tmV at HP ⊢
  by_cases hr : t.Right
  · have HE : Hid (wdI t = (t.secs / 86400 + 4) % 7) := Lib.hid (by unfold wdI; rw [if_pos hr, wd_floor hr])
    have HSV : Hid (secV t = .tuple #[.int .i64 t.secs, .bool true]) := Lib.hid (by unfold secV; rw [if_pos hr, rightB_yes hr])
    obtain ⟨n0, n1⟩ := secs_range hr
    rw [HSV.out] at HP
    have HT := Lib.hid (wd_trunc (n := t.secs))
    clear hr HSV
    generalize t.secs = n at *
    have hQ : ∃ Q, n.tdiv 86400 = Q ∧ -1000000 ≤ Q ∧ Q ≤ 10000000 := by
      rcases Int.lt_or_le n 0 with h | h
      · refine ⟨_, rfl, ?_⟩
        rw [show n.tdiv 86400 = -((-n) / 86400) by rw [← Int.tdiv_eq_ediv_of_nonneg (show 0 ≤ -n by omega), Int.neg_tdiv, Int.neg_neg]]
        omega
      · refine ⟨_, rfl, ?_⟩
        rw [Int.tdiv_eq_ediv_of_nonneg h]
        omega
    obtain ⟨Q, hQ, Q0, Q1⟩ := hQ
    obtain ⟨R, hR⟩ : ∃ R, n.tmod 86400 = R := ⟨_, rfl⟩
    have key : ∀ x : Int, -6 ≤ x.tmod 7 ∧ x.tmod 7 ≤ 6 := fun x => by
      rcases Int.le_total 0 x with h | h
      · rw [Int.tmod_eq_emod_of_nonneg h]; omega
      · have e : x.tmod 7 = -((-x) % 7) := by rw [← Int.tmod_eq_emod_of_nonneg (show 0 ≤ -x by omega), Int.neg_tmod, Int.neg_neg]
        rw [e]; omega
    rw [hQ, hR] at HT
    obtain ⟨D4, h4⟩ : ∃ D, (Q + 4).tmod 7 = D := ⟨_, rfl⟩
    obtain ⟨D3, h3⟩ : ∃ D, (Q + 3).tmod 7 = D := ⟨_, rfl⟩
    obtain ⟨p0, p1⟩ := key (Q + 4)
    obtain ⟨q0, q1⟩ := key (Q + 3)
    rw [h4] at HT p0 p1
    rw [h3] at HT q0 q1
    clear key
    go_enter Tryd.func12, Tryd.ntmps12
    go_wp2_with (first
      | (refine wpList_boxT ttR rfl (.tmp 0) rfl t rfl ?_; intro W r1 b1 z1; clear z1; have HB1 := Lib.hid b1; clear b1)
      | (refine wpList_loadT ttR (.tmp 1) rfl rfl w.heap.size rfl t r1 ?_))
    refine (HP.out _).mono ?_
    rintro e w2 ⟨rfl, hb2⟩
    have HB2 := Lib.hid (HB1.out.trans (hb2.mono HB1.out.size))
    clear r1 hb2 HB1 HP
    by_cases hneg : R < 0
    · have HT1 := Lib.hid (HT.out.2 hneg)
      by_cases hd : D3 < 0
      · go_wp2_with fail
        go_ret
        exact ⟨by rw [HE.out, ← HT1.out]; show _ = Ending.returned (.int .i64 (if D3 < 0 then D3 + 7 else D3)); rw [if_pos hd]; rfl, HB2.out⟩
      · go_wp2_with fail
        go_ret
        exact ⟨by rw [HE.out, ← HT1.out]; show _ = Ending.returned (.int .i64 (if D3 < 0 then D3 + 7 else D3)); rw [if_neg (by omega)]; rfl, HB2.out⟩
    · have HT1 := Lib.hid (HT.out.1 (by omega))
      by_cases hd : D4 < 0
      · go_wp2_with fail
        go_ret
        exact ⟨by rw [HE.out, ← HT1.out]; show _ = Ending.returned (.int .i64 (if D4 < 0 then D4 + 7 else D4)); rw [if_pos hd]; rfl, HB2.out⟩
      · go_wp2_with fail
        go_ret
        exact ⟨by rw [HE.out, ← HT1.out]; show _ = Ending.returned (.int .i64 (if D4 < 0 then D4 + 7 else D4)); rw [if_neg (by omega)]; rfl, HB2.out⟩
  · have HE : Hid (wdI t = -1) := Lib.hid (by unfold wdI; rw [if_neg hr])
    have HSV : Hid (secV t = .tuple #[.int .i64 0, .bool false]) := Lib.hid (by unfold secV; rw [if_neg hr, rightB_no hr])
    rw [HSV.out] at HP
    clear hr HSV
    go_enter Tryd.func12, Tryd.ntmps12
    go_wp2_with (first
      | (refine wpList_boxT ttR rfl (.tmp 0) rfl t rfl ?_; intro W r1 b1 z1; clear z1; have HB1 := Lib.hid b1; clear b1)
      | (refine wpList_loadT ttR (.tmp 1) rfl rfl w.heap.size rfl t r1 ?_))
    refine (HP.out _).mono ?_
    rintro e w2 ⟨rfl, hb2⟩
    have HB2 := Lib.hid (HB1.out.trans (hb2.mono HB1.out.size))
    clear r1 hb2 HB1 HP
    go_wp2_with fail
    go_ret
    exact ⟨by rw [HE.out]; rfl, HB2.out⟩
end Clk
end Go.Proofs.YtfbgcjpakahocaaDoor

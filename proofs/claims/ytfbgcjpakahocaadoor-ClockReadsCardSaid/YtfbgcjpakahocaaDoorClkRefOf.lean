/- The document's Of, of any number: the time of so many seconds, or none. Nothing that was there is written. No conditions. -/
import Derived.Test.YtfbgcjpakahocaaDoorClkRefSec
import Derived.Test.YtfbgcjpakahocaaDoorClkOfN
namespace Go.Proofs.YtfbgcjpakahocaaDoor
open Go.RowKit
namespace Clk

/-- At the loops' heads: the days that are left, and the year, or the month, so far; n days from the beginning of year 1 on. -/
def OAt (w : World) (g : Nat) (t : Tm) (wr : World) : Prop := Row wr g 26 (tmC t) ∧ Row wr w.heap.size 26 (tmC Tm.zero) ∧ Below w.heap.size w wr
def O1At (w : World) (n h i s : Int) (g : Nat) (d : Value) (wr : World) : Prop := ∃ y : Int, 1 ≤ y ∧ y ≤ 1970 ∧ d = .int .i64 (n - aheadI y) ∧ OAt w g ⟨y, 1, 1, h, i, s⟩ wr
def O2At (w : World) (n h i s : Int) (g : Nat) (d : Value) (wr : World) : Prop := ∃ y : Int, 1 ≤ y ∧ y ≤ 9999 ∧ aheadI y ≤ n ∧ d = .int .i64 (n - aheadI y) ∧ OAt w g ⟨y, 1, 1, h, i, s⟩ wr
def O3At (w : World) (y r h i s : Int) (g : Nat) (d : Value) (wr : World) : Prop := ∃ m : Int, 1 ≤ m ∧ m ≤ 12 ∧ cumI y m ≤ r ∧ d = .int .i64 (r - cumI y m) ∧ OAt w g ⟨y, m, 1, h, i, s⟩ wr
theorem row_y {W : World} {g : Nat} {T : TypeId} {y m d h i s : Int} (a : Int) (hr : Row W g T (tmC ⟨y, m, d, h, i, s⟩)) : Row (W.setCell ⟨g, 0, none⟩ (.int .i64 a)) g T (tmC ⟨a, m, d, h, i, s⟩) := hr.set 0 (.int .i64 a)
theorem row_m {W : World} {g : Nat} {T : TypeId} {y m d h i s : Int} (a : Int) (hr : Row W g T (tmC ⟨y, m, d, h, i, s⟩)) : Row (W.setCell ⟨g, 1, none⟩ (.int .i64 a)) g T (tmC ⟨y, a, d, h, i, s⟩) := hr.set 1 (.int .i64 a)
theorem row_d {W : World} {g : Nat} {T : TypeId} {y m d h i s : Int} (a : Int) (hr : Row W g T (tmC ⟨y, m, d, h, i, s⟩)) : Row (W.setCell ⟨g, 2, none⟩ (.int .i64 a)) g T (tmC ⟨y, m, a, h, i, s⟩) := hr.set 2 (.int .i64 a)
theorem OAt.setY {w wr : World} {g : Nat} {y m d h i s : Int} (hl : w.heap.size < g) (a : Int) (o : OAt w g ⟨y, m, d, h, i, s⟩ wr) : OAt w g ⟨a, m, d, h, i, s⟩ (wr.setCell ⟨g, 0, none⟩ (.int .i64 a)) := ⟨row_y a o.1, o.2.1.other (by omega) 0 _, o.2.2.setCell (p := ⟨g, 0, none⟩) (Nat.le_of_lt hl) _⟩
theorem OAt.setM {w wr : World} {g : Nat} {y m d h i s : Int} (hl : w.heap.size < g) (a : Int) (o : OAt w g ⟨y, m, d, h, i, s⟩ wr) : OAt w g ⟨y, a, d, h, i, s⟩ (wr.setCell ⟨g, 1, none⟩ (.int .i64 a)) := ⟨row_m a o.1, o.2.1.other (by omega) 1 _, o.2.2.setCell (p := ⟨g, 1, none⟩) (Nat.le_of_lt hl) _⟩
theorem OAt.setD {w wr : World} {g : Nat} {y m d h i s : Int} (hl : w.heap.size < g) (a : Int) (o : OAt w g ⟨y, m, d, h, i, s⟩ wr) : OAt w g ⟨y, m, a, h, i, s⟩ (wr.setCell ⟨g, 2, none⟩ (.int .i64 a)) := ⟨row_d a o.1, o.2.1.other (by omega) 2 _, o.2.2.setCell (p := ⟨g, 2, none⟩) (Nat.le_of_lt hl) _⟩
theorem Tryd.resultsROf : Tryd.f8.results = #[.cell 2 26, .tmp 3] := by kernel_rfl
/-- Seconds as whole days and the rest. -/
theorem trunc_parts (n : Int) : (¬ n.tmod 86400 < 0 → n.tdiv 86400 = n / 86400 ∧ n.tmod 86400 = n % 86400) ∧ (n.tmod 86400 < 0 → n.tdiv 86400 = n / 86400 + 1 ∧ n.tmod 86400 = n % 86400 - 86400) := by
  rcases Int.lt_or_le n 0 with h | h
  · have e1 : n.tdiv 86400 = -((-n) / 86400) := by rw [← Int.tdiv_eq_ediv_of_nonneg (show 0 ≤ -n by omega), Int.neg_tdiv, Int.neg_neg]
    have e2 : n.tmod 86400 = -((-n) % 86400) := by rw [← Int.tmod_eq_emod_of_nonneg (show 0 ≤ -n by omega), Int.neg_tmod, Int.neg_neg]
    rw [e1, e2]
    constructor <;> intro h' <;> constructor <;> omega
  · have e1 := Int.tdiv_eq_ediv_of_nonneg h (b := 86400)
    have e2 := Int.tmod_eq_emod_of_nonneg h (b := 86400)
    rw [e1, e2]
    constructor <;> intro h' <;> constructor <;> omega
set_option maxRecDepth 100000 in
set_option maxHeartbeats 4000000 in
theorem rof_any (n : Int) (w : World) : Calls Tryd.prog 8 #[.int .i64 n] w fun e w' => OfTo n e ∧ Below w.heap.size w w' := by
  by_cases hr : -62135596800 ≤ n ∧ n ≤ 253402300799
  · obtain ⟨n0, n1⟩ := hr
    have HT := Lib.hid (trunc_parts n)
    have n2 : (n < -62135596800) = False := by simp; omega
    have n3 : (253402300799 < n) = False := by simp; omega
    have HL := Lib.hid (fun (y : Int) (w' : World) => rlength_any y w')
    have HDY := Lib.hid (fun (y m : Int) (w' : World) => rdays_any y m w')
    have HAS := Lib.hid (fun y => ahead_succ y)
    have HAR := Lib.hid (fun y => ahead_range y)
    have HALT := Lib.hid (fun y => ahead_lt (y := y))
    have HLN := Lib.hid (fun y => len_cases y)
    have H1 := Lib.hid ahead_one
    have H70 := Lib.hid ahead_1970
    obtain ⟨P, hP⟩ : ∃ P, n / 86400 = P := ⟨_, rfl⟩
    obtain ⟨S, hS⟩ : ∃ S, n % 86400 = S := ⟨_, rfl⟩
    have S0 : 0 ≤ S := by omega
    have S1 : S < 86400 := by omega
    have P0 : -719162 ≤ P := by omega
    have P1 : P < 2932897 := by omega
    have HPS : Hid (n = P * 86400 + S) := Lib.hid (by omega)
    rw [hP, hS] at HT
    by_cases hneg : n.tmod 86400 < 0
    · obtain ⟨hQ, hR⟩ := HT.out.2 hneg
      clear hneg hP hS HT
      go_enter Tryd.func8, Tryd.ntmps8
      go_wp2_with (first
        | (refine wpList_allocT ttR rfl rfl ?_; (first | (have isFirst := r1; clear isFirst; intro W3 r3 b3 z3; have l3 : w.heap.size < W.heap.size := (by omega); have HR13 := Lib.hid (r1.keep b3); have HB3 := Lib.hid (HB1.out.trans (b3.mono HB1.out.size)); clear b3 z3 r1) | (intro W r1 b1 z1; have HB1 := Lib.hid b1; clear b1)))
        | (refine wpList_storeT ttR rfl (.tmp 6) (.tmp 31) rfl W.heap.size rfl ⟨1970, 1, 1, S / 3600, S / 60 % 60, S % 60⟩ rfl Tm.zero ?_ ?_; exact r3; intro W4 r4 o4; have HO4 : Hid (OAt w W.heap.size ⟨1970, 1, 1, S / 3600, S / 60 % 60, S % 60⟩ W4) := Lib.hid ⟨r4, o4.row HR13.out (by omega), HB3.out.trans (o4.below.mono (by omega))⟩; clear r3 r4 o4))
      clear hQ hR n2 n3 z1 HB1 HR13 HB3
      have HF : Hid (S = S / 3600 * 3600 + S / 60 % 60 * 60 + S % 60) := Lib.hid (by omega)
      have HF1 : Hid (0 ≤ S / 3600 ∧ S / 3600 ≤ 23) := Lib.hid (by omega)
      have HF2 : Hid (0 ≤ S / 60 % 60 ∧ S / 60 % 60 ≤ 59) := Lib.hid (by omega)
      have HF3 : Hid (0 ≤ S % 60 ∧ S % 60 ≤ 59) := Lib.hid (by omega)
      go_simp
      generalize W.heap.size = g at *
      generalize S / 3600 = h at *
      generalize S / 60 % 60 = i at *
      generalize S % 60 = s at *
      obtain ⟨N, hN⟩ : ∃ N, P = N - 719162 := ⟨P + 719162, by omega⟩
      obtain rfl := hN
      have N0 : 0 ≤ N := by omega
      have N1 : N < 3652059 := by omega
      clear P0 P1
      go_loopw [4] (fun d wr => O1At w N h i s g d wr) (fun d _ => (0 - intOf d).toNat)
      case atStart => exact ⟨1970, by omega, by omega, by rw [H70.out], HO4.out⟩
      case round =>
        clear HO4
        obtain ⟨y, y0, y1, rfl, ho⟩ := hrel
        have HO := Lib.hid ho
        obtain ⟨c0, c1, c2, c3, c4, c5⟩ := TmAt.of ho.1
        have f0 := ho.1.free 0
        obtain ⟨a0, a1⟩ := HAR.out y y0 (by omega)
        clear ho
        rcases Int.lt_or_le (N - aheadI y) 0 with hlt | hge
        · have y2 : 1 < y := by
            rcases (show y = 1 ∨ 1 < y by omega) with rfl | h
            · rw [H1.out] at hlt; omega
            · exact h
          have HS := HAS.out (y - 1)
          rw [show y - 1 + 1 = y by omega] at HS
          have HS' := Lib.hid HS
          have HN := Lib.hid (HLN.out (y - 1))
          have hl : 365 ≤ lenI (y - 1) ∧ lenI (y - 1) ≤ 366 := by rcases HN.out with h | h <;> omega
          obtain ⟨l0, l1⟩ := hl
          have HO1 := Lib.hid (HO.out.setY l3 (y - 1))
          have d0 := TmAt.y (TmAt.of HO1.out.1)
          have HL1 := Lib.hid (fun w' => HL.out (y - 1) w')
          clear HS
          generalize aheadI y = A at *
          generalize hM : lenI (y - 1) = M at *
          have HM := Lib.hid hM
          clear hM
          go_wp2_with fail
          refine (HL1.out _).mono ?_
          rintro e w3 ⟨rfl, rfl⟩
          go_wp2_with fail
          refine ⟨⟨y - 1, by omega, by omega, by have := HS'.out; go_num, HO1.out⟩, by simp [intOf]; omega⟩
        · generalize hA : aheadI y = A at *
          have HA := Lib.hid hA
          clear hA c0 c1 c2 c3 c4 c5 f0
          go_wp2_with fail
          go_loopw [4] (fun d wr => O2At w N h i s g d wr) (fun d _ => (intOf d).toNat)
          case atStart => exact ⟨y, by omega, by omega, by rw [HA.out]; omega, by rw [HA.out], HO.out⟩
          case round =>
            clear HO HA a0 a1 hge y0 y1
            obtain ⟨z, z0, z1, hz, rfl, ho⟩ := hrel
            have HO := Lib.hid ho
            obtain ⟨c0, c1, c2, c3, c4, c5⟩ := TmAt.of ho.1
            have f0 := ho.1.free 0
            obtain ⟨a0, a1⟩ := HAR.out z z0 (by omega)
            have HS := Lib.hid (HAS.out z)
            have HNN := Lib.hid (HLN.out z)
            have HLT := Lib.hid (HALT.out (z + 1))
            have hl : 365 ≤ lenI z ∧ lenI z ≤ 366 := by rcases HNN.out with h | h <;> omega
            obtain ⟨l0, l1⟩ := hl
            have HO1 := Lib.hid (HO.out.setY l3 (z + 1))
            have HL1 := Lib.hid (fun w' => HL.out z w')
            have HC1 := Lib.hid (cum_one z)
            have HC13 := cum_last z
            clear ho
            generalize hA : aheadI z = A at *
            have HA := Lib.hid hA
            generalize hM : lenI z = M at *
            have HM := Lib.hid hM
            have H13 := Lib.hid HC13
            clear hM hA HC13
            rcases Int.lt_or_le (N - A) M with hlt | hge2
            · go_wp2_with fail
              refine (HL1.out _).mono ?_
              rintro e w3 ⟨rfl, rfl⟩
              go_wp2_with fail
              clear c0 c1 c2 c3 c4 c5 f0 HO1 HL1 HAS HAR HALT HLN HL H1 H70
              obtain ⟨r, hr⟩ : ∃ r, N - A = r := ⟨_, rfl⟩
              have HRR : Hid (N = A + r) := Lib.hid (by omega)
              have r0 : 0 ≤ r := by omega
              have r1 : r < M := by omega
              have r2 : r ≤ 366 := by omega
              rw [hr] at *
              clear hr hlt hz a0 a1
              go_loopw [4] (fun d wr => O3At w z r h i s g d wr) (fun d _ => (intOf d).toNat)
              case atStart => exact ⟨1, by omega, by omega, by rw [HC1.out]; omega, by rw [HC1.out]; simp, HO.out⟩
              case round =>
                clear HO
                obtain ⟨m, m0, m1, hm, rfl, ho⟩ := hrel
                have HO := Lib.hid ho
                obtain ⟨c0, c1, c2, c3, c4, c5⟩ := TmAt.of ho.1
                have f1 := ho.1.free 1
                have f2 := ho.1.free 2
                have HCS1 := Lib.hid (cum_succ z m ⟨m0, m1⟩)
                obtain ⟨M0, M1⟩ := md_range z m ⟨m0, m1⟩
                have C0 := cum_low z m (by omega)
                have HO1 := Lib.hid (HO.out.setM l3 (m + 1))
                have HD1 := Lib.hid (fun w' => HDY.out z m w')
                have d0 := TmAt.y (TmAt.of HO1.out.1)
                clear ho
                generalize hC : cumI z m = C at *
                have HC := Lib.hid hC
                generalize hD : mdI z m = D at *
                have HD := Lib.hid hD
                clear hC hD
                rcases Int.lt_or_le (r - C) D with hlt | hge3
                · have HO2 := Lib.hid (HO.out.setD l3 (r - C + 1))
                  go_wp2_with fail
                  refine (HD1.out _).mono ?_
                  rintro e w3 ⟨rfl, rfl⟩
                  go_wp2_with (first
                    | (refine wpList_loadT ttR (.tmp 6) rfl rfl g rfl ⟨z, m, r - C + 1, h, i, s⟩ ?_ ?_; exact HO2.out.1)
                    | (refine wpList_storeT ttR rfl (.tmp 2) (.tmp 78) rfl w.heap.size rfl ⟨z, m, r - C + 1, h, i, s⟩ rfl Tm.zero ?_ ?_; exact HO2.out.2.1; intro W9 r9 o9; have HB9 := Lib.hid (HO2.out.2.2.trans o9.below)))
                  refine bodyPost_ret (v := .tuple #[tmV ⟨z, m, r - C + 1, h, i, s⟩, .bool true]) ?_ rfl ?_
                  · exact results_time_tmp ttR Tryd.resultsROf _ _ w.heap.size _ rfl r9
                  · refine ⟨.inl ⟨⟨z, m, r - C + 1, h, i, s⟩, ⟨⟨z0, z1⟩, ⟨m0, m1⟩, ?_, HF1.out, HF2.out, HF3.out⟩, ?_, rfl⟩, HB9.out⟩
                    · show 1 ≤ r - C + 1 ∧ r - C + 1 ≤ mdI z m
                      rw [HD.out]; omega
                    · show (aheadI z + cumI z m + (r - C + 1) - 1 - 719162) * 86400 + h * 3600 + i * 60 + s = n
                      rw [HA.out, HC.out, HPS.out, HF.out]
                      have := HRR.out
                      omega
                · go_wp2_with fail
                  refine (HD1.out _).mono ?_
                  rintro e w3 ⟨rfl, rfl⟩
                  go_wp2_with fail
                  refine (HD1.out _).mono ?_
                  rintro e w3 ⟨rfl, rfl⟩
                  go_wp2_with fail
                  refine ⟨⟨m + 1, by omega, ?_, by rw [HCS1.out]; omega, by rw [HCS1.out]; go_num, HO1.out⟩, by simp [intOf]; omega⟩
                  have p1 := HCS1.out
                  have p2 := H13.out
                  rcases (show m ≤ 11 ∨ m = 12 by omega) with h | rfl
                  · omega
                  · rw [show (12 : Int) + 1 = 13 from rfl] at p1
                    omega
            · go_wp2_with fail
              refine (HL1.out _).mono ?_
              rintro e w3 ⟨rfl, rfl⟩
              go_wp2_with fail
              refine (HL1.out _).mono ?_
              rintro e w3 ⟨rfl, rfl⟩
              go_wp2_with fail
              refine ⟨⟨z + 1, by omega, ?_, by rw [HS.out]; omega, by rw [HS.out]; go_num, HO1.out⟩, by simp [intOf]; omega⟩
              have := HLT.out (by rw [HS.out]; omega)
              omega
    · obtain ⟨hQ, hR⟩ := HT.out.1 hneg
      clear hneg hP hS HT
      go_enter Tryd.func8, Tryd.ntmps8
      go_wp2_with (first
        | (refine wpList_allocT ttR rfl rfl ?_; (first | (have isFirst := r1; clear isFirst; intro W3 r3 b3 z3; have l3 : w.heap.size < W.heap.size := (by omega); have HR13 := Lib.hid (r1.keep b3); have HB3 := Lib.hid (HB1.out.trans (b3.mono HB1.out.size)); clear b3 z3 r1) | (intro W r1 b1 z1; have HB1 := Lib.hid b1; clear b1)))
        | (refine wpList_storeT ttR rfl (.tmp 6) (.tmp 31) rfl W.heap.size rfl ⟨1970, 1, 1, S / 3600, S / 60 % 60, S % 60⟩ rfl Tm.zero ?_ ?_; exact r3; intro W4 r4 o4; have HO4 : Hid (OAt w W.heap.size ⟨1970, 1, 1, S / 3600, S / 60 % 60, S % 60⟩ W4) := Lib.hid ⟨r4, o4.row HR13.out (by omega), HB3.out.trans (o4.below.mono (by omega))⟩; clear r3 r4 o4))
      clear hQ hR n2 n3 z1 HB1 HR13 HB3
      have HF : Hid (S = S / 3600 * 3600 + S / 60 % 60 * 60 + S % 60) := Lib.hid (by omega)
      have HF1 : Hid (0 ≤ S / 3600 ∧ S / 3600 ≤ 23) := Lib.hid (by omega)
      have HF2 : Hid (0 ≤ S / 60 % 60 ∧ S / 60 % 60 ≤ 59) := Lib.hid (by omega)
      have HF3 : Hid (0 ≤ S % 60 ∧ S % 60 ≤ 59) := Lib.hid (by omega)
      go_simp
      generalize W.heap.size = g at *
      generalize S / 3600 = h at *
      generalize S / 60 % 60 = i at *
      generalize S % 60 = s at *
      obtain ⟨N, hN⟩ : ∃ N, P = N - 719162 := ⟨P + 719162, by omega⟩
      obtain rfl := hN
      have N0 : 0 ≤ N := by omega
      have N1 : N < 3652059 := by omega
      clear P0 P1
      go_loopw [4] (fun d wr => O1At w N h i s g d wr) (fun d _ => (0 - intOf d).toNat)
      case atStart => exact ⟨1970, by omega, by omega, by rw [H70.out], HO4.out⟩
      case round =>
        clear HO4
        obtain ⟨y, y0, y1, rfl, ho⟩ := hrel
        have HO := Lib.hid ho
        obtain ⟨c0, c1, c2, c3, c4, c5⟩ := TmAt.of ho.1
        have f0 := ho.1.free 0
        obtain ⟨a0, a1⟩ := HAR.out y y0 (by omega)
        clear ho
        rcases Int.lt_or_le (N - aheadI y) 0 with hlt | hge
        · have y2 : 1 < y := by
            rcases (show y = 1 ∨ 1 < y by omega) with rfl | h
            · rw [H1.out] at hlt; omega
            · exact h
          have HS := HAS.out (y - 1)
          rw [show y - 1 + 1 = y by omega] at HS
          have HS' := Lib.hid HS
          have HN := Lib.hid (HLN.out (y - 1))
          have hl : 365 ≤ lenI (y - 1) ∧ lenI (y - 1) ≤ 366 := by rcases HN.out with h | h <;> omega
          obtain ⟨l0, l1⟩ := hl
          have HO1 := Lib.hid (HO.out.setY l3 (y - 1))
          have d0 := TmAt.y (TmAt.of HO1.out.1)
          have HL1 := Lib.hid (fun w' => HL.out (y - 1) w')
          clear HS
          generalize aheadI y = A at *
          generalize hM : lenI (y - 1) = M at *
          have HM := Lib.hid hM
          clear hM
          go_wp2_with fail
          refine (HL1.out _).mono ?_
          rintro e w3 ⟨rfl, rfl⟩
          go_wp2_with fail
          refine ⟨⟨y - 1, by omega, by omega, by have := HS'.out; go_num, HO1.out⟩, by simp [intOf]; omega⟩
        · generalize hA : aheadI y = A at *
          have HA := Lib.hid hA
          clear hA c0 c1 c2 c3 c4 c5 f0
          go_wp2_with fail
          go_loopw [4] (fun d wr => O2At w N h i s g d wr) (fun d _ => (intOf d).toNat)
          case atStart => exact ⟨y, by omega, by omega, by rw [HA.out]; omega, by rw [HA.out], HO.out⟩
          case round =>
            clear HO HA a0 a1 hge y0 y1
            obtain ⟨z, z0, z1, hz, rfl, ho⟩ := hrel
            have HO := Lib.hid ho
            obtain ⟨c0, c1, c2, c3, c4, c5⟩ := TmAt.of ho.1
            have f0 := ho.1.free 0
            obtain ⟨a0, a1⟩ := HAR.out z z0 (by omega)
            have HS := Lib.hid (HAS.out z)
            have HNN := Lib.hid (HLN.out z)
            have HLT := Lib.hid (HALT.out (z + 1))
            have hl : 365 ≤ lenI z ∧ lenI z ≤ 366 := by rcases HNN.out with h | h <;> omega
            obtain ⟨l0, l1⟩ := hl
            have HO1 := Lib.hid (HO.out.setY l3 (z + 1))
            have HL1 := Lib.hid (fun w' => HL.out z w')
            have HC1 := Lib.hid (cum_one z)
            have HC13 := cum_last z
            clear ho
            generalize hA : aheadI z = A at *
            have HA := Lib.hid hA
            generalize hM : lenI z = M at *
            have HM := Lib.hid hM
            have H13 := Lib.hid HC13
            clear hM hA HC13
            rcases Int.lt_or_le (N - A) M with hlt | hge2
            · go_wp2_with fail
              refine (HL1.out _).mono ?_
              rintro e w3 ⟨rfl, rfl⟩
              go_wp2_with fail
              clear c0 c1 c2 c3 c4 c5 f0 HO1 HL1 HAS HAR HALT HLN HL H1 H70
              obtain ⟨r, hr⟩ : ∃ r, N - A = r := ⟨_, rfl⟩
              have HRR : Hid (N = A + r) := Lib.hid (by omega)
              have r0 : 0 ≤ r := by omega
              have r1 : r < M := by omega
              have r2 : r ≤ 366 := by omega
              rw [hr] at *
              clear hr hlt hz a0 a1
              go_loopw [4] (fun d wr => O3At w z r h i s g d wr) (fun d _ => (intOf d).toNat)
              case atStart => exact ⟨1, by omega, by omega, by rw [HC1.out]; omega, by rw [HC1.out]; simp, HO.out⟩
              case round =>
                clear HO
                obtain ⟨m, m0, m1, hm, rfl, ho⟩ := hrel
                have HO := Lib.hid ho
                obtain ⟨c0, c1, c2, c3, c4, c5⟩ := TmAt.of ho.1
                have f1 := ho.1.free 1
                have f2 := ho.1.free 2
                have HCS1 := Lib.hid (cum_succ z m ⟨m0, m1⟩)
                obtain ⟨M0, M1⟩ := md_range z m ⟨m0, m1⟩
                have C0 := cum_low z m (by omega)
                have HO1 := Lib.hid (HO.out.setM l3 (m + 1))
                have HD1 := Lib.hid (fun w' => HDY.out z m w')
                have d0 := TmAt.y (TmAt.of HO1.out.1)
                clear ho
                generalize hC : cumI z m = C at *
                have HC := Lib.hid hC
                generalize hD : mdI z m = D at *
                have HD := Lib.hid hD
                clear hC hD
                rcases Int.lt_or_le (r - C) D with hlt | hge3
                · have HO2 := Lib.hid (HO.out.setD l3 (r - C + 1))
                  go_wp2_with fail
                  refine (HD1.out _).mono ?_
                  rintro e w3 ⟨rfl, rfl⟩
                  go_wp2_with (first
                    | (refine wpList_loadT ttR (.tmp 6) rfl rfl g rfl ⟨z, m, r - C + 1, h, i, s⟩ ?_ ?_; exact HO2.out.1)
                    | (refine wpList_storeT ttR rfl (.tmp 2) (.tmp 78) rfl w.heap.size rfl ⟨z, m, r - C + 1, h, i, s⟩ rfl Tm.zero ?_ ?_; exact HO2.out.2.1; intro W9 r9 o9; have HB9 := Lib.hid (HO2.out.2.2.trans o9.below)))
                  refine bodyPost_ret (v := .tuple #[tmV ⟨z, m, r - C + 1, h, i, s⟩, .bool true]) ?_ rfl ?_
                  · exact results_time_tmp ttR Tryd.resultsROf _ _ w.heap.size _ rfl r9
                  · refine ⟨.inl ⟨⟨z, m, r - C + 1, h, i, s⟩, ⟨⟨z0, z1⟩, ⟨m0, m1⟩, ?_, HF1.out, HF2.out, HF3.out⟩, ?_, rfl⟩, HB9.out⟩
                    · show 1 ≤ r - C + 1 ∧ r - C + 1 ≤ mdI z m
                      rw [HD.out]; omega
                    · show (aheadI z + cumI z m + (r - C + 1) - 1 - 719162) * 86400 + h * 3600 + i * 60 + s = n
                      rw [HA.out, HC.out, HPS.out, HF.out]
                      have := HRR.out
                      omega
                · go_wp2_with fail
                  refine (HD1.out _).mono ?_
                  rintro e w3 ⟨rfl, rfl⟩
                  go_wp2_with fail
                  refine (HD1.out _).mono ?_
                  rintro e w3 ⟨rfl, rfl⟩
                  go_wp2_with fail
                  refine ⟨⟨m + 1, by omega, ?_, by rw [HCS1.out]; omega, by rw [HCS1.out]; go_num, HO1.out⟩, by simp [intOf]; omega⟩
                  have p1 := HCS1.out
                  have p2 := H13.out
                  rcases (show m ≤ 11 ∨ m = 12 by omega) with h | rfl
                  · omega
                  · rw [show (12 : Int) + 1 = 13 from rfl] at p1
                    omega
            · go_wp2_with fail
              refine (HL1.out _).mono ?_
              rintro e w3 ⟨rfl, rfl⟩
              go_wp2_with fail
              refine (HL1.out _).mono ?_
              rintro e w3 ⟨rfl, rfl⟩
              go_wp2_with fail
              refine ⟨⟨z + 1, by omega, ?_, by rw [HS.out]; omega, by rw [HS.out]; go_num, HO1.out⟩, by simp [intOf]; omega⟩
              have := HLT.out (by rw [HS.out]; omega)
              omega
  · have HN := Lib.hid hr
    have hor : n < -62135596800 ∨ 253402300799 < n := by omega
    clear hr
    rcases hor with hr | hr
    all_goals
      go_enter Tryd.func8, Tryd.ntmps8
      go_wp2_with (first
        | (refine wpList_allocT ttR rfl rfl ?_; intro W r1 b1 z1; have HB1 := Lib.hid b1; clear b1 z1)
        | (refine wpList_storeT ttR rfl (.tmp 2) (.tmp 13) rfl w.heap.size rfl Tm.zero rfl Tm.zero r1 ?_; intro W5 r5 o5; have HB5 := Lib.hid (HB1.out.trans o5.below)))
      refine bodyPost_ret (v := .tuple #[tmV Tm.zero, .bool false]) ?_ rfl ?_
      · exact results_time_tmp ttR Tryd.resultsROf _ _ w.heap.size _ rfl r5
      · exact ⟨.inr ⟨HN.out, rfl⟩, HB5.out⟩
end Clk
end Go.Proofs.YtfbgcjpakahocaaDoor

/- The day that has so many days ahead of it, by the program. Nothing that was there is written. Conditions: the listed tables lie where they were laid, and those that stand in each lemma. -/
import Derived.Test.YtfbgcjpakahocaaDoorClkCount
import Derived.Test.YtfbgcjpakahocaaDoorClkVar
namespace Go.Proofs.YtfbgcjpakahocaaDoor
open Go.RowKit
namespace Clk

/-- At a round's head: the year is not behind the one that is looked for. -/
def YrAt (n : Int) (W : World) (y : Value) (wr : World) : Prop := ∃ k : Int, 1 ≤ k ∧ k ≤ 9999 ∧ aheadI k ≤ n ∧ y = .int .i64 k ∧ wr = W
/-- At a round's head: so many days of the year are left behind k months. -/
def MoAt (y n : Int) (W : World) (d m : Value) (wr : World) : Prop :=
  ∃ k r : Int, 1 ≤ k ∧ k ≤ 12 ∧ 0 ≤ r ∧ r + cumI y k = n ∧ d = .int .i64 r ∧ m = .int .i64 k ∧ Below W.heap.size W wr
/-- The first moment of a day. -/
def dayT (y m d : Int) : Tm := ⟨y, m, d, 0, 0, 0⟩
theorem Tryd.resultsDate : Tryd.f30.results = #[.cell 2 23] := by kernel_rfl
set_option maxRecDepth 100000 in
set_option maxHeartbeats 1000000 in
theorem date_any (n : Int) (w : World) (ht : Tabs w) (h0 : 0 ≤ n) (h1 : n < 3652059) :
    Calls Tryd.prog 30 #[.int .i64 n] w fun e w' => ∃ y m d, e = .returned (tmV (dayT y m d)) ∧ (dayT y m d).Right ∧ (dayT y m d).days = n ∧ Below w.heap.size w w' := by
  have Ht := Lib.hid ht
  clear ht
  have HA := Lib.hid (fun (y : Int) (w' : World) => ahead_any y w')
  have HS := Lib.hid (fun (y : Int) => ahead_succ y)
  have HL := Lib.hid (fun (y : Int) => ahead_lt (y := y))
  have HI : Hid (aheadI (1 + n / 366) ≤ n) := Lib.hid (by have := ahead_high (1 + n / 366) (by omega); omega)
  have HR := Lib.hid (Row.new w 23 (tmC Tm.zero))
  unfold tmC Tm.zero at HR
  have HG := Lib.hid ((Below.refl w.heap.size w).alloc (Nat.le_refl _) (.cells #[.int .i64 0, .int .i64 0, .int .i64 0, .int .i64 0, .int .i64 0, .int .i64 0] 23))
  go_enter Tryd.func30, Tryd.ntmps30
  go_wp2_with fail
  generalize w.alloc (.cells #[.int .i64 0, .int .i64 0, .int .i64 0, .int .i64 0, .int .i64 0, .int .i64 0] 23) = W at *
  go_loopw [3] (fun y wr => YrAt n W y wr) (fun y _ => (10000 - intOf y).toNat)
  case atStart => exact ⟨1 + n / 366, by omega, by omega, HI.out, by go_num, rfl⟩
  case round =>
    obtain ⟨k, k0, k1, hk, rfl, rfl⟩ := hrel
    clear HI
    have HK := Lib.hid hk
    have l0 := ahead_low k k0
    have HS1 := Lib.hid (HS.out k)
    have HA1 := Lib.hid (HA.out (k + 1) wr (by omega) (by omega))
    have HA0 := Lib.hid (HA.out k wr (by omega) (by omega))
    have HLN := Lib.hid (len_cases k)
    have hl0 : 365 ≤ lenI k ∧ lenI k ≤ 366 := by rcases HLN.out with h | h <;> omega
    obtain ⟨l1, l2⟩ := hl0
    rw [HS1.out] at HA1
    have HL1 := Lib.hid (HL.out (y := k + 1))
    generalize hA : aheadI k = A at *
    generalize hN : lenI k = N at *
    rcases Int.lt_or_le n (A + N) with hlt | hge
    · have HC1 := Lib.hid (cum_one k)
      have HCS := Lib.hid (fun m => cum_succ k m)
      have HC13 := Lib.hid ((cum_last k).trans hN)
      have HCL := Lib.hid (fun m => cum_low k m)
      have HMD := Lib.hid (fun m => md_range k m)
      have HY := Lib.hid (show 1 ≤ k ∧ k ≤ 9999 from ⟨k0, k1⟩)
      have HD := Lib.hid (fun (m : Int) (w' : World) (hb : Below wr.heap.size wr w') => days_any k m w' ((Ht.out.keep HG.out).keep hb))
      have HAk := Lib.hid hA
      clear hN hA HLN HS HL HL1 HA HK HS1
      go_wp2_with fail
      refine HA1.out.mono ?_
      rintro e w2 ⟨rfl, rfl⟩
      go_wp2_with fail
      refine HA0.out.mono ?_
      rintro e w2 ⟨rfl, rfl⟩
      go_wp2_with fail
      clear HA0 HA1
      go_loopw [0, 4] (fun d m wr => MoAt k (n - A) w2 d m wr) (fun _ m _ => (13 - intOf m).toNat)
      case atStart => exact ⟨1, n - A, by omega, by omega, by omega, by rw [HC1.out]; omega, rfl, rfl, Below.refl _ _⟩
      case round =>
        obtain ⟨m, r, m0, m1, r0, hr, rfl, rfl, hb⟩ := hrel
        have HB := Lib.hid hb
        have HR1 := Lib.hid (HR.out.keep hb)
        have HCS1 := Lib.hid (HCS.out m ⟨m0, m1⟩)
        have HMD1 := HMD.out m ⟨m0, m1⟩
        have HCL1 := HCL.out m (by omega)
        have r1 : r ≤ 366 := by omega
        have HD1 := Lib.hid (HD.out m _ hb)
        have HHR := Lib.hid hr
        clear hb hr
        generalize hC : cumI k m = C at *
        generalize hM : mdI k m = M at *
        have HC := Lib.hid hC
        have HM := Lib.hid hM
        obtain ⟨M0, M1⟩ := HMD1
        clear hC hM
        go_wp2_with fail
        refine HD1.out.mono ?_
        rintro e w3 ⟨rfl, hb3⟩
        have HB3 := Lib.hid (HB.out.trans (hb3.mono HB.out.size))
        rcases Int.lt_or_le r M with hlt2 | hge2
        · have HR3 := Lib.hid (HR1.out.keep hb3)
          have p1 := HHR.out
          go_wp2_with (first
            | (refine wpList_storeT ttP rfl (.tmp 2) (.tmp 35) rfl w.heap.size rfl (dayT k m (r + 1)) rfl Tm.zero HR3.out ?_; intro w4 r4 o4; have HR4 := Lib.hid r4; have HO4 := Lib.hid o4; clear r4 o4))
          refine bodyPost_ret (v := tmV (dayT k m (r + 1))) ?_ rfl ?_
          · exact results_time ttP Tryd.resultsDate _ _ w.heap.size _ rfl HR4.out
          · refine ⟨k, m, r + 1, rfl, ⟨HY.out, ⟨m0, m1⟩, ?_, (show (0 : Int) ≤ 0 ∧ (0 : Int) ≤ 23 by decide), (show (0 : Int) ≤ 0 ∧ (0 : Int) ≤ 59 by decide), (show (0 : Int) ≤ 0 ∧ (0 : Int) ≤ 59 by decide)⟩, ?_, ?_⟩
            · show 1 ≤ r + 1 ∧ r + 1 ≤ mdI k m
              rw [HM.out]; omega
            · show aheadI k + cumI k m + (r + 1) - 1 = n
              rw [HAk.out, HC.out]; omega
            · exact (HG.out.trans (HB3.out.mono HG.out.size)).trans HO4.out.below
        · go_wp2_with fail
          refine (HD.out m _ HB3.out).mono ?_
          rw [HM.out]
          rintro e w4 ⟨rfl, hb4⟩
          go_wp2_with fail
          refine ⟨⟨m + 1, r - M, by omega, ?_, by omega, by rw [HCS1.out]; have := HHR.out; omega, rfl, rfl, HB3.out.trans (hb4.mono HB3.out.size)⟩, by simp [intOf]; omega⟩
          have p1 := HHR.out
          have p2 := HCS1.out
          have p3 := HC13.out
          rcases (show m ≤ 11 ∨ m = 12 by omega) with h | rfl
          · omega
          · rw [show (12 : Int) + 1 = 13 from rfl] at p2
            omega
    · go_wp2_with fail
      refine HA1.out.mono ?_
      rintro e w2 ⟨rfl, rfl⟩
      go_wp2_with fail
      refine ⟨⟨k + 1, by omega, ?_, by rw [HS1.out]; exact hge, rfl, rfl⟩, by simp [intOf]; omega⟩
      have := HL1.out (by rw [HS1.out]; omega)
      omega
end Clk
end Go.Proofs.YtfbgcjpakahocaaDoor

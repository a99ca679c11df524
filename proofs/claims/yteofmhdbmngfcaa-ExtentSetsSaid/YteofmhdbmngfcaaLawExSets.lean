/- ExtentSets: its walk, for any number of acts. No conditions but those that stand in each lemma. -/
import Derived.Test.YteofmhdbmngfcaaSpRemove
import Derived.Test.YteofmhdbmngfcaaSpSet
import Derived.Test.YteofmhdbmngfcaaSpBackNums
import Derived.Test.YteofmhdbmngfcaaMask
import Derived.Test.YteofmhdbmngfcaaTripIn
namespace Go.Proofs.Yteofmhdbmngfcaa
open Go.RowKit

/-- At a round's head. -/
def SetsAt (w : World) (acts : List T3) (l want i : Value) (wr : World) : Prop :=
  ∃ (k : Nat) (A2 : Option Addr) (n2 c2 : Nat) (L : List Sp) (W : BitVec 64), k ≤ acts.length ∧ i = .int .i64 (k : Int) ∧ l = .slice A2 n2 c2 ∧ want = .int .u64 (qv W) ∧ n2 = L.length ∧ n2 ≤ c2 ∧ c2 ≤ maxLen ∧ SpSrc wr A2 L ∧ Spans.Tells L W ∧ Below w.heap.size w wr
/-- At a round's head of the loop that sets bits. -/
def BitsAt (w : World) (a : Nat) (top : Int) (bs k : Value) (wr : World) : Prop :=
  ∃ j : Nat, ((a + j : Nat) : Int) ≤ top ∧ k = .int .i64 ((a + j : Nat) : Int) ∧ bs = .int .u64 (qv (Spans.spanV a j)) ∧ Below w.heap.size w wr
/-- At a round's head of the loop that counts. -/
def CountAt (w : World) (W : BitVec 64) (n k : Value) (wr : World) : Prop :=
  ∃ j : Nat, j ≤ 64 ∧ k = .int .i64 (j : Int) ∧ n = .int .i64 (Spans.cntV W j) ∧ Below w.heap.size w wr

theorem sets_end : Spans.addL [] (3, 9) = [(3, 9)] ∧ Spans.findL (Spans.addL [] (3, 9)) 6 = 3 := by decide +kernel

set_option maxRecDepth 100000 in
set_option maxHeartbeats 8000000 in
theorem sets_any (A : Option Addr) (n c : Nat) (acts : List T3) (w : World) (hn : n = acts.length) (hs : T3Src w A acts) (hnc : n ≤ c) (hc : c ≤ maxLen) :
    Calls Try.prog 4 #[.slice A n c] w fun e w' => e = .returned (.bool true) ∧ Below w.heap.size w w' := by
  have HN := Lib.hid hn
  have HS := Lib.hid hs
  unfold maxLen at hc
  have hn9 : n ≤ 9223372036854775807 := by omega
  have HN9 := Lib.hid hn9
  clear hn hs hnc hc
  go_enter Try.func4, Try.ntmps4
  go_wp2_with fail
  go_loopw [3, 4, 5] (fun l want i wr => SetsAt w acts l want i wr) (fun _ _ i _ => n - (intOf i).toNat)
  case atStart => exact ⟨0, none, 0, 0, [], 0#64, by omega, rfl, rfl, rfl, rfl, Nat.le_refl _, by unfold maxLen; omega, SpSrc.none_, Spans.Tells.nil, Below.refl _ _⟩
  case round =>
    obtain ⟨k, A2, n2, c2, L, W, hk, rfl, rfl, rfl, hn2, hnc2, hc2, hs2, ht, hb⟩ := hrel
    have HN2 := Lib.hid hn2
    have HS2 := Lib.hid hs2
    have HC2 := Lib.hid (And.intro hnc2 hc2)
    have HT := Lib.hid ht
    clear hn2 hs2 hnc2 hc2 ht
    by_cases hlt : k < acts.length
    · have hkn : k < n := by have := HN.out; omega
      by_cases h60 : k < 60
      · obtain ⟨b, o, rfl, hbl, hcell⟩ := HS.out (by omega)
        have c0 := (hb.cell (p := ⟨b, o + k * 3, none⟩) hbl).trans (hcell k hlt).1
        have c1 := (hb.cell (p := ⟨b, o + k * 3 + 1, none⟩) hbl).trans (hcell k hlt).2.1
        have c2' := (hb.cell (p := ⟨b, o + k * 3 + 2, none⟩) hbl).trans (hcell k hlt).2.2
        generalize (acts.getD k t3Z).1 = p at *
        generalize (acts.getD k t3Z).2.1 = q at *
        generalize (acts.getD k t3Z).2.2 = r at *
        have hq := mask_and q 63 (by omega)
        have hr := mask_and r 15 (by omega)
        rw [show ((63 : Nat) : Int) = 63 from rfl] at hq
        rw [show ((15 : Nat) : Int) = 15 from rfl] at hr
        obtain ⟨a, hqa⟩ : ∃ a : Nat, bits .and .i64 q 63 = (a : Int) := ⟨(bits .and .i64 q 63).toNat, by omega⟩
        obtain ⟨m, hrm⟩ : ∃ m : Nat, bits .and .i64 r 15 = (m : Int) := ⟨(bits .and .i64 r 15).toNat, by omega⟩
        rw [hqa] at hq
        rw [hrm] at hr
        have HCELL := Lib.hid hcell
        clear hcell
        have hsz := hb.size
        go_wp2_with fail
        go_quiet (fail)
        have hbd := below_drewN hb nq
        have hs3 : SpSrc (wr.drewN nq) A2 L := HS2.out
        have c3 : (wr.drewN nq).cell? ⟨b, o + k * 3, none⟩ = some (.int .i64 p) := c0
        have hb3 : b < (wr.drewN nq).heap.size := by have := hb.size; show b < wr.heap.size; omega
        generalize wr.drewN nq = wd at *
        have HB := Lib.hid hbd
        have HS3 := Lib.hid hs3
        have HC3 := Lib.hid c3
        clear hbd hs3 c3 hb hsz c0 c1 c2' HS2
        by_cases hm : (64 : Int) < (a : Int) + (1 + (m : Int))
        · skip
          obtain ⟨J, hJ⟩ : ∃ J : Nat, J = (64 - a) := ⟨_, rfl⟩
          have HJ := Lib.hid (show 0 < J ∧ a + J ≤ 64 ∧ ((a + J : Nat) : Int) = 64 by omega)
          have hsz : w.heap.size ≤ wd.heap.size := HB.out.size
          go_wp2_with fail
          have HR := Lib.hid (Row.new wd 24 #[.int .i64 (a : Int), .int .i64 64])
          have hbw : Below wd.heap.size wd (wd.alloc (.cells #[.int .i64 (a : Int), .int .i64 64] 24)) := (Below.refl _ _).alloc (Nat.le_refl _) _
          have HS4 := Lib.hid (HS3.out.keep hbw)
          have HC4 := Lib.hid ((hbw.cell (p := ⟨b, o + k * 3, none⟩) hb3).trans HC3.out)
          have hb4 := HB.out.trans (hbw.mono hsz)
          generalize wd.alloc (.cells #[.int .i64 (a : Int), .int .i64 64] 24) = w4 at *
          have hg : wd.heap.size < w4.heap.size := HR.out.lt
          have hb5 : b < w4.heap.size := by omega
          generalize wd.heap.size = g at *
          clear hbw HS3 HC3 HB
          go_loopw [9, 10] (fun bs kk wr => BitsAt w4 a 64 bs kk wr) (fun _ kk _ => 64 - (intOf kk).toNat)
          case atStart => exact ⟨0, by have := HJ.out; omega, by go_num, rfl, Below.refl _ _⟩
          case round =>
            obtain ⟨j, hj, rfl, rfl, hbj⟩ := hrel
            have hrow := HR.out.keep hbj
            have d0 : wr.cell? ⟨g, 0, none⟩ = some (.int .i64 (a : Int)) := hrow.cell (j := 0) rfl
            have d1 : wr.cell? ⟨g, 1, none⟩ = some (.int .i64 64) := hrow.cell (j := 1) rfl
            by_cases hjt : ((a + j : Nat) : Int) < 64
            · go_wp2_with fail
              go_roundw
              case rel => exact ⟨j + 1, by omega, by go_num, by rw [Spans.spanV, shl_qv, or_qv], hbj⟩
              case measure => simp [intOf]; omega
            · obtain rfl : J = j := by have := HJ.out; omega
              have HS5 := Lib.hid (HS4.out.keep hbj)
              have c5 := (hbj.cell (p := ⟨b, o + k * 3, none⟩) hb5).trans HC4.out
              have hb6 := hb4.trans (hbj.mono hb4.size)
              have hsz6 := hb6.size
              have HR6 := Lib.hid hrow
              clear HS4 HC4 hb4 hbj hrow HR hg hjt hj
              by_cases he : bits .and .i64 p 1 = 0
              · go_wp2_with fail
                refine (add_any _ n2 c2 L a 64 _ HN2.out HS5.out (by have := HT.out.len; have := HN2.out; omega) HC2.out.1 HC2.out.2).mono ?_
                rintro e w7 ⟨v, rfl, A7, n7, c7, rfl, hn7, ho7, hb7⟩
                have HT7 : Hid (Spans.Tells (Spans.addL L ((a : Int), 64)) (W ||| Spans.spanV a J)) := Lib.hid (by rw [← HJ.out.2.2]; exact Spans.Tells.add HT.out HJ.out.1 HJ.out.2.1)
                have HQ7 : Hid (bits .or .u64 (qv W) (qv (Spans.spanV a J)) = qv (W ||| Spans.spanV a J)) := Lib.hid (or_qv W (Spans.spanV a J))
                have HCAP7 := Lib.hid ho7.cap
                have HS7 := Lib.hid ho7.src
                have HN7 := Lib.hid hn7
                have HR7 := Lib.hid (HR6.out.keep hb7)
                have hb8 := hb6.trans (hb7.mono hb6.size)
                generalize Spans.addL L ((a : Int), 64) = L7 at *
                generalize (W ||| Spans.spanV a J) = W7 at *
                have HL7 : Hid (n7 ≤ 100000) := Lib.hid (by have := HT7.out.len; have := HN7.out; omega)
                have HM7 : Hid (Spans.meetsB L7 ((a : Int), 64) = !decide (bits .and .u64 (qv W7) (qv (Spans.spanV a J)) = 0)) := Lib.hid (by
                  rw [← HJ.out.2.2, HT7.out.meets HJ.out.1 HJ.out.2.1, and_qv]
                  congr 1
                  exact decide_eq_decide.2 ⟨fun h => by rw [h]; rfl, fun h => qv_inj (h.trans rfl)⟩)
                clear hn7 ho7 hb7 hb6 HR6 HS5
                have hq7 := HQ7.out
                generalize Spans.spanV a J = S at *
                generalize qv S = s at *
                have hsz8 := hb8.size
                have d0 : w7.cell? ⟨g, 0, none⟩ = some (.int .i64 (a : Int)) := HR7.out.cell (j := 0) rfl
                have d1 : w7.cell? ⟨g, 1, none⟩ = some (.int .i64 64) := HR7.out.cell (j := 1) rfl
                go_wp2_with fail
                refine (valid_any A7 n7 c7 L7 w7 HN7.out HS7.out HL7.out).mono ?_
                rintro e w8 ⟨rfl, hb9⟩
                rw [show Spans.validB L7 = true from (Spans.validB_iff L7).2 HT7.out.1]
                have HS8 := Lib.hid (HS7.out.keep hb9)
                have HR8 := Lib.hid (HR7.out.keep hb9)
                have hb10 := hb8.trans (hb9.mono hsz8)
                have hsz10 := hb10.size
                clear d0 d1 hb9 hb8 hsz8 HS7 HR7
                go_wp2_with fail
                refine (set_any A7 n7 c7 L7 w8 HN7.out HS8.out HL7.out).mono ?_
                rintro e w9 ⟨rfl, hb11⟩
                rw [HT7.out.set]
                have HS9 := Lib.hid (HS8.out.keep hb11)
                have HR9 := Lib.hid (HR8.out.keep hb11)
                have hb12 := hb10.trans (hb11.mono hsz10)
                have hsz12 := hb12.size
                have d0 : w9.cell? ⟨g, 0, none⟩ = some (.int .i64 (a : Int)) := HR9.out.cell (j := 0) rfl
                have d1 : w9.cell? ⟨g, 1, none⟩ = some (.int .i64 64) := HR9.out.cell (j := 1) rfl
                clear hb11 hb10 hsz10 HS8 HR8
                go_wp2_with fail
                refine (meets_any A7 n7 c7 L7 (a : Int) 64 w9 HN7.out HS9.out HL7.out).mono ?_
                rintro e w10 ⟨rfl, hb13⟩
                rw [HM7.out]
                obtain ⟨t, hand⟩ : ∃ t, bits .and .u64 (qv W7) s = t := ⟨_, rfl⟩
                rw [hand]
                have HS10 := Lib.hid (HS9.out.keep hb13)
                have hb14 := hb12.trans (hb13.mono hsz12)
                clear d0 d1 hb13 hb12 hsz12 HS9 HR9
                by_cases hz : t = 0
                · rw [decide_eq_true hz]
                  go_wp2_with fail
                  go_roundw
                  case rel => exact ⟨k + 1, A7, n7, c7, L7, W7, by omega, by go_num, rfl, rfl, HN7.out, by have := HCAP7.out.1; have := HN7.out; omega, HCAP7.out.2, HS10.out, HT7.out, hb14⟩
                  case measure => simp [intOf]; omega
                · rw [decide_eq_false hz]
                  have hz2 : (t != 0) = true := bne_iff_ne.2 hz
                  go_wp2_with fail
                  go_roundw
                  case rel => exact ⟨k + 1, A7, n7, c7, L7, W7, by omega, by go_num, rfl, rfl, HN7.out, by have := HCAP7.out.1; have := HN7.out; omega, HCAP7.out.2, HS10.out, HT7.out, hb14⟩
                  case measure => simp [intOf]; omega

              · go_wp2_with fail
                refine (remove_any _ n2 c2 L a 64 _ HN2.out HS5.out (by have := HT.out.len; have := HN2.out; omega)).mono ?_
                rintro e w7 ⟨v, rfl, A7, n7, c7, rfl, hn7, ho7, hb7⟩
                have HT7 : Hid (Spans.Tells (Spans.remL L ((a : Int), 64)) (W &&& ~~~(Spans.spanV a J))) := Lib.hid (by rw [← HJ.out.2.2]; exact Spans.Tells.remove HT.out HJ.out.1 HJ.out.2.1)
                have HQ7 : Hid (bits .andNot .u64 (qv W) (qv (Spans.spanV a J)) = qv (W &&& ~~~(Spans.spanV a J))) := Lib.hid (andNot_qv W (Spans.spanV a J))
                have HCAP7 := Lib.hid ho7.cap
                have HS7 := Lib.hid ho7.src
                have HN7 := Lib.hid hn7
                have HR7 := Lib.hid (HR6.out.keep hb7)
                have hb8 := hb6.trans (hb7.mono hb6.size)
                generalize Spans.remL L ((a : Int), 64) = L7 at *
                generalize (W &&& ~~~(Spans.spanV a J)) = W7 at *
                have HL7 : Hid (n7 ≤ 100000) := Lib.hid (by have := HT7.out.len; have := HN7.out; omega)
                have HM7 : Hid (Spans.meetsB L7 ((a : Int), 64) = !decide (bits .and .u64 (qv W7) (qv (Spans.spanV a J)) = 0)) := Lib.hid (by
                  rw [← HJ.out.2.2, HT7.out.meets HJ.out.1 HJ.out.2.1, and_qv]
                  congr 1
                  exact decide_eq_decide.2 ⟨fun h => by rw [h]; rfl, fun h => qv_inj (h.trans rfl)⟩)
                clear hn7 ho7 hb7 hb6 HR6 HS5
                have hq7 := HQ7.out
                generalize Spans.spanV a J = S at *
                generalize qv S = s at *
                have hsz8 := hb8.size
                have d0 : w7.cell? ⟨g, 0, none⟩ = some (.int .i64 (a : Int)) := HR7.out.cell (j := 0) rfl
                have d1 : w7.cell? ⟨g, 1, none⟩ = some (.int .i64 64) := HR7.out.cell (j := 1) rfl
                go_wp2_with fail
                refine (valid_any A7 n7 c7 L7 w7 HN7.out HS7.out HL7.out).mono ?_
                rintro e w8 ⟨rfl, hb9⟩
                rw [show Spans.validB L7 = true from (Spans.validB_iff L7).2 HT7.out.1]
                have HS8 := Lib.hid (HS7.out.keep hb9)
                have HR8 := Lib.hid (HR7.out.keep hb9)
                have hb10 := hb8.trans (hb9.mono hsz8)
                have hsz10 := hb10.size
                clear d0 d1 hb9 hb8 hsz8 HS7 HR7
                go_wp2_with fail
                refine (set_any A7 n7 c7 L7 w8 HN7.out HS8.out HL7.out).mono ?_
                rintro e w9 ⟨rfl, hb11⟩
                rw [HT7.out.set]
                have HS9 := Lib.hid (HS8.out.keep hb11)
                have HR9 := Lib.hid (HR8.out.keep hb11)
                have hb12 := hb10.trans (hb11.mono hsz10)
                have hsz12 := hb12.size
                have d0 : w9.cell? ⟨g, 0, none⟩ = some (.int .i64 (a : Int)) := HR9.out.cell (j := 0) rfl
                have d1 : w9.cell? ⟨g, 1, none⟩ = some (.int .i64 64) := HR9.out.cell (j := 1) rfl
                clear hb11 hb10 hsz10 HS8 HR8
                go_wp2_with fail
                refine (meets_any A7 n7 c7 L7 (a : Int) 64 w9 HN7.out HS9.out HL7.out).mono ?_
                rintro e w10 ⟨rfl, hb13⟩
                rw [HM7.out]
                obtain ⟨t, hand⟩ : ∃ t, bits .and .u64 (qv W7) s = t := ⟨_, rfl⟩
                rw [hand]
                have HS10 := Lib.hid (HS9.out.keep hb13)
                have hb14 := hb12.trans (hb13.mono hsz12)
                clear d0 d1 hb13 hb12 hsz12 HS9 HR9
                by_cases hz : t = 0
                · rw [decide_eq_true hz]
                  go_wp2_with fail
                  go_roundw
                  case rel => exact ⟨k + 1, A7, n7, c7, L7, W7, by omega, by go_num, rfl, rfl, HN7.out, by have := HCAP7.out.1; have := HN7.out; omega, HCAP7.out.2, HS10.out, HT7.out, hb14⟩
                  case measure => simp [intOf]; omega
                · rw [decide_eq_false hz]
                  have hz2 : (t != 0) = true := bne_iff_ne.2 hz
                  go_wp2_with fail
                  go_roundw
                  case rel => exact ⟨k + 1, A7, n7, c7, L7, W7, by omega, by go_num, rfl, rfl, HN7.out, by have := HCAP7.out.1; have := HN7.out; omega, HCAP7.out.2, HS10.out, HT7.out, hb14⟩
                  case measure => simp [intOf]; omega
        · skip
          obtain ⟨J, hJ⟩ : ∃ J : Nat, J = (1 + m) := ⟨_, rfl⟩
          have HJ := Lib.hid (show 0 < J ∧ a + J ≤ 64 ∧ ((a + J : Nat) : Int) = ((a : Int) + (1 + (m : Int))) by omega)
          have hsz : w.heap.size ≤ wd.heap.size := HB.out.size
          go_wp2_with fail
          have HR := Lib.hid (Row.new wd 24 #[.int .i64 (a : Int), .int .i64 ((a : Int) + (1 + (m : Int)))])
          have hbw : Below wd.heap.size wd (wd.alloc (.cells #[.int .i64 (a : Int), .int .i64 ((a : Int) + (1 + (m : Int)))] 24)) := (Below.refl _ _).alloc (Nat.le_refl _) _
          have HS4 := Lib.hid (HS3.out.keep hbw)
          have HC4 := Lib.hid ((hbw.cell (p := ⟨b, o + k * 3, none⟩) hb3).trans HC3.out)
          have hb4 := HB.out.trans (hbw.mono hsz)
          generalize wd.alloc (.cells #[.int .i64 (a : Int), .int .i64 ((a : Int) + (1 + (m : Int)))] 24) = w4 at *
          have hg : wd.heap.size < w4.heap.size := HR.out.lt
          have hb5 : b < w4.heap.size := by omega
          generalize wd.heap.size = g at *
          clear hbw HS3 HC3 HB
          go_loopw [9, 10] (fun bs kk wr => BitsAt w4 a ((a : Int) + (1 + (m : Int))) bs kk wr) (fun _ kk _ => 64 - (intOf kk).toNat)
          case atStart => exact ⟨0, by have := HJ.out; omega, by go_num, rfl, Below.refl _ _⟩
          case round =>
            obtain ⟨j, hj, rfl, rfl, hbj⟩ := hrel
            have hrow := HR.out.keep hbj
            have d0 : wr.cell? ⟨g, 0, none⟩ = some (.int .i64 (a : Int)) := hrow.cell (j := 0) rfl
            have d1 : wr.cell? ⟨g, 1, none⟩ = some (.int .i64 ((a : Int) + (1 + (m : Int)))) := hrow.cell (j := 1) rfl
            by_cases hjt : ((a + j : Nat) : Int) < ((a : Int) + (1 + (m : Int)))
            · go_wp2_with fail
              go_roundw
              case rel => exact ⟨j + 1, by omega, by go_num, by rw [Spans.spanV, shl_qv, or_qv], hbj⟩
              case measure => simp [intOf]; omega
            · obtain rfl : J = j := by have := HJ.out; omega
              have HS5 := Lib.hid (HS4.out.keep hbj)
              have c5 := (hbj.cell (p := ⟨b, o + k * 3, none⟩) hb5).trans HC4.out
              have hb6 := hb4.trans (hbj.mono hb4.size)
              have hsz6 := hb6.size
              have HR6 := Lib.hid hrow
              clear HS4 HC4 hb4 hbj hrow HR hg hjt hj
              by_cases he : bits .and .i64 p 1 = 0
              · go_wp2_with fail
                refine (add_any _ n2 c2 L a ((a : Int) + (1 + (m : Int))) _ HN2.out HS5.out (by have := HT.out.len; have := HN2.out; omega) HC2.out.1 HC2.out.2).mono ?_
                rintro e w7 ⟨v, rfl, A7, n7, c7, rfl, hn7, ho7, hb7⟩
                have HT7 : Hid (Spans.Tells (Spans.addL L ((a : Int), ((a : Int) + (1 + (m : Int))))) (W ||| Spans.spanV a J)) := Lib.hid (by rw [← HJ.out.2.2]; exact Spans.Tells.add HT.out HJ.out.1 HJ.out.2.1)
                have HQ7 : Hid (bits .or .u64 (qv W) (qv (Spans.spanV a J)) = qv (W ||| Spans.spanV a J)) := Lib.hid (or_qv W (Spans.spanV a J))
                have HCAP7 := Lib.hid ho7.cap
                have HS7 := Lib.hid ho7.src
                have HN7 := Lib.hid hn7
                have HR7 := Lib.hid (HR6.out.keep hb7)
                have hb8 := hb6.trans (hb7.mono hb6.size)
                generalize Spans.addL L ((a : Int), ((a : Int) + (1 + (m : Int)))) = L7 at *
                generalize (W ||| Spans.spanV a J) = W7 at *
                have HL7 : Hid (n7 ≤ 100000) := Lib.hid (by have := HT7.out.len; have := HN7.out; omega)
                have HM7 : Hid (Spans.meetsB L7 ((a : Int), ((a : Int) + (1 + (m : Int)))) = !decide (bits .and .u64 (qv W7) (qv (Spans.spanV a J)) = 0)) := Lib.hid (by
                  rw [← HJ.out.2.2, HT7.out.meets HJ.out.1 HJ.out.2.1, and_qv]
                  congr 1
                  exact decide_eq_decide.2 ⟨fun h => by rw [h]; rfl, fun h => qv_inj (h.trans rfl)⟩)
                clear hn7 ho7 hb7 hb6 HR6 HS5
                have hq7 := HQ7.out
                generalize Spans.spanV a J = S at *
                generalize qv S = s at *
                have hsz8 := hb8.size
                have d0 : w7.cell? ⟨g, 0, none⟩ = some (.int .i64 (a : Int)) := HR7.out.cell (j := 0) rfl
                have d1 : w7.cell? ⟨g, 1, none⟩ = some (.int .i64 ((a : Int) + (1 + (m : Int)))) := HR7.out.cell (j := 1) rfl
                go_wp2_with fail
                refine (valid_any A7 n7 c7 L7 w7 HN7.out HS7.out HL7.out).mono ?_
                rintro e w8 ⟨rfl, hb9⟩
                rw [show Spans.validB L7 = true from (Spans.validB_iff L7).2 HT7.out.1]
                have HS8 := Lib.hid (HS7.out.keep hb9)
                have HR8 := Lib.hid (HR7.out.keep hb9)
                have hb10 := hb8.trans (hb9.mono hsz8)
                have hsz10 := hb10.size
                clear d0 d1 hb9 hb8 hsz8 HS7 HR7
                go_wp2_with fail
                refine (set_any A7 n7 c7 L7 w8 HN7.out HS8.out HL7.out).mono ?_
                rintro e w9 ⟨rfl, hb11⟩
                rw [HT7.out.set]
                have HS9 := Lib.hid (HS8.out.keep hb11)
                have HR9 := Lib.hid (HR8.out.keep hb11)
                have hb12 := hb10.trans (hb11.mono hsz10)
                have hsz12 := hb12.size
                have d0 : w9.cell? ⟨g, 0, none⟩ = some (.int .i64 (a : Int)) := HR9.out.cell (j := 0) rfl
                have d1 : w9.cell? ⟨g, 1, none⟩ = some (.int .i64 ((a : Int) + (1 + (m : Int)))) := HR9.out.cell (j := 1) rfl
                clear hb11 hb10 hsz10 HS8 HR8
                go_wp2_with fail
                refine (meets_any A7 n7 c7 L7 (a : Int) ((a : Int) + (1 + (m : Int))) w9 HN7.out HS9.out HL7.out).mono ?_
                rintro e w10 ⟨rfl, hb13⟩
                rw [HM7.out]
                obtain ⟨t, hand⟩ : ∃ t, bits .and .u64 (qv W7) s = t := ⟨_, rfl⟩
                rw [hand]
                have HS10 := Lib.hid (HS9.out.keep hb13)
                have hb14 := hb12.trans (hb13.mono hsz12)
                clear d0 d1 hb13 hb12 hsz12 HS9 HR9
                by_cases hz : t = 0
                · rw [decide_eq_true hz]
                  go_wp2_with fail
                  go_roundw
                  case rel => exact ⟨k + 1, A7, n7, c7, L7, W7, by omega, by go_num, rfl, rfl, HN7.out, by have := HCAP7.out.1; have := HN7.out; omega, HCAP7.out.2, HS10.out, HT7.out, hb14⟩
                  case measure => simp [intOf]; omega
                · rw [decide_eq_false hz]
                  have hz2 : (t != 0) = true := bne_iff_ne.2 hz
                  go_wp2_with fail
                  go_roundw
                  case rel => exact ⟨k + 1, A7, n7, c7, L7, W7, by omega, by go_num, rfl, rfl, HN7.out, by have := HCAP7.out.1; have := HN7.out; omega, HCAP7.out.2, HS10.out, HT7.out, hb14⟩
                  case measure => simp [intOf]; omega

              · go_wp2_with fail
                refine (remove_any _ n2 c2 L a ((a : Int) + (1 + (m : Int))) _ HN2.out HS5.out (by have := HT.out.len; have := HN2.out; omega)).mono ?_
                rintro e w7 ⟨v, rfl, A7, n7, c7, rfl, hn7, ho7, hb7⟩
                have HT7 : Hid (Spans.Tells (Spans.remL L ((a : Int), ((a : Int) + (1 + (m : Int))))) (W &&& ~~~(Spans.spanV a J))) := Lib.hid (by rw [← HJ.out.2.2]; exact Spans.Tells.remove HT.out HJ.out.1 HJ.out.2.1)
                have HQ7 : Hid (bits .andNot .u64 (qv W) (qv (Spans.spanV a J)) = qv (W &&& ~~~(Spans.spanV a J))) := Lib.hid (andNot_qv W (Spans.spanV a J))
                have HCAP7 := Lib.hid ho7.cap
                have HS7 := Lib.hid ho7.src
                have HN7 := Lib.hid hn7
                have HR7 := Lib.hid (HR6.out.keep hb7)
                have hb8 := hb6.trans (hb7.mono hb6.size)
                generalize Spans.remL L ((a : Int), ((a : Int) + (1 + (m : Int)))) = L7 at *
                generalize (W &&& ~~~(Spans.spanV a J)) = W7 at *
                have HL7 : Hid (n7 ≤ 100000) := Lib.hid (by have := HT7.out.len; have := HN7.out; omega)
                have HM7 : Hid (Spans.meetsB L7 ((a : Int), ((a : Int) + (1 + (m : Int)))) = !decide (bits .and .u64 (qv W7) (qv (Spans.spanV a J)) = 0)) := Lib.hid (by
                  rw [← HJ.out.2.2, HT7.out.meets HJ.out.1 HJ.out.2.1, and_qv]
                  congr 1
                  exact decide_eq_decide.2 ⟨fun h => by rw [h]; rfl, fun h => qv_inj (h.trans rfl)⟩)
                clear hn7 ho7 hb7 hb6 HR6 HS5
                have hq7 := HQ7.out
                generalize Spans.spanV a J = S at *
                generalize qv S = s at *
                have hsz8 := hb8.size
                have d0 : w7.cell? ⟨g, 0, none⟩ = some (.int .i64 (a : Int)) := HR7.out.cell (j := 0) rfl
                have d1 : w7.cell? ⟨g, 1, none⟩ = some (.int .i64 ((a : Int) + (1 + (m : Int)))) := HR7.out.cell (j := 1) rfl
                go_wp2_with fail
                refine (valid_any A7 n7 c7 L7 w7 HN7.out HS7.out HL7.out).mono ?_
                rintro e w8 ⟨rfl, hb9⟩
                rw [show Spans.validB L7 = true from (Spans.validB_iff L7).2 HT7.out.1]
                have HS8 := Lib.hid (HS7.out.keep hb9)
                have HR8 := Lib.hid (HR7.out.keep hb9)
                have hb10 := hb8.trans (hb9.mono hsz8)
                have hsz10 := hb10.size
                clear d0 d1 hb9 hb8 hsz8 HS7 HR7
                go_wp2_with fail
                refine (set_any A7 n7 c7 L7 w8 HN7.out HS8.out HL7.out).mono ?_
                rintro e w9 ⟨rfl, hb11⟩
                rw [HT7.out.set]
                have HS9 := Lib.hid (HS8.out.keep hb11)
                have HR9 := Lib.hid (HR8.out.keep hb11)
                have hb12 := hb10.trans (hb11.mono hsz10)
                have hsz12 := hb12.size
                have d0 : w9.cell? ⟨g, 0, none⟩ = some (.int .i64 (a : Int)) := HR9.out.cell (j := 0) rfl
                have d1 : w9.cell? ⟨g, 1, none⟩ = some (.int .i64 ((a : Int) + (1 + (m : Int)))) := HR9.out.cell (j := 1) rfl
                clear hb11 hb10 hsz10 HS8 HR8
                go_wp2_with fail
                refine (meets_any A7 n7 c7 L7 (a : Int) ((a : Int) + (1 + (m : Int))) w9 HN7.out HS9.out HL7.out).mono ?_
                rintro e w10 ⟨rfl, hb13⟩
                rw [HM7.out]
                obtain ⟨t, hand⟩ : ∃ t, bits .and .u64 (qv W7) s = t := ⟨_, rfl⟩
                rw [hand]
                have HS10 := Lib.hid (HS9.out.keep hb13)
                have hb14 := hb12.trans (hb13.mono hsz12)
                clear d0 d1 hb13 hb12 hsz12 HS9 HR9
                by_cases hz : t = 0
                · rw [decide_eq_true hz]
                  go_wp2_with fail
                  go_roundw
                  case rel => exact ⟨k + 1, A7, n7, c7, L7, W7, by omega, by go_num, rfl, rfl, HN7.out, by have := HCAP7.out.1; have := HN7.out; omega, HCAP7.out.2, HS10.out, HT7.out, hb14⟩
                  case measure => simp [intOf]; omega
                · rw [decide_eq_false hz]
                  have hz2 : (t != 0) = true := bne_iff_ne.2 hz
                  go_wp2_with fail
                  go_roundw
                  case rel => exact ⟨k + 1, A7, n7, c7, L7, W7, by omega, by go_num, rfl, rfl, HN7.out, by have := HCAP7.out.1; have := HN7.out; omega, HCAP7.out.2, HS10.out, HT7.out, hb14⟩
                  case measure => simp [intOf]; omega
      · skip
        have HC4 : Hid (Spans.totalL L = Spans.cntV W 64) := Lib.hid HT.out.total
        have HL4 : Hid (n2 ≤ 100000) := Lib.hid (by have := HT.out.len; have := HN2.out; omega)
        have hsz := hb.size
        go_wp2_with fail
        go_loopw [11, 12] (fun nn kk wx => CountAt wr W nn kk wx) (fun _ kk _ => 64 - (intOf kk).toNat)
        case atStart => exact ⟨0, by omega, rfl, rfl, Below.refl _ _⟩
        case round =>
          obtain ⟨j, hj, rfl, rfl, hbj⟩ := hrel
          by_cases hj64 : j < 64
          · obtain ⟨v0, v1⟩ := Spans.cntV_bounds W j
            have hsh := shr_one_qv W j
            have HX : Hid (Spans.cntV W (j + 1) = Spans.cntV W j + if W.getLsbD j then 1 else 0) := Lib.hid rfl
            generalize Spans.cntV W j = cw at *
            by_cases hbit : W.getLsbD j = true
            · rw [if_pos hbit] at hsh
              go_wp2_with fail
              go_roundw
              case rel => exact ⟨j + 1, by omega, by go_num, by rw [HX.out, if_pos hbit], hbj⟩
              case measure => simp [intOf]; omega
            · rw [if_neg hbit] at hsh
              go_wp2_with fail
              go_roundw
              case rel => exact ⟨j + 1, by omega, by go_num, by rw [HX.out, if_neg hbit, Int.add_zero], hbj⟩
              case measure => simp [intOf]; omega
          · obtain rfl : j = 64 := by omega
            have HS3 := Lib.hid (HS2.out.keep hbj)
            have hb3 := hb.trans (hbj.mono hsz)
            have hsz3 := hb3.size
            clear hbj HS2
            go_wp2_with fail
            refine (total_any A2 n2 c2 L wr HN2.out HS3.out HL4.out).mono ?_
            rintro e w5 ⟨rfl, hb5⟩
            rw [HC4.out]
            have hb6 := hb3.trans (hb5.mono hsz3)
            have hsz6 := hb6.size
            clear hb5 hb3 hsz3
            generalize Spans.cntV W 64 = tt at *
            go_wp2_with fail
            refine (add_any none 0 0 [] 3 9 w5 rfl SpSrc.none_ (by omega) (Nat.le_refl _) (by unfold maxLen; omega)).mono ?_
            rintro e w7 ⟨v, rfl, A7, n7, c7, rfl, hn7, ho7, hb7⟩
            have HS7 := Lib.hid ho7.src
            have HN7 := Lib.hid hn7
            have hb8 := hb6.trans (hb7.mono hsz6)
            have hsz8 := hb8.size
            clear ho7 hn7 hb7 hb6 hsz6
            go_wp2_with fail
            refine (find_any A7 n7 c7 (Spans.addL [] (3, 9)) 6 w7 HN7.out HS7.out (by have := HN7.out; rw [sets_end.1] at this; simp at this; omega)).mono ?_
            rintro e w9 ⟨rfl, hb9⟩
            rw [sets_end.2]
            have hb10 := hb8.trans (hb9.mono hsz8)
            clear hb9 hb8 hsz8
            go_wp2_with fail
            go_ret
            exact ⟨rfl, hb10⟩
    · have hkn : ¬ k < n := by have := HN.out; omega
      have HC4 : Hid (Spans.totalL L = Spans.cntV W 64) := Lib.hid HT.out.total
      have HL4 : Hid (n2 ≤ 100000) := Lib.hid (by have := HT.out.len; have := HN2.out; omega)
      have hsz := hb.size
      go_wp2_with fail
      go_loopw [11, 12] (fun nn kk wx => CountAt wr W nn kk wx) (fun _ kk _ => 64 - (intOf kk).toNat)
      case atStart => exact ⟨0, by omega, rfl, rfl, Below.refl _ _⟩
      case round =>
        obtain ⟨j, hj, rfl, rfl, hbj⟩ := hrel
        by_cases hj64 : j < 64
        · obtain ⟨v0, v1⟩ := Spans.cntV_bounds W j
          have hsh := shr_one_qv W j
          have HX : Hid (Spans.cntV W (j + 1) = Spans.cntV W j + if W.getLsbD j then 1 else 0) := Lib.hid rfl
          generalize Spans.cntV W j = cw at *
          by_cases hbit : W.getLsbD j = true
          · rw [if_pos hbit] at hsh
            go_wp2_with fail
            go_roundw
            case rel => exact ⟨j + 1, by omega, by go_num, by rw [HX.out, if_pos hbit], hbj⟩
            case measure => simp [intOf]; omega
          · rw [if_neg hbit] at hsh
            go_wp2_with fail
            go_roundw
            case rel => exact ⟨j + 1, by omega, by go_num, by rw [HX.out, if_neg hbit, Int.add_zero], hbj⟩
            case measure => simp [intOf]; omega
        · obtain rfl : j = 64 := by omega
          have HS3 := Lib.hid (HS2.out.keep hbj)
          have hb3 := hb.trans (hbj.mono hsz)
          have hsz3 := hb3.size
          clear hbj HS2
          go_wp2_with fail
          refine (total_any A2 n2 c2 L wr HN2.out HS3.out HL4.out).mono ?_
          rintro e w5 ⟨rfl, hb5⟩
          rw [HC4.out]
          have hb6 := hb3.trans (hb5.mono hsz3)
          have hsz6 := hb6.size
          clear hb5 hb3 hsz3
          generalize Spans.cntV W 64 = tt at *
          go_wp2_with fail
          refine (add_any none 0 0 [] 3 9 w5 rfl SpSrc.none_ (by omega) (Nat.le_refl _) (by unfold maxLen; omega)).mono ?_
          rintro e w7 ⟨v, rfl, A7, n7, c7, rfl, hn7, ho7, hb7⟩
          have HS7 := Lib.hid ho7.src
          have HN7 := Lib.hid hn7
          have hb8 := hb6.trans (hb7.mono hsz6)
          have hsz8 := hb8.size
          clear ho7 hn7 hb7 hb6 hsz6
          go_wp2_with fail
          refine (find_any A7 n7 c7 (Spans.addL [] (3, 9)) 6 w7 HN7.out HS7.out (by have := HN7.out; rw [sets_end.1] at this; simp at this; omega)).mono ?_
          rintro e w9 ⟨rfl, hb9⟩
          rw [sets_end.2]
          have hb10 := hb8.trans (hb9.mono hsz8)
          clear hb9 hb8 hsz8
          go_wp2_with fail
          go_ret
          exact ⟨rfl, hb10⟩
end Go.Proofs.Yteofmhdbmngfcaa

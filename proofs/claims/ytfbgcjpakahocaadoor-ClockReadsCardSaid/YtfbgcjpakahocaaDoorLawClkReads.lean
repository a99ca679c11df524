/- The walk of ClockReads: any text is the document's time, or none, in each of three forms. Conditions: the listed tables lie where they were laid. -/
import Derived.Test.YtfbgcjpakahocaaDoorClkEq
import Derived.Test.YtfbgcjpakahocaaDoorClkReadIso
import Derived.Test.YtfbgcjpakahocaaDoorClkReadShort
import Derived.Test.YtfbgcjpakahocaaDoorClkReadWeb
import Derived.Test.YtfbgcjpakahocaaDoorClkRefReadIso
import Derived.Test.YtfbgcjpakahocaaDoorClkRefReadShort
import Derived.Test.YtfbgcjpakahocaaDoorClkRefReadWeb
namespace Go.Proofs.YtfbgcjpakahocaaDoor
open Go.RowKit
namespace Clk

def novT : Tm := ⟨1994, 11, 6, 8, 49, 37⟩
def novS : ByteArray := ⟨#[83, 117, 110, 44, 32, 48, 54, 32, 78, 111, 118, 32, 49, 57, 57, 52, 32, 48, 56, 58, 52, 57, 58, 51, 55, 32, 71, 77, 84]⟩
theorem nov_right : novT.Right := by decide
theorem nov_web : webW novT = numsOf novS := by decide
set_option maxRecDepth 100000 in
set_option maxHeartbeats 8000000 in
theorem reads_text (s0 s : ByteArray) (w : World) (ht : Tabs w) (hs : (200 < s0.size ∧ s0.extract 0 200 = s) ∨ (s0.size ≤ 200 ∧ s0 = s)) (h0 : s0.size ≤ 1000000000000000000) :
    Calls Tryd.prog 4 #[.string s0] w fun e w' => e = .returned (.bool true) ∧ Below w.heap.size w w' := by
  have Ht := Lib.hid ht
  obtain ⟨t1, b1, A1⟩ := ReadTo.all webInj (numsOf s)
  obtain ⟨t2, b2, A2⟩ := ReadTo.all isoInj (numsOf s)
  obtain ⟨t3, b3, A3⟩ := ReadTo.all shortInj (numsOf s)
  have PW := Lib.hid (fun (w' : World) (h : Tabs w') => (readWeb_any s w' h).mono fun e w2 hh => And.intro (A1 e hh.1) hh.2)
  have RW := Lib.hid (fun (w' : World) => (rreadWeb_any s w').mono fun e w2 hh => And.intro (A1 e hh.1) hh.2)
  have PI := Lib.hid (fun (w' : World) (h : Tabs w') => (readIso_any s w' h).mono fun e w2 hh => And.intro (A2 e hh.1) hh.2)
  have RI := Lib.hid (fun (w' : World) => (rreadIso_any s w').mono fun e w2 hh => And.intro (A2 e hh.1) hh.2)
  have PS := Lib.hid (fun (w' : World) (h : Tabs w') => (readShort_any s w' h).mono fun e w2 hh => And.intro (A3 e hh.1) hh.2)
  have RS := Lib.hid (fun (w' : World) => (rreadShort_any s w').mono fun e w2 hh => And.intro (A3 e hh.1) hh.2)
  have PN := Lib.hid (fun (w' : World) (h : Tabs w') => (readWeb_any novS w' h).mono fun e w2 hh => And.intro (ReadTo.here webInj nov_right nov_web hh.1) hh.2)
  have HB := Lib.hid (Below.refl w.heap.size w)
  unfold novS at PN
  clear ht A1 A2 A3
  rcases hs with ⟨hs, hsx⟩ | ⟨hs, rfl⟩
  · go_enter Tryd.func4, Tryd.ntmps4
    go_wp2_with fail
    clear hs hsx
    refine (PW.out _ (Ht.out.keep HB.out)).mono ?_
    rintro e w1 ⟨rfl, hb1⟩
    have HBa := Lib.hid (HB.out.trans (hb1.mono HB.out.size))
    clear HB hb1
    unfold tmV
    go_wp2_with (first
      | (refine wpList_allocT ttP rfl rfl ?_; intro W1 rn bn zn; have HBN := Lib.hid bn; clear bn zn)
      | (refine wpList_storeT ttP rfl (.tmp 3) (.tmp 25) rfl w1.heap.size rfl t1 rfl Tm.zero ?_ ?_; exact rn; intro V1 rs1 on; have HR1 := Lib.hid rs1; have HB := Lib.hid (past_below HBa.out HBN.out on); clear rn rs1 on HBN HBa))
    refine (RW.out _).mono ?_
    rintro e w2 ⟨rfl, hb2⟩
    have HR1a := Lib.hid (HR1.out.keep hb2)
    clear HR1
    have HBa := Lib.hid (HB.out.trans (hb2.mono HB.out.size))
    clear HB hb2
    unfold tmV
    go_wp2_with (first
      | (refine wpList_allocT ttR rfl rfl ?_; intro W2 rn bn zn; have HBN := Lib.hid bn; clear bn zn)
      | (refine wpList_storeT ttR rfl (.tmp 5) (.tmp 30) rfl w2.heap.size rfl t1 rfl Tm.zero ?_ ?_; exact rn; intro V2 rs2 on; have HR2 := Lib.hid rs2; have HR1 := Lib.hid (past_row HR1a.out HBN.out on); clear HR1a; have HB := Lib.hid (past_below HBa.out HBN.out on); clear rn rs2 on HBN HBa))
    refine (PI.out _ (Ht.out.keep HB.out)).mono ?_
    rintro e w3 ⟨rfl, hb3⟩
    have HR1a := Lib.hid (HR1.out.keep hb3)
    clear HR1
    have HR2a := Lib.hid (HR2.out.keep hb3)
    clear HR2
    have HBa := Lib.hid (HB.out.trans (hb3.mono HB.out.size))
    clear HB hb3
    unfold tmV
    go_wp2_with (first
      | (refine wpList_allocT ttP rfl rfl ?_; intro W3 rn bn zn; have HBN := Lib.hid bn; clear bn zn)
      | (refine wpList_storeT ttP rfl (.tmp 7) (.tmp 35) rfl w3.heap.size rfl t2 rfl Tm.zero ?_ ?_; exact rn; intro V3 rs3 on; have HR3 := Lib.hid rs3; have HR1 := Lib.hid (past_row HR1a.out HBN.out on); clear HR1a; have HR2 := Lib.hid (past_row HR2a.out HBN.out on); clear HR2a; have HB := Lib.hid (past_below HBa.out HBN.out on); clear rn rs3 on HBN HBa))
    refine (RI.out _).mono ?_
    rintro e w4 ⟨rfl, hb4⟩
    have HR1a := Lib.hid (HR1.out.keep hb4)
    clear HR1
    have HR2a := Lib.hid (HR2.out.keep hb4)
    clear HR2
    have HR3a := Lib.hid (HR3.out.keep hb4)
    clear HR3
    have HBa := Lib.hid (HB.out.trans (hb4.mono HB.out.size))
    clear HB hb4
    unfold tmV
    go_wp2_with (first
      | (refine wpList_allocT ttR rfl rfl ?_; intro W4 rn bn zn; have HBN := Lib.hid bn; clear bn zn)
      | (refine wpList_storeT ttR rfl (.tmp 9) (.tmp 40) rfl w4.heap.size rfl t2 rfl Tm.zero ?_ ?_; exact rn; intro V4 rs4 on; have HR4 := Lib.hid rs4; have HR1 := Lib.hid (past_row HR1a.out HBN.out on); clear HR1a; have HR2 := Lib.hid (past_row HR2a.out HBN.out on); clear HR2a; have HR3 := Lib.hid (past_row HR3a.out HBN.out on); clear HR3a; have HB := Lib.hid (past_below HBa.out HBN.out on); clear rn rs4 on HBN HBa))
    refine (PS.out _ (Ht.out.keep HB.out)).mono ?_
    rintro e w5 ⟨rfl, hb5⟩
    have HR1a := Lib.hid (HR1.out.keep hb5)
    clear HR1
    have HR2a := Lib.hid (HR2.out.keep hb5)
    clear HR2
    have HR3a := Lib.hid (HR3.out.keep hb5)
    clear HR3
    have HR4a := Lib.hid (HR4.out.keep hb5)
    clear HR4
    have HBa := Lib.hid (HB.out.trans (hb5.mono HB.out.size))
    clear HB hb5
    unfold tmV
    go_wp2_with (first
      | (refine wpList_allocT ttP rfl rfl ?_; intro W5 rn bn zn; have HBN := Lib.hid bn; clear bn zn)
      | (refine wpList_storeT ttP rfl (.tmp 11) (.tmp 45) rfl w5.heap.size rfl t3 rfl Tm.zero ?_ ?_; exact rn; intro V5 rs5 on; have HR5 := Lib.hid rs5; have HR1 := Lib.hid (past_row HR1a.out HBN.out on); clear HR1a; have HR2 := Lib.hid (past_row HR2a.out HBN.out on); clear HR2a; have HR3 := Lib.hid (past_row HR3a.out HBN.out on); clear HR3a; have HR4 := Lib.hid (past_row HR4a.out HBN.out on); clear HR4a; have HB := Lib.hid (past_below HBa.out HBN.out on); clear rn rs5 on HBN HBa))
    refine (RS.out _).mono ?_
    rintro e w6 ⟨rfl, hb6⟩
    have HR1a := Lib.hid (HR1.out.keep hb6)
    clear HR1
    have HR2a := Lib.hid (HR2.out.keep hb6)
    clear HR2
    have HR3a := Lib.hid (HR3.out.keep hb6)
    clear HR3
    have HR4a := Lib.hid (HR4.out.keep hb6)
    clear HR4
    have HR5a := Lib.hid (HR5.out.keep hb6)
    clear HR5
    have HBa := Lib.hid (HB.out.trans (hb6.mono HB.out.size))
    clear HB hb6
    unfold tmV
    go_wp2_with (first
      | (refine wpList_allocT ttR rfl rfl ?_; intro W6 rn bn zn; have HBN := Lib.hid bn; clear bn zn)
      | (refine wpList_storeT ttR rfl (.tmp 13) (.tmp 50) rfl w6.heap.size rfl t3 rfl Tm.zero ?_ ?_; exact rn; intro V6 rs6 on; have HR6 := Lib.hid rs6; have HR1 := Lib.hid (past_row HR1a.out HBN.out on); clear HR1a; have HR2 := Lib.hid (past_row HR2a.out HBN.out on); clear HR2a; have HR3 := Lib.hid (past_row HR3a.out HBN.out on); clear HR3a; have HR4 := Lib.hid (past_row HR4a.out HBN.out on); clear HR4a; have HR5 := Lib.hid (past_row HR5a.out HBN.out on); clear HR5a; have HB := Lib.hid (past_below HBa.out HBN.out on); clear rn rs6 on HBN HBa))
    refine (PN.out _ (Ht.out.keep HB.out)).mono ?_
    rintro e w7 ⟨rfl, hb7⟩
    have HR1a := Lib.hid (HR1.out.keep hb7)
    clear HR1
    have HR2a := Lib.hid (HR2.out.keep hb7)
    clear HR2
    have HR3a := Lib.hid (HR3.out.keep hb7)
    clear HR3
    have HR4a := Lib.hid (HR4.out.keep hb7)
    clear HR4
    have HR5a := Lib.hid (HR5.out.keep hb7)
    clear HR5
    have HR6a := Lib.hid (HR6.out.keep hb7)
    clear HR6
    have HBa := Lib.hid (HB.out.trans (hb7.mono HB.out.size))
    clear HB hb7
    unfold tmV
    go_wp2_with (first
      | (refine wpList_allocT ttP rfl rfl ?_; intro W7 rn bn zn; have HBN := Lib.hid bn; clear bn zn)
      | (refine wpList_storeT ttP rfl (.tmp 15) (.tmp 54) rfl w7.heap.size rfl novT rfl Tm.zero ?_ ?_; exact rn; intro V7 rs7 on; have HR7 := Lib.hid rs7; have HR1 := Lib.hid (past_row HR1a.out HBN.out on); clear HR1a; have HR2 := Lib.hid (past_row HR2a.out HBN.out on); clear HR2a; have HR3 := Lib.hid (past_row HR3a.out HBN.out on); clear HR3a; have HR4 := Lib.hid (past_row HR4a.out HBN.out on); clear HR4a; have HR5 := Lib.hid (past_row HR5a.out HBN.out on); clear HR5a; have HR6 := Lib.hid (past_row HR6a.out HBN.out on); clear HR6a; have HB := Lib.hid (past_below HBa.out HBN.out on); have c8 : V7.cell? ⟨w7.heap.size, 3, none⟩ = some (.int .i64 8) := (TmAt.of HR7.out).h; clear rn rs7 on HBN HBa)
      | (refine wpList_loadT ttP (.tmp 3) rfl rfl _ rfl t1 HR1.out ?_)
      | (refine wpList_loadT ttR (.tmp 5) rfl rfl _ rfl t1 HR2.out ?_)
      | (refine wpList_loadT ttP (.tmp 7) rfl rfl _ rfl t2 HR3.out ?_)
      | (refine wpList_loadT ttR (.tmp 9) rfl rfl _ rfl t2 HR4.out ?_)
      | (refine wpList_loadT ttP (.tmp 11) rfl rfl _ rfl t3 HR5.out ?_)
      | (refine wpList_loadT ttR (.tmp 13) rfl rfl _ rfl t3 HR6.out ?_)
      | (refine wpList_eqlT ttR guardR (.tmp 56) (.tmp 57) _ rfl rfl t1 t1 rfl rfl true (same_self _) ?_)
      | (refine wpList_eqlT ttR guardR (.tmp 65) (.tmp 66) _ rfl rfl t2 t2 rfl rfl true (same_self _) ?_)
      | (refine wpList_eqlT ttR guardR (.tmp 75) (.tmp 76) _ rfl rfl t3 t3 rfl rfl true (same_self _) ?_))
    go_ret
    exact ⟨rfl, HB.out⟩
  · go_enter Tryd.func4, Tryd.ntmps4
    go_wp2_with fail
    clear hs
    refine (PW.out _ (Ht.out.keep HB.out)).mono ?_
    rintro e w1 ⟨rfl, hb1⟩
    have HBa := Lib.hid (HB.out.trans (hb1.mono HB.out.size))
    clear HB hb1
    unfold tmV
    go_wp2_with (first
      | (refine wpList_allocT ttP rfl rfl ?_; intro W1 rn bn zn; have HBN := Lib.hid bn; clear bn zn)
      | (refine wpList_storeT ttP rfl (.tmp 3) (.tmp 25) rfl w1.heap.size rfl t1 rfl Tm.zero ?_ ?_; exact rn; intro V1 rs1 on; have HR1 := Lib.hid rs1; have HB := Lib.hid (past_below HBa.out HBN.out on); clear rn rs1 on HBN HBa))
    refine (RW.out _).mono ?_
    rintro e w2 ⟨rfl, hb2⟩
    have HR1a := Lib.hid (HR1.out.keep hb2)
    clear HR1
    have HBa := Lib.hid (HB.out.trans (hb2.mono HB.out.size))
    clear HB hb2
    unfold tmV
    go_wp2_with (first
      | (refine wpList_allocT ttR rfl rfl ?_; intro W2 rn bn zn; have HBN := Lib.hid bn; clear bn zn)
      | (refine wpList_storeT ttR rfl (.tmp 5) (.tmp 30) rfl w2.heap.size rfl t1 rfl Tm.zero ?_ ?_; exact rn; intro V2 rs2 on; have HR2 := Lib.hid rs2; have HR1 := Lib.hid (past_row HR1a.out HBN.out on); clear HR1a; have HB := Lib.hid (past_below HBa.out HBN.out on); clear rn rs2 on HBN HBa))
    refine (PI.out _ (Ht.out.keep HB.out)).mono ?_
    rintro e w3 ⟨rfl, hb3⟩
    have HR1a := Lib.hid (HR1.out.keep hb3)
    clear HR1
    have HR2a := Lib.hid (HR2.out.keep hb3)
    clear HR2
    have HBa := Lib.hid (HB.out.trans (hb3.mono HB.out.size))
    clear HB hb3
    unfold tmV
    go_wp2_with (first
      | (refine wpList_allocT ttP rfl rfl ?_; intro W3 rn bn zn; have HBN := Lib.hid bn; clear bn zn)
      | (refine wpList_storeT ttP rfl (.tmp 7) (.tmp 35) rfl w3.heap.size rfl t2 rfl Tm.zero ?_ ?_; exact rn; intro V3 rs3 on; have HR3 := Lib.hid rs3; have HR1 := Lib.hid (past_row HR1a.out HBN.out on); clear HR1a; have HR2 := Lib.hid (past_row HR2a.out HBN.out on); clear HR2a; have HB := Lib.hid (past_below HBa.out HBN.out on); clear rn rs3 on HBN HBa))
    refine (RI.out _).mono ?_
    rintro e w4 ⟨rfl, hb4⟩
    have HR1a := Lib.hid (HR1.out.keep hb4)
    clear HR1
    have HR2a := Lib.hid (HR2.out.keep hb4)
    clear HR2
    have HR3a := Lib.hid (HR3.out.keep hb4)
    clear HR3
    have HBa := Lib.hid (HB.out.trans (hb4.mono HB.out.size))
    clear HB hb4
    unfold tmV
    go_wp2_with (first
      | (refine wpList_allocT ttR rfl rfl ?_; intro W4 rn bn zn; have HBN := Lib.hid bn; clear bn zn)
      | (refine wpList_storeT ttR rfl (.tmp 9) (.tmp 40) rfl w4.heap.size rfl t2 rfl Tm.zero ?_ ?_; exact rn; intro V4 rs4 on; have HR4 := Lib.hid rs4; have HR1 := Lib.hid (past_row HR1a.out HBN.out on); clear HR1a; have HR2 := Lib.hid (past_row HR2a.out HBN.out on); clear HR2a; have HR3 := Lib.hid (past_row HR3a.out HBN.out on); clear HR3a; have HB := Lib.hid (past_below HBa.out HBN.out on); clear rn rs4 on HBN HBa))
    refine (PS.out _ (Ht.out.keep HB.out)).mono ?_
    rintro e w5 ⟨rfl, hb5⟩
    have HR1a := Lib.hid (HR1.out.keep hb5)
    clear HR1
    have HR2a := Lib.hid (HR2.out.keep hb5)
    clear HR2
    have HR3a := Lib.hid (HR3.out.keep hb5)
    clear HR3
    have HR4a := Lib.hid (HR4.out.keep hb5)
    clear HR4
    have HBa := Lib.hid (HB.out.trans (hb5.mono HB.out.size))
    clear HB hb5
    unfold tmV
    go_wp2_with (first
      | (refine wpList_allocT ttP rfl rfl ?_; intro W5 rn bn zn; have HBN := Lib.hid bn; clear bn zn)
      | (refine wpList_storeT ttP rfl (.tmp 11) (.tmp 45) rfl w5.heap.size rfl t3 rfl Tm.zero ?_ ?_; exact rn; intro V5 rs5 on; have HR5 := Lib.hid rs5; have HR1 := Lib.hid (past_row HR1a.out HBN.out on); clear HR1a; have HR2 := Lib.hid (past_row HR2a.out HBN.out on); clear HR2a; have HR3 := Lib.hid (past_row HR3a.out HBN.out on); clear HR3a; have HR4 := Lib.hid (past_row HR4a.out HBN.out on); clear HR4a; have HB := Lib.hid (past_below HBa.out HBN.out on); clear rn rs5 on HBN HBa))
    refine (RS.out _).mono ?_
    rintro e w6 ⟨rfl, hb6⟩
    have HR1a := Lib.hid (HR1.out.keep hb6)
    clear HR1
    have HR2a := Lib.hid (HR2.out.keep hb6)
    clear HR2
    have HR3a := Lib.hid (HR3.out.keep hb6)
    clear HR3
    have HR4a := Lib.hid (HR4.out.keep hb6)
    clear HR4
    have HR5a := Lib.hid (HR5.out.keep hb6)
    clear HR5
    have HBa := Lib.hid (HB.out.trans (hb6.mono HB.out.size))
    clear HB hb6
    unfold tmV
    go_wp2_with (first
      | (refine wpList_allocT ttR rfl rfl ?_; intro W6 rn bn zn; have HBN := Lib.hid bn; clear bn zn)
      | (refine wpList_storeT ttR rfl (.tmp 13) (.tmp 50) rfl w6.heap.size rfl t3 rfl Tm.zero ?_ ?_; exact rn; intro V6 rs6 on; have HR6 := Lib.hid rs6; have HR1 := Lib.hid (past_row HR1a.out HBN.out on); clear HR1a; have HR2 := Lib.hid (past_row HR2a.out HBN.out on); clear HR2a; have HR3 := Lib.hid (past_row HR3a.out HBN.out on); clear HR3a; have HR4 := Lib.hid (past_row HR4a.out HBN.out on); clear HR4a; have HR5 := Lib.hid (past_row HR5a.out HBN.out on); clear HR5a; have HB := Lib.hid (past_below HBa.out HBN.out on); clear rn rs6 on HBN HBa))
    refine (PN.out _ (Ht.out.keep HB.out)).mono ?_
    rintro e w7 ⟨rfl, hb7⟩
    have HR1a := Lib.hid (HR1.out.keep hb7)
    clear HR1
    have HR2a := Lib.hid (HR2.out.keep hb7)
    clear HR2
    have HR3a := Lib.hid (HR3.out.keep hb7)
    clear HR3
    have HR4a := Lib.hid (HR4.out.keep hb7)
    clear HR4
    have HR5a := Lib.hid (HR5.out.keep hb7)
    clear HR5
    have HR6a := Lib.hid (HR6.out.keep hb7)
    clear HR6
    have HBa := Lib.hid (HB.out.trans (hb7.mono HB.out.size))
    clear HB hb7
    unfold tmV
    go_wp2_with (first
      | (refine wpList_allocT ttP rfl rfl ?_; intro W7 rn bn zn; have HBN := Lib.hid bn; clear bn zn)
      | (refine wpList_storeT ttP rfl (.tmp 15) (.tmp 54) rfl w7.heap.size rfl novT rfl Tm.zero ?_ ?_; exact rn; intro V7 rs7 on; have HR7 := Lib.hid rs7; have HR1 := Lib.hid (past_row HR1a.out HBN.out on); clear HR1a; have HR2 := Lib.hid (past_row HR2a.out HBN.out on); clear HR2a; have HR3 := Lib.hid (past_row HR3a.out HBN.out on); clear HR3a; have HR4 := Lib.hid (past_row HR4a.out HBN.out on); clear HR4a; have HR5 := Lib.hid (past_row HR5a.out HBN.out on); clear HR5a; have HR6 := Lib.hid (past_row HR6a.out HBN.out on); clear HR6a; have HB := Lib.hid (past_below HBa.out HBN.out on); have c8 : V7.cell? ⟨w7.heap.size, 3, none⟩ = some (.int .i64 8) := (TmAt.of HR7.out).h; clear rn rs7 on HBN HBa)
      | (refine wpList_loadT ttP (.tmp 3) rfl rfl _ rfl t1 HR1.out ?_)
      | (refine wpList_loadT ttR (.tmp 5) rfl rfl _ rfl t1 HR2.out ?_)
      | (refine wpList_loadT ttP (.tmp 7) rfl rfl _ rfl t2 HR3.out ?_)
      | (refine wpList_loadT ttR (.tmp 9) rfl rfl _ rfl t2 HR4.out ?_)
      | (refine wpList_loadT ttP (.tmp 11) rfl rfl _ rfl t3 HR5.out ?_)
      | (refine wpList_loadT ttR (.tmp 13) rfl rfl _ rfl t3 HR6.out ?_)
      | (refine wpList_eqlT ttR guardR (.tmp 56) (.tmp 57) _ rfl rfl t1 t1 rfl rfl true (same_self _) ?_)
      | (refine wpList_eqlT ttR guardR (.tmp 65) (.tmp 66) _ rfl rfl t2 t2 rfl rfl true (same_self _) ?_)
      | (refine wpList_eqlT ttR guardR (.tmp 75) (.tmp 76) _ rfl rfl t3 t3 rfl rfl true (same_self _) ?_))
    go_ret
    exact ⟨rfl, HB.out⟩
end Clk
end Go.Proofs.YtfbgcjpakahocaaDoor

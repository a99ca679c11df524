/- The walk of ClockBack: seconds are a time, and its seconds again; told in each of three forms it is read. Conditions: the listed tables lie where they were laid. -/
import Derived.Test.YtfbgcjpakahocaaDoorClkEq
import Derived.Test.YtfbgcjpakahocaaDoorClkReadIso
import Derived.Test.YtfbgcjpakahocaaDoorClkReadShort
import Derived.Test.YtfbgcjpakahocaaDoorClkReadWeb
namespace Go.Proofs.YtfbgcjpakahocaaDoor
open Go.RowKit
namespace Clk

def begT : Tm := ⟨1970, 1, 1, 0, 0, 0⟩
theorem beg_right : begT.Right := by decide
theorem beg_secs : begT.secs = 0 := by decide
theorem OfTo.here {t : Tm} {e : Ending} (hr : t.Right) (h : OfTo t.secs e) : e = .returned (.tuple #[tmV t, .bool true]) := by
  rcases h with ⟨q, hq, hs, he⟩ | ⟨hn, _⟩
  · obtain rfl := secs_inj hq hr hs
    exact he
  · exact absurd (secs_range hr) hn
set_option maxRecDepth 100000 in
set_option maxHeartbeats 8000000 in
theorem back_no (n : Int) (w : World) (ht : Tabs w) (hn : (Lit.int .i64 n).wf = true) (h : n < -62135596800 ∨ 253402300799 < n) :
    Calls Tryd.prog 5 #[.int .i64 n] w fun e w' => e = .returned (.bool true) ∧ Below w.heap.size w w' := by
  have Ht := Lib.hid ht
  have PO := Lib.hid (fun (w' : World) (h' : Tabs w') => (of_any n w' h' hn).mono fun e w2 hh => And.intro (show e = .returned (.tuple #[tmV Tm.zero, .bool false]) from by
    rcases hh.1 with ⟨q, hq, hs, _⟩ | ⟨_, he⟩
    · have := secs_range hq; omega
    · exact he) hh.2)
  have PB := Lib.hid (fun (w' : World) (h' : Tabs w') => (of_any 0 w' h' (by decide)).mono fun e w2 hh => And.intro (OfTo.here beg_right (by rw [beg_secs]; exact hh.1)) hh.2)
  have HB := Lib.hid (Below.refl w.heap.size w)
  clear ht hn
  rcases h with h | h
  all_goals
    go_enter Tryd.func5, Tryd.ntmps5
    go_wp2_with fail
    refine (PO.out _ (Ht.out.keep HB.out)).mono ?_
    rintro e w1 ⟨rfl, hb1⟩
    have HBa := Lib.hid (HB.out.trans (hb1.mono HB.out.size))
    clear HB hb1
    unfold tmV
    go_wp2_with (first
      | (refine wpList_allocT ttP rfl rfl ?_; intro W1 rn bn zn; have HBN := Lib.hid bn; clear bn zn)
      | (refine wpList_storeT ttP rfl (.tmp 3) (.tmp 18) rfl w1.heap.size rfl Tm.zero rfl Tm.zero ?_ ?_; exact rn; intro V1 rs1 on; have HR1 := Lib.hid rs1; have HB := Lib.hid (past_below HBa.out HBN.out on); clear rn rs1 on HBN HBa))
    refine (PB.out _ (Ht.out.keep HB.out)).mono ?_
    rintro e w2 ⟨rfl, hb2⟩
    have HR1a := Lib.hid (HR1.out.keep hb2)
    clear HR1
    have HBa := Lib.hid (HB.out.trans (hb2.mono HB.out.size))
    clear HB hb2
    unfold tmV
    go_wp2_with (first
      | (refine wpList_allocT ttP rfl rfl ?_; intro W2 rn bn zn; have HBN := Lib.hid bn; clear bn zn)
      | (refine wpList_storeT ttP rfl (.tmp 5) (.tmp 24) rfl w2.heap.size rfl begT rfl Tm.zero ?_ ?_; exact rn; intro V2 rs2 on; have HR2 := Lib.hid rs2; have HR1 := Lib.hid (past_row HR1a.out HBN.out on); clear HR1a; have HB := Lib.hid (past_below HBa.out HBN.out on); have c0 : V2.cell? ⟨w2.heap.size, 0, none⟩ = some (.int .i64 1970) := (TmAt.of HR2.out).y; clear rn rs2 on HBN HBa)
      | (refine wpList_loadT ttP (.tmp 3) rfl rfl w1.heap.size rfl Tm.zero ?_ ?_; exact HR1.out)
      | (refine wpList_eqlT ttP guardP (.tmp 26) (.tmp 27) _ rfl rfl Tm.zero Tm.zero rfl rfl true (same_self _) ?_))
    go_ret
    exact ⟨rfl, HB.out⟩
set_option maxRecDepth 100000 in
set_option maxHeartbeats 8000000 in
theorem back_yes (n : Int) (t : Tm) (w : World) (ht : Tabs w) (hn : (Lit.int .i64 n).wf = true) (hr : t.Right) (hs : t.secs = n) :
    Calls Tryd.prog 5 #[.int .i64 n] w fun e w' => e = .returned (.bool true) ∧ Below w.heap.size w w' := by
  have Ht := Lib.hid ht
  have PO := Lib.hid (fun (w' : World) (h' : Tabs w') => (of_any n w' h' hn).mono fun e w2 hh => And.intro (OfTo.here hr (by rw [hs]; exact hh.1)) hh.2)
  have PS := Lib.hid (fun (w' : World) (h : Tabs w') => seconds_any t w' h)
  rw [show secV t = .tuple #[.int .i64 n, .bool true] by unfold secV; rw [if_pos hr, rightB_yes hr, hs]] at PS
  have PM := Lib.hid (fun (w' : World) (h : Tabs w') => days_any t.y t.m w' h)
  have PW := Lib.hid (fun (w' : World) (h : Tabs w') => web_any t w' h)
  have PI := Lib.hid (fun (w' : World) (h : Tabs w') => iso_any t w' h)
  have PH := Lib.hid (fun (w' : World) (h : Tabs w') => short_any t w' h)
  rw [tell_yes hr] at PW PI PH
  have QW := Lib.hid (fun (w' : World) (h : Tabs w') => (readWeb_any (strOfNums (webW t)) w' h).mono fun e w2 hh => And.intro (ReadTo.here webInj hr (numsOf_strOfNums _ (webW_bytes t)).symm hh.1) hh.2)
  have QI := Lib.hid (fun (w' : World) (h : Tabs w') => (readIso_any (strOfNums (isoW t)) w' h).mono fun e w2 hh => And.intro (ReadTo.here isoInj hr (numsOf_strOfNums _ (isoW_bytes t)).symm hh.1) hh.2)
  have QH := Lib.hid (fun (w' : World) (h : Tabs w') => (readShort_any (strOfNums (shortW t)) w' h).mono fun e w2 hh => And.intro (ReadTo.here shortInj hr (numsOf_strOfNums _ (shortW_bytes t)).symm hh.1) hh.2)
  obtain ⟨d1, d2⟩ := hr.2.2.1
  have HB := Lib.hid (Below.refl w.heap.size w)
  clear ht hn hr hs
  generalize strOfNums (webW t) = sW at *
  generalize strOfNums (isoW t) = sI at *
  generalize strOfNums (shortW t) = sH at *
  generalize mdI t.y t.m = md at *
  have e1 : decide (1 ≤ t.d) = true := decide_eq_true d1
  have e2 : decide (t.d ≤ md) = true := decide_eq_true d2
  unfold tmV at PS PW PI PH
  go_enter Tryd.func5, Tryd.ntmps5
  go_wp2_with fail
  refine (PO.out _ (Ht.out.keep HB.out)).mono ?_
  rintro e w1 ⟨rfl, hb1⟩
  have HBa := Lib.hid (HB.out.trans (hb1.mono HB.out.size))
  clear HB hb1
  unfold tmV
  go_wp2_with (first
    | (refine wpList_allocT ttP rfl rfl ?_; intro W1 rn bn zn; have HBN := Lib.hid bn; clear bn zn)
    | (refine wpList_storeT ttP rfl (.tmp 3) (.tmp 18) rfl w1.heap.size rfl t rfl Tm.zero ?_ ?_; exact rn; intro V1 rs1 on; have HR1 := Lib.hid rs1; have HB := Lib.hid (past_below HBa.out HBN.out on); clear rn rs1 on HBN HBa)
    | (refine wpList_loadT ttP (.tmp 3) rfl rfl w1.heap.size rfl t ?_ ?_; exact HR1.out))
  refine (PS.out _ (Ht.out.keep HB.out)).mono ?_
  rintro e w2 ⟨rfl, hb2⟩
  have HR1a := Lib.hid (HR1.out.keep hb2)
  clear HR1
  have HR1 := HR1a
  clear HR1a
  have HBa := Lib.hid (HB.out.trans (hb2.mono HB.out.size))
  clear HB hb2
  have HB := HBa
  clear HBa
  go_wp2_with (first
    | (refine wpList_loadT ttP (.tmp 3) rfl rfl w1.heap.size rfl t ?_ ?_; exact HR1.out))
  refine (PW.out _ (Ht.out.keep HB.out)).mono ?_
  rintro e w3 ⟨rfl, hb3⟩
  have HR1a := Lib.hid (HR1.out.keep hb3)
  clear HR1
  have HR1 := HR1a
  clear HR1a
  have HBa := Lib.hid (HB.out.trans (hb3.mono HB.out.size))
  clear HB hb3
  have HB := HBa
  clear HBa
  go_wp2_with (first
    | (refine wpList_loadT ttP (.tmp 3) rfl rfl w1.heap.size rfl t ?_ ?_; exact HR1.out))
  refine (QW.out _ (Ht.out.keep HB.out)).mono ?_
  rintro e w4 ⟨rfl, hb4⟩
  have HR1a := Lib.hid (HR1.out.keep hb4)
  clear HR1
  have HBa := Lib.hid (HB.out.trans (hb4.mono HB.out.size))
  clear HB hb4
  unfold tmV
  go_wp2_with (first
    | (refine wpList_allocT ttP rfl rfl ?_; intro W4 rn bn zn; have HBN := Lib.hid bn; clear bn zn)
    | (refine wpList_storeT ttP rfl (.tmp 9) (.tmp 54) rfl w4.heap.size rfl t rfl Tm.zero ?_ ?_; exact rn; intro V4 rs4 on; have HR4 := Lib.hid rs4; have HR1 := Lib.hid (past_row HR1a.out HBN.out on); clear HR1a; have HB := Lib.hid (past_below HBa.out HBN.out on); clear rn rs4 on HBN HBa)
    | (refine wpList_loadT ttP (.tmp 3) rfl rfl w1.heap.size rfl t ?_ ?_; exact HR1.out))
  refine (PI.out _ (Ht.out.keep HB.out)).mono ?_
  rintro e w5 ⟨rfl, hb5⟩
  have HR1a := Lib.hid (HR1.out.keep hb5)
  clear HR1
  have HR1 := HR1a
  clear HR1a
  have HR4a := Lib.hid (HR4.out.keep hb5)
  clear HR4
  have HR4 := HR4a
  clear HR4a
  have HBa := Lib.hid (HB.out.trans (hb5.mono HB.out.size))
  clear HB hb5
  have HB := HBa
  clear HBa
  go_wp2_with (first
    | (refine wpList_loadT ttP (.tmp 3) rfl rfl w1.heap.size rfl t ?_ ?_; exact HR1.out))
  refine (QI.out _ (Ht.out.keep HB.out)).mono ?_
  rintro e w6 ⟨rfl, hb6⟩
  have HR1a := Lib.hid (HR1.out.keep hb6)
  clear HR1
  have HR4a := Lib.hid (HR4.out.keep hb6)
  clear HR4
  have HBa := Lib.hid (HB.out.trans (hb6.mono HB.out.size))
  clear HB hb6
  unfold tmV
  go_wp2_with (first
    | (refine wpList_allocT ttP rfl rfl ?_; intro W6 rn bn zn; have HBN := Lib.hid bn; clear bn zn)
    | (refine wpList_storeT ttP rfl (.tmp 11) (.tmp 60) rfl w6.heap.size rfl t rfl Tm.zero ?_ ?_; exact rn; intro V6 rs6 on; have HR6 := Lib.hid rs6; have HR1 := Lib.hid (past_row HR1a.out HBN.out on); clear HR1a; have HR4 := Lib.hid (past_row HR4a.out HBN.out on); clear HR4a; have HB := Lib.hid (past_below HBa.out HBN.out on); clear rn rs6 on HBN HBa)
    | (refine wpList_loadT ttP (.tmp 3) rfl rfl w1.heap.size rfl t ?_ ?_; exact HR1.out))
  refine (PH.out _ (Ht.out.keep HB.out)).mono ?_
  rintro e w7 ⟨rfl, hb7⟩
  have HR1a := Lib.hid (HR1.out.keep hb7)
  clear HR1
  have HR1 := HR1a
  clear HR1a
  have HR4a := Lib.hid (HR4.out.keep hb7)
  clear HR4
  have HR4 := HR4a
  clear HR4a
  have HR6a := Lib.hid (HR6.out.keep hb7)
  clear HR6
  have HR6 := HR6a
  clear HR6a
  have HBa := Lib.hid (HB.out.trans (hb7.mono HB.out.size))
  clear HB hb7
  have HB := HBa
  clear HBa
  go_wp2_with (first
    | (refine wpList_loadT ttP (.tmp 3) rfl rfl w1.heap.size rfl t ?_ ?_; exact HR1.out))
  refine (QH.out _ (Ht.out.keep HB.out)).mono ?_
  rintro e w8 ⟨rfl, hb8⟩
  have HR1a := Lib.hid (HR1.out.keep hb8)
  clear HR1
  have HR4a := Lib.hid (HR4.out.keep hb8)
  clear HR4
  have HR6a := Lib.hid (HR6.out.keep hb8)
  clear HR6
  have HBa := Lib.hid (HB.out.trans (hb8.mono HB.out.size))
  clear HB hb8
  unfold tmV
  go_wp2_with (first
    | (refine wpList_allocT ttP rfl rfl ?_; intro W8 rn bn zn; have HBN := Lib.hid bn; clear bn zn)
    | (refine wpList_storeT ttP rfl (.tmp 13) (.tmp 66) rfl w8.heap.size rfl t rfl Tm.zero ?_ ?_; exact rn; intro V8 rs8 on; have HR8 := Lib.hid rs8; have HR1 := Lib.hid (past_row HR1a.out HBN.out on); clear HR1a; have HR4 := Lib.hid (past_row HR4a.out HBN.out on); clear HR4a; have HR6 := Lib.hid (past_row HR6a.out HBN.out on); clear HR6a; have HB := Lib.hid (past_below HBa.out HBN.out on); clear rn rs8 on HBN HBa))
  have HR1a := Lib.hid HR1.out.drew
  clear HR1
  have HR1 := HR1a
  clear HR1a
  have HR4a := Lib.hid HR4.out.drew
  clear HR4
  have HR4 := HR4a
  clear HR4a
  have HR6a := Lib.hid HR6.out.drew
  clear HR6
  have HR6 := HR6a
  clear HR6a
  have HR8a := Lib.hid HR8.out.drew
  clear HR8
  have HR8 := HR8a
  clear HR8a
  have HBa := Lib.hid HB.out.drew
  clear HB
  have HB := HBa
  clear HBa
  refine wp_region_segs [([0, 1, 2, 3, 4, 5, 6, 7, 8, 9, 10, 11, 12, 13, 14, 15, 16, 17, 18, 19, 20, 21, 22, 23, 24, 25, 26, 27, 28, 29, 30, 31, 32, 33, 34, 35, 36, 37, 38, 39, 40, 41], 42)] [43, 44, 45] (by kernel_rfl) (by kernel_rfl) (by kernel_rfl) (by kernel_rfl) (fun _ _ d _ _ h => by cases d <;> exact h) ?_
  generalize V8.drew = v4 at *
  have k0 : ∀ x : Above v4, x.1.cell? ⟨w1.heap.size, 0, none⟩ = some (.int .i64 t.y) := HR1.out.above rfl
  have k1 : ∀ x : Above v4, x.1.cell? ⟨w1.heap.size, 1, none⟩ = some (.int .i64 t.m) := HR1.out.above rfl
  have k2 : ∀ x : Above v4, x.1.cell? ⟨w1.heap.size, 2, none⟩ = some (.int .i64 t.d) := HR1.out.above rfl
  refine wpSegs_next (by simp [pickOps]; rfl) ?_
  repeat (go_big_quiet_step (fail))
  refine wpQuiet_loadT ttP (.tmp 9) rfl rfl w4.heap.size rfl t HR4.out ?_
  go_simp
  refine wpQuiet_loadT ttP (.tmp 3) rfl rfl w1.heap.size rfl t HR1.out ?_
  go_simp
  refine wpQuiet_eqlT ttP guardP (.tmp 84) (.tmp 85) _ rfl rfl t t rfl rfl true (same_self _) ?_
  go_simp
  repeat (go_big_quiet_step (fail))
  refine wpQuiet_loadT ttP (.tmp 11) rfl rfl w6.heap.size rfl t HR6.out ?_
  go_simp
  refine wpQuiet_loadT ttP (.tmp 3) rfl rfl w1.heap.size rfl t HR1.out ?_
  go_simp
  refine wpQuiet_eqlT ttP guardP (.tmp 89) (.tmp 90) _ rfl rfl t t rfl rfl true (same_self _) ?_
  go_simp
  repeat (go_big_quiet_step (fail))
  refine wpQuiet_loadT ttP (.tmp 13) rfl rfl w8.heap.size rfl t HR8.out ?_
  go_simp
  refine wpQuiet_loadT ttP (.tmp 3) rfl rfl w1.heap.size rfl t HR1.out ?_
  go_simp
  refine wpQuiet_eqlT ttP guardP (.tmp 94) (.tmp 95) _ rfl rfl t t rfl rfl true (same_self _) ?_
  go_simp
  repeat (go_big_quiet_step (fail))
  refine wpQuiet_nil ?_
  refine wpOp_alone rfl rfl (fun K hK => ?_)
  go_simp
  refine (PM.out _ (Ht.out.keep HB.out)).mono ?_
  rintro e v5 ⟨rfl, hb5⟩
  refine hK _ _ ⟨hb5, ?_⟩
  have HBa := Lib.hid (HB.out.trans (hb5.mono HB.out.size))
  clear hK K k0 k1 k2
  refine wpSegs_last (by simp [pickOps]; rfl) ?_
  repeat (go_big_quiet_step (fail))
  refine wpQuiet_nil ?_
  go_wp2_with fail
  go_ret
  exact ⟨rfl, HBa.out⟩
theorem year_some (N : Int) (h0 : 0 ≤ N) : ∀ k : Nat, N < aheadI (1 + k) → ∃ y : Int, 1 ≤ y ∧ y ≤ k ∧ aheadI y ≤ N ∧ N < aheadI (y + 1)
  | 0, h => by
    rw [show (1 : Int) + ((0 : Nat) : Int) = 1 from rfl, ahead_one] at h
    omega
  | k + 1, h => by
    by_cases h1 : N < aheadI (1 + k)
    · obtain ⟨y, a, b, c⟩ := year_some N h0 k h1
      exact ⟨y, a, by omega, c⟩
    · exact ⟨1 + k, by omega, by omega, by omega, by rw [show (1 : Int) + (k : Int) + 1 = 1 + ((k + 1 : Nat) : Int) by omega]; exact h⟩
theorem month_some (y r : Int) (h0 : 0 ≤ r) : ∀ k : Nat, r < cumI y (1 + k) → ∃ m : Int, 1 ≤ m ∧ m ≤ k ∧ cumI y m ≤ r ∧ r < cumI y (m + 1)
  | 0, h => by
    rw [show (1 : Int) + ((0 : Nat) : Int) = 1 from rfl, cum_one] at h
    omega
  | k + 1, h => by
    by_cases h1 : r < cumI y (1 + k)
    · obtain ⟨m, a, b, c⟩ := month_some y r h0 k h1
      exact ⟨m, a, by omega, c⟩
    · exact ⟨1 + k, by omega, by omega, by omega, by rw [show (1 : Int) + (k : Int) + 1 = 1 + ((k + 1 : Nat) : Int) by omega]; exact h⟩
/-- Each number within has its time. -/
theorem secs_some {n : Int} (h0 : -62135596800 ≤ n) (h1 : n ≤ 253402300799) : ∃ t : Tm, t.Right ∧ t.secs = n := by
  obtain ⟨y, y0, y1, y2, y3⟩ := year_some (n / 86400 + 719162) (by omega) 9999 (by rw [show (1 : Int) + ((9999 : Nat) : Int) = 10000 from rfl, ahead_10000]; omega)
  have hs := ahead_succ y
  obtain ⟨m, m0, m1, m2, m3⟩ := month_some y (n / 86400 + 719162 - aheadI y) (by omega) 12 (by rw [show (1 : Int) + ((12 : Nat) : Int) = 13 from rfl, cum_last]; omega)
  have hc := cum_succ y m ⟨m0, by omega⟩
  refine ⟨⟨y, m, n / 86400 + 719162 - aheadI y - cumI y m + 1, n % 86400 / 3600, n % 3600 / 60, n % 60⟩, ⟨⟨y0, by show y ≤ 9999; omega⟩, ⟨m0, by show m ≤ 12; omega⟩, ?_, ?_, ?_, ?_⟩, ?_⟩
  · show 1 ≤ n / 86400 + 719162 - aheadI y - cumI y m + 1 ∧ n / 86400 + 719162 - aheadI y - cumI y m + 1 ≤ mdI y m
    omega
  · show 0 ≤ n % 86400 / 3600 ∧ n % 86400 / 3600 ≤ 23
    omega
  · show 0 ≤ n % 3600 / 60 ∧ n % 3600 / 60 ≤ 59
    omega
  · show 0 ≤ n % 60 ∧ n % 60 ≤ 59
    omega
  · show (aheadI y + cumI y m + (n / 86400 + 719162 - aheadI y - cumI y m + 1) - 1 - 719162) * 86400 + n % 86400 / 3600 * 3600 + n % 3600 / 60 * 60 + n % 60 = n
    omega
theorem back_walk (n : Int) (w : World) (ht : Tabs w) (hn : (Lit.int .i64 n).wf = true) :
    Calls Tryd.prog 5 #[.int .i64 n] w fun e w' => e = .returned (.bool true) ∧ Below w.heap.size w w' := by
  by_cases h : -62135596800 ≤ n ∧ n ≤ 253402300799
  · obtain ⟨t, hr, hs⟩ := secs_some h.1 h.2
    exact back_yes n t w ht hn hr hs
  · exact back_no n w ht hn (by omega)
end Clk
end Go.Proofs.YtfbgcjpakahocaaDoor

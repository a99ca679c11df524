/- Of, of any number: the time of so many seconds, or none. Nothing that was there is written. Conditions: the listed tables lie where they were laid. -/
import Derived.Test.YtfbgcjpakahocaaDoorClkOf
namespace Go.Proofs.YtfbgcjpakahocaaDoor
open Go.RowKit
namespace Clk

/-- A day's time of so many seconds. -/
def atT (y m d n : Int) : Tm := ⟨y, m, d, n % 86400 / 3600, n % 3600 / 60, n % 60⟩
theorem at_right {y m d n : Int} (h : (dayT y m d).Right) : (atT y m d n).Right := ⟨h.1, h.2.1, h.2.2.1, by show 0 ≤ n % 86400 / 3600 ∧ n % 86400 / 3600 ≤ 23; omega, by show 0 ≤ n % 3600 / 60 ∧ n % 3600 / 60 ≤ 59; omega, by show 0 ≤ n % 60 ∧ n % 60 ≤ 59; omega⟩
theorem at_secs {y m d n : Int} (hd : (dayT y m d).days = n / 86400) : (atT y m d n).secs = n - 62135596800 := by
  have e : (atT y m d n).days = (dayT y m d).days := rfl
  unfold Tm.secs
  rw [e, hd]
  show (n / 86400 - 719162) * 86400 + n % 86400 / 3600 * 3600 + n % 3600 / 60 * 60 + n % 60 = n - 62135596800
  omega
theorem row_at {W : World} {g : Nat} {T : TypeId} {y m d : Int} (a b c : Int) (h : Row W g T (tmC (dayT y m d))) : Row (((W.setCell ⟨g, 3, none⟩ (.int .i64 a)).setCell ⟨g, 4, none⟩ (.int .i64 b)).setCell ⟨g, 5, none⟩ (.int .i64 c)) g T (tmC ⟨y, m, d, a, b, c⟩) := ((h.set 3 (.int .i64 a)).set 4 (.int .i64 b)).set 5 (.int .i64 c)
theorem Tryd.resultsOf : Tryd.f7.results = #[.cell 2 23, .tmp 3] := by kernel_rfl
set_option maxRecDepth 100000 in
set_option maxHeartbeats 1000000 in
theorem of_any (n : Int) (w : World) (ht : Tabs w) (hn : (Lit.int .i64 n).wf = true) : Calls Tryd.prog 7 #[.int .i64 n] w fun e w' => OfTo n e ∧ Below w.heap.size w w' := by
  have Ht := Lib.hid ht
  clear ht
  have HW := Lib.hid (fun (w' : World) => win_any (-62135596800) 253402300799 w')
  by_cases hr : -62135596800 ≤ n ∧ n ≤ 253402300799
  · have HI := Lib.hid (show inB (-62135596800) n 253402300799 = true from decide_eq_true hr)
    obtain ⟨n0, n1⟩ := hr
    obtain ⟨s, hs⟩ : ∃ s, s = n + 62135596800 := ⟨_, rfl⟩
    obtain rfl : n = s - 62135596800 := by omega
    clear hs
    have s0 : 0 ≤ s := by omega
    have s1 : s ≤ 315537897599 := by omega
    have HD := Lib.hid (fun (w' : World) (h : Tabs w') => date_any (s / 86400) w' h (by omega) (by omega))
    go_enter Tryd.func7, Tryd.ntmps7
    go_wp2_with (first
      | (refine wpList_allocT ttP rfl rfl ?_; intro W r1 b1 z1; have l1 : w.heap.size < W.heap.size := (by omega); clear z1; have HT1 := Lib.hid (Ht.out.keep b1); have HB1 := Lib.hid b1; clear b1))
    refine (HW.out _).mono ?_
    rintro e w1 ⟨v, rfl, ⟨A, B, rfl, hA, hB⟩, hb⟩
    have HR1 := Lib.hid (r1.keep hb)
    have HT2 := Lib.hid (HT1.out.keep hb)
    have HB2 := Lib.hid (HB1.out.trans (hb.mono HB1.out.size))
    have l2 : w.heap.size < w1.heap.size := Nat.lt_of_lt_of_le l1 hb.size
    clear hb r1 HT1 HB1 l1
    go_wp2_with fail
    refine (look_any A B _ _ _ w1 hA hB).mono ?_
    rintro e w2 ⟨rfl, rfl⟩
    rw [HI.out]
    clear hA hB HI HW n0 n1 hn
    go_wp2_with fail
    refine (HD.out _ HT2.out).mono ?_
    rintro e w3 ⟨y, m, d, rfl, hr, hd, hb3⟩
    have HAR := Lib.hid (at_right (n := s) hr)
    have HAS := Lib.hid (at_secs hd)
    have HR3 := Lib.hid (HR1.out.keep hb3)
    have HB3 := Lib.hid (HB2.out.trans (hb3.mono HB2.out.size))
    have l3 : w.heap.size < w3.heap.size := Nat.lt_of_lt_of_le l2 hb3.size
    clear hb3 hr hd HD l2 HT2 HB2 HR1
    unfold tmV
    go_wp2_with (first
      | (refine wpList_allocT ttP rfl rfl ?_; intro W4 r4 b4 z4; have l4 : w3.heap.size < W4.heap.size := (by omega); clear z4; have HR4 := Lib.hid (HR3.out.keep b4); have HB4 := Lib.hid (HB3.out.trans (b4.mono HB3.out.size)); clear b4)
      | (refine wpList_storeT ttP rfl (.tmp 5) (.tmp 15) rfl w3.heap.size rfl (dayT y m d) rfl Tm.zero r4 ?_; intro W5 r5 o5; have HR5 := Lib.hid r5; have HR50 := Lib.hid (o5.row HR4.out (by omega)); have HB5 := Lib.hid (HB4.out.trans (o5.below.mono (by omega))); have f5 := r5.free 3; have f6 := r5.free 4; have f7 := r5.free 5; obtain ⟨_, _, _, c3, c4, c5⟩ := TmAt.of r5; clear r4 o5 r5)
      | (refine wpList_loadT ttP (.tmp 5) rfl rfl w3.heap.size rfl ⟨y, m, d, s % 86400 / 3600, s % 3600 / 60, s % 60⟩ ?_ ?_; exact row_at _ _ _ HR5.out)
      | (refine wpList_storeT ttP rfl (.tmp 2) (.tmp 27) rfl w.heap.size rfl ⟨y, m, d, s % 86400 / 3600, s % 3600 / 60, s % 60⟩ rfl Tm.zero ?_ ?_; exact ((HR50.out.other (by omega) 3 _).other (by omega) 4 _).other (by omega) 5 _; intro W6 r6 o6; have HB6 := Lib.hid ((((HB5.out.setCell (p := ⟨w3.heap.size, 3, none⟩) (by show w.heap.size ≤ w3.heap.size; omega) _).setCell (p := ⟨w3.heap.size, 4, none⟩) (by show w.heap.size ≤ w3.heap.size; omega) _).setCell (p := ⟨w3.heap.size, 5, none⟩) (by show w.heap.size ≤ w3.heap.size; omega) _).trans o6.below)))
    refine bodyPost_ret (v := .tuple #[tmV (atT y m d s), .bool true]) ?_ rfl ?_
    · exact results_time_tmp ttP Tryd.resultsOf _ _ w.heap.size _ rfl r6
    · exact ⟨.inl ⟨atT y m d s, HAR.out, HAS.out, rfl⟩, HB6.out⟩
  · have HI := Lib.hid (show inB (-62135596800) n 253402300799 = false from decide_eq_false hr)
    have HN := Lib.hid hr
    clear hr hn
    go_enter Tryd.func7, Tryd.ntmps7
    go_wp2_with (first
      | (refine wpList_allocT ttP rfl rfl ?_; intro W r1 b1 z1; have HB1 := Lib.hid b1; clear b1 z1))
    refine (HW.out _).mono ?_
    rintro e w1 ⟨v, rfl, ⟨A, B, rfl, hA, hB⟩, hb⟩
    have r2 := r1.keep hb
    have HB2 := Lib.hid (HB1.out.trans (hb.mono HB1.out.size))
    clear hb r1 HB1
    go_wp2_with fail
    refine (look_any A B _ _ _ w1 hA hB).mono ?_
    rintro e w2 ⟨rfl, rfl⟩
    rw [HI.out]
    clear hA hB HI HW
    go_wp2_with (first
      | (refine wpList_storeT ttP rfl (.tmp 2) (.tmp 10) rfl w.heap.size rfl Tm.zero rfl Tm.zero r2 ?_; intro W5 r5 o5; have HB5 := Lib.hid (HB2.out.trans o5.below)))
    refine bodyPost_ret (v := .tuple #[tmV Tm.zero, .bool false]) ?_ rfl ?_
    · exact results_time_tmp ttP Tryd.resultsOf _ _ w.heap.size _ rfl r5
    · exact ⟨.inr ⟨HN.out, rfl⟩, HB5.out⟩
end Clk
end Go.Proofs.YtfbgcjpakahocaaDoor

/- The walk of ClockOrder: later seconds are told later in order, and a day later is the next weekday. Conditions: the listed tables lie where they were laid. -/
import Derived.Test.YtfbgcjpakahocaaDoorClkEq
import Derived.Test.YtfbgcjpakahocaaDoorClkWeb
namespace Go.Proofs.YtfbgcjpakahocaaDoor
open Go.RowKit
namespace Clk

def begT : Tm := ⟨1970, 1, 1, 0, 0, 0⟩
theorem beg_wd : wdI begT = 4 := by decide
/-- What Of tells of a number, whichever it is. -/
theorem OfTo.case (n : Int) : (∃ t : Tm, t.Right ∧ t.secs = n ∧ ∀ e, OfTo n e → e = .returned (.tuple #[tmV t, .bool true])) ∨ (∀ e, OfTo n e → e = .returned (.tuple #[tmV Tm.zero, .bool false])) := by
  by_cases h : ∃ t : Tm, t.Right ∧ t.secs = n
  · obtain ⟨t, hr, ht⟩ := h
    refine .inl ⟨t, hr, ht, fun e he => ?_⟩
    rcases he with ⟨q, hq, hs, he⟩ | ⟨hn, _⟩
    · obtain rfl := secs_inj hq hr (hs.trans ht.symm)
      exact he
    · exact absurd (ht ▸ secs_range hr) hn
  · refine .inr fun e he => ?_
    rcases he with ⟨t, hr, ht, _⟩ | ⟨_, he⟩
    · exact absurd ⟨t, hr, ht⟩ h
    · exact he
def OfIs (n : Int) (t : Tm) (b : Bool) : Prop := ∀ w' : World, Tabs w' → Calls Tryd.prog 7 #[.int .i64 n] w' fun e w2 => e = .returned (.tuple #[tmV t, .bool b]) ∧ Below w'.heap.size w' w2
set_option maxRecDepth 100000 in
set_option maxHeartbeats 8000000 in
theorem order_no (n m N M : Int) (t1 t2 t3 : Tm) (b1 b2 b3 : Bool) (w : World) (ht : Tabs w) (hN : n.tmod 137438953472 = N) (hM : m.tmod 137438953472 = M) (n0 : -137438953472 < N) (n1 : N < 137438953472)
    (p1 : OfIs N t1 b1) (p2 : OfIs M t2 b2) (p3 : OfIs (N + 86400) t3 b3) (hb : b1 = false ∨ (b1 = true ∧ b2 = false) ∨ (b1 = true ∧ b2 = true ∧ b3 = false)) :
    Calls Tryd.prog 6 #[.int .i64 n, .int .i64 m] w fun e w' => e = .returned (.bool true) ∧ Below w.heap.size w w' := by
  have Ht := Lib.hid ht
  have P1 := Lib.hid p1
  have P2 := Lib.hid p2
  have P3 := Lib.hid p3
  unfold OfIs at P1 P2 P3
  have PB := Lib.hid (fun (w' : World) (h : Tabs w') => weekday_any begT w' h)
  rw [beg_wd] at PB
  unfold tmV at PB
  have HB := Lib.hid (Below.refl w.heap.size w)
  clear ht p1 p2 p3
  rcases hb with rfl | ⟨rfl, rfl⟩ | ⟨rfl, rfl, rfl⟩
  all_goals
    go_enter Tryd.func6, Tryd.ntmps6
    go_wp2_with fail
    refine (P1.out _ (Ht.out.keep HB.out)).mono ?_
    rintro e w1 ⟨rfl, hb1⟩
    have HBa := Lib.hid (HB.out.trans (hb1.mono HB.out.size))
    clear HB hb1
    unfold tmV
    go_wp2_with (first
      | (refine wpList_allocT ttP rfl rfl ?_; intro W1 rn bn zn; have HBN := Lib.hid bn; clear bn zn)
      | (refine wpList_storeT ttP rfl (.tmp 5) (.tmp 18) rfl w1.heap.size rfl t1 rfl Tm.zero ?_ ?_; exact rn; intro V1 rs1 on; have HR1 := Lib.hid rs1; have HB := Lib.hid (past_below HBa.out HBN.out on); clear rn rs1 on HBN HBa))
    refine (P2.out _ (Ht.out.keep HB.out)).mono ?_
    rintro e w2 ⟨rfl, hb2⟩
    have HR1a := Lib.hid (HR1.out.keep hb2)
    clear HR1
    have HBa := Lib.hid (HB.out.trans (hb2.mono HB.out.size))
    clear HB hb2
    unfold tmV
    go_wp2_with (first
      | (refine wpList_allocT ttP rfl rfl ?_; intro W2 rn bn zn; have HBN := Lib.hid bn; clear bn zn)
      | (refine wpList_storeT ttP rfl (.tmp 7) (.tmp 23) rfl w2.heap.size rfl t2 rfl Tm.zero ?_ ?_; exact rn; intro V2 rs2 on; have HR2 := Lib.hid rs2; have HR1 := Lib.hid (past_row HR1a.out HBN.out on); clear HR1a; have HB := Lib.hid (past_below HBa.out HBN.out on); clear rn rs2 on HBN HBa))
    refine (P3.out _ (Ht.out.keep HB.out)).mono ?_
    rintro e w3 ⟨rfl, hb3⟩
    have HR1a := Lib.hid (HR1.out.keep hb3)
    clear HR1
    have HR2a := Lib.hid (HR2.out.keep hb3)
    clear HR2
    have HBa := Lib.hid (HB.out.trans (hb3.mono HB.out.size))
    clear HB hb3
    unfold tmV
    go_wp2_with (first
      | (refine wpList_allocT ttP rfl rfl ?_; intro W3 rn bn zn; have HBN := Lib.hid bn; clear bn zn)
      | (refine wpList_storeT ttP rfl (.tmp 9) (.tmp 29) rfl w3.heap.size rfl t3 rfl Tm.zero ?_ ?_; exact rn; intro V3 rs3 on; have HR3 := Lib.hid rs3; have HR1 := Lib.hid (past_row HR1a.out HBN.out on); clear HR1a; have HR2 := Lib.hid (past_row HR2a.out HBN.out on); clear HR2a; have HB := Lib.hid (past_below HBa.out HBN.out on); clear rn rs3 on HBN HBa))
    refine (PB.out _ (Ht.out.keep HB.out)).mono ?_
    rintro e w4 ⟨rfl, hb4⟩
    have HBa := Lib.hid (HB.out.trans (hb4.mono HB.out.size))
    clear hb4
    go_wp2_with fail
    go_ret
    exact ⟨rfl, HBa.out⟩
set_option maxRecDepth 100000 in
set_option maxHeartbeats 8000000 in
theorem order_yes (n m N M : Int) (t1 t2 t3 : Tm) (w : World) (ht : Tabs w) (hN : n.tmod 137438953472 = N) (hM : m.tmod 137438953472 = M) (n0 : -137438953472 < N) (n1 : N < 137438953472)
    (p1 : OfIs N t1 true) (p2 : OfIs M t2 true) (p3 : OfIs (N + 86400) t3 true) (r1 : t1.Right) (r2 : t2.Right) (r3 : t3.Right) (s1 : t1.secs = N) (s2 : t2.secs = M) (s3 : t3.secs = N + 86400) :
    Calls Tryd.prog 6 #[.int .i64 n, .int .i64 m] w fun e w' => e = .returned (.bool true) ∧ Below w.heap.size w w' := by
  have Ht := Lib.hid ht
  have P1 := Lib.hid p1
  have P2 := Lib.hid p2
  have P3 := Lib.hid p3
  unfold OfIs at P1 P2 P3
  have I1 := Lib.hid (fun (w' : World) (h : Tabs w') => iso_any t1 w' h)
  have I2 := Lib.hid (fun (w' : World) (h : Tabs w') => iso_any t2 w' h)
  have D1 := Lib.hid (fun (w' : World) (h : Tabs w') => weekday_any t1 w' h)
  have D3 := Lib.hid (fun (w' : World) (h : Tabs w') => weekday_any t3 w' h)
  have PW := Lib.hid (fun (w' : World) (h : Tabs w') => web_any t1 w' h)
  rw [tell_yes r1] at I1 PW
  rw [tell_yes r2] at I2
  rw [show wdI t1 = t1.wd from if_pos r1] at D1
  rw [show wdI t3 = t3.wd from if_pos r3] at D3
  have hL : Op.bytesLess (strOfNums (isoW t1)).toList (strOfNums (isoW t2)).toList = decide (N < M) := by
    rw [less_texts _ _ (isoW_bytes t1) (isoW_bytes t2), Bool.eq_iff_iff, iso_lex r1 r2, secs_lt r1 r2, s1, s2, decide_eq_true_eq]
  have HS : Hid (Tm.same t1 t2 = (N == M)) := Lib.hid (by
    rw [Bool.eq_iff_iff, same_iff, beq_iff_eq]
    exact ⟨fun h => by rw [← s1, ← s2, h], fun h => secs_inj r1 r2 (by rw [s1, s2, h])⟩)
  have hw := (wd_next r1 r3 (by rw [s3, s1])).symm
  obtain ⟨w0, w1⟩ := wd_range t1
  have hW : (strOfNums (webW t1)).size = 29 := by rw [nums_size, webW_length]
  have HB := Lib.hid (Below.refl w.heap.size w)
  clear ht p1 p2 p3 r1 r2 r3 s1 s2 s3
  generalize strOfNums (webW t1) = sW at *
  generalize strOfNums (isoW t1) = sI at *
  generalize strOfNums (isoW t2) = sJ at *
  generalize t1.wd = a at *
  generalize t3.wd = c at *
  obtain ⟨P, hP⟩ : ∃ P, decide (N < M) = P := ⟨_, rfl⟩
  obtain ⟨Q, hQ⟩ : ∃ Q, (N == M) = Q := ⟨_, rfl⟩
  rw [hP] at hL
  rw [hQ] at HS
  unfold tmV at I1 I2 D1 D3 PW
  go_enter Tryd.func6, Tryd.ntmps6
  go_wp2_with fail
  refine (P1.out _ (Ht.out.keep HB.out)).mono ?_
  rintro e w1 ⟨rfl, hb1⟩
  have HBa := Lib.hid (HB.out.trans (hb1.mono HB.out.size))
  clear HB hb1
  unfold tmV
  go_wp2_with (first
    | (refine wpList_allocT ttP rfl rfl ?_; intro W1 rn bn zn; have HBN := Lib.hid bn; clear bn zn)
    | (refine wpList_storeT ttP rfl (.tmp 5) (.tmp 18) rfl w1.heap.size rfl t1 rfl Tm.zero ?_ ?_; exact rn; intro V1 rs1 on; have HR1 := Lib.hid rs1; have HB := Lib.hid (past_below HBa.out HBN.out on); clear rn rs1 on HBN HBa))
  refine (P2.out _ (Ht.out.keep HB.out)).mono ?_
  rintro e w2 ⟨rfl, hb2⟩
  have HR1a := Lib.hid (HR1.out.keep hb2)
  clear HR1
  have HBa := Lib.hid (HB.out.trans (hb2.mono HB.out.size))
  clear HB hb2
  unfold tmV
  go_wp2_with (first
    | (refine wpList_allocT ttP rfl rfl ?_; intro W2 rn bn zn; have HBN := Lib.hid bn; clear bn zn)
    | (refine wpList_storeT ttP rfl (.tmp 7) (.tmp 23) rfl w2.heap.size rfl t2 rfl Tm.zero ?_ ?_; exact rn; intro V2 rs2 on; have HR2 := Lib.hid rs2; have HR1 := Lib.hid (past_row HR1a.out HBN.out on); clear HR1a; have HB := Lib.hid (past_below HBa.out HBN.out on); clear rn rs2 on HBN HBa))
  refine (P3.out _ (Ht.out.keep HB.out)).mono ?_
  rintro e w3 ⟨rfl, hb3⟩
  have HR1a := Lib.hid (HR1.out.keep hb3)
  clear HR1
  have HR2a := Lib.hid (HR2.out.keep hb3)
  clear HR2
  have HBa := Lib.hid (HB.out.trans (hb3.mono HB.out.size))
  clear HB hb3
  unfold tmV
  go_wp2_with (first
    | (refine wpList_allocT ttP rfl rfl ?_; intro W3 rn bn zn; have HBN := Lib.hid bn; clear bn zn)
    | (refine wpList_storeT ttP rfl (.tmp 9) (.tmp 29) rfl w3.heap.size rfl t3 rfl Tm.zero ?_ ?_; exact rn; intro V3 rs3 on; have HR3 := Lib.hid rs3; have HR1 := Lib.hid (past_row HR1a.out HBN.out on); clear HR1a; have HR2 := Lib.hid (past_row HR2a.out HBN.out on); clear HR2a; have HB := Lib.hid (past_below HBa.out HBN.out on); clear rn rs3 on HBN HBa))
  have HR1a := Lib.hid HR1.out.drew
  clear HR1
  have HR1 := HR1a
  clear HR1a
  have HR2a := Lib.hid HR2.out.drew
  clear HR2
  have HR2 := HR2a
  clear HR2a
  have HR3a := Lib.hid HR3.out.drew
  clear HR3
  have HR3 := HR3a
  clear HR3a
  have HBa := Lib.hid HB.out.drew
  clear HB
  have HB := HBa
  clear HBa
  refine wp_region_segs [([0, 1, 2, 3, 5], 4), ([], 6), ([7, 8, 9, 10, 11, 12, 13, 14, 15, 16, 17, 18, 19, 23], 20), ([21, 22], 24), ([25, 26, 27, 28], 29)] [30, 31, 32, 33] (by kernel_rfl) (by kernel_rfl) (by kernel_rfl) (by kernel_rfl) (fun _ _ d _ _ h => by cases d <;> exact h) ?_
  generalize V3.drew = v3 at *
  refine wpSegs_next (by simp [pickOps]; rfl) ?_
  repeat (go_big_quiet_step (fail))
  refine wpQuiet_loadT ttP (.tmp 5) rfl rfl w1.heap.size rfl t1 HR1.out ?_
  go_simp
  refine wpQuiet_loadT ttP (.tmp 7) rfl rfl w2.heap.size rfl t2 HR2.out ?_
  go_simp
  refine wpQuiet_nil ?_
  refine wpOp_alone rfl rfl (fun K hK => ?_)
  go_simp
  refine (I1.out _ (Ht.out.keep HB.out)).mono ?_
  rintro e v4 ⟨rfl, hb4⟩
  refine hK _ _ ⟨hb4, ?_⟩
  have HR1a := Lib.hid (HR1.out.keep hb4)
  clear HR1
  have HR1 := HR1a
  clear HR1a
  have HR2a := Lib.hid (HR2.out.keep hb4)
  clear HR2
  have HR2 := HR2a
  clear HR2a
  have HR3a := Lib.hid (HR3.out.keep hb4)
  clear HR3
  have HR3 := HR3a
  clear HR3a
  have HBa := Lib.hid (HB.out.trans (hb4.mono HB.out.size))
  clear HB hb4 hK K
  have HB := HBa
  clear HBa
  refine wpSegs_next (by simp [pickOps]; rfl) ?_
  refine wpQuiet_nil ?_
  refine wpOp_alone rfl rfl (fun K hK => ?_)
  go_simp
  refine (I2.out _ (Ht.out.keep HB.out)).mono ?_
  rintro e v5 ⟨rfl, hb5⟩
  refine hK _ _ ⟨hb5, ?_⟩
  have HR1a := Lib.hid (HR1.out.keep hb5)
  clear HR1
  have HR1 := HR1a
  clear HR1a
  have HR2a := Lib.hid (HR2.out.keep hb5)
  clear HR2
  have HR2 := HR2a
  clear HR2a
  have HR3a := Lib.hid (HR3.out.keep hb5)
  clear HR3
  have HR3 := HR3a
  clear HR3a
  have HBa := Lib.hid (HB.out.trans (hb5.mono HB.out.size))
  clear HB hb5 hK K
  have HB := HBa
  clear HBa
  refine wpSegs_next (by simp [pickOps]; rfl) ?_
  repeat (go_big_quiet_step (fail))
  refine wpQuiet_loadT ttP (.tmp 5) rfl rfl w1.heap.size rfl t1 HR1.out ?_
  go_simp
  refine wpQuiet_loadT ttP (.tmp 7) rfl rfl w2.heap.size rfl t2 HR2.out ?_
  go_simp
  refine wpQuiet_eqlT ttP guardP (.tmp 57) (.tmp 58) _ rfl rfl t1 t2 rfl rfl Q HS.out ?_
  go_simp
  repeat (go_big_quiet_step (fail))
  refine wpQuiet_loadT ttP (.tmp 5) rfl rfl w1.heap.size rfl t1 HR1.out ?_
  go_simp
  refine wpQuiet_loadT ttP (.tmp 9) rfl rfl w3.heap.size rfl t3 HR3.out ?_
  go_simp
  refine wpQuiet_nil ?_
  refine wpOp_alone rfl rfl (fun K hK => ?_)
  go_simp
  refine (D1.out _ (Ht.out.keep HB.out)).mono ?_
  rintro e v6 ⟨rfl, hb6⟩
  refine hK _ _ ⟨hb6, ?_⟩
  have HR1a := Lib.hid (HR1.out.keep hb6)
  clear HR1
  have HR1 := HR1a
  clear HR1a
  have HR2a := Lib.hid (HR2.out.keep hb6)
  clear HR2
  have HR2 := HR2a
  clear HR2a
  have HR3a := Lib.hid (HR3.out.keep hb6)
  clear HR3
  have HR3 := HR3a
  clear HR3a
  have HBa := Lib.hid (HB.out.trans (hb6.mono HB.out.size))
  clear HB hb6 hK K
  have HB := HBa
  clear HBa
  refine wpSegs_next (by simp [pickOps]; rfl) ?_
  repeat (go_big_quiet_step (fail))
  refine wpQuiet_nil ?_
  refine wpOp_alone rfl rfl (fun K hK => ?_)
  go_simp
  refine (D3.out _ (Ht.out.keep HB.out)).mono ?_
  rintro e v7 ⟨rfl, hb7⟩
  refine hK _ _ ⟨hb7, ?_⟩
  have HR1a := Lib.hid (HR1.out.keep hb7)
  clear HR1
  have HR1 := HR1a
  clear HR1a
  have HR2a := Lib.hid (HR2.out.keep hb7)
  clear HR2
  have HR2 := HR2a
  clear HR2a
  have HR3a := Lib.hid (HR3.out.keep hb7)
  clear HR3
  have HR3 := HR3a
  clear HR3a
  have HBa := Lib.hid (HB.out.trans (hb7.mono HB.out.size))
  clear HB hb7 hK K
  have HB := HBa
  clear HBa
  refine wpSegs_next (by simp [pickOps]; rfl) ?_
  repeat (go_big_quiet_step (fail))
  refine wpQuiet_loadT ttP (.tmp 5) rfl rfl w1.heap.size rfl t1 HR1.out ?_
  go_simp
  refine wpQuiet_nil ?_
  refine wpOp_alone rfl rfl (fun K hK => ?_)
  go_simp
  refine (PW.out _ (Ht.out.keep HB.out)).mono ?_
  rintro e v8 ⟨rfl, hb8⟩
  refine hK _ _ ⟨hb8, ?_⟩
  have HR1a := Lib.hid (HR1.out.keep hb8)
  clear HR1
  have HR1 := HR1a
  clear HR1a
  have HR2a := Lib.hid (HR2.out.keep hb8)
  clear HR2
  have HR2 := HR2a
  clear HR2a
  have HR3a := Lib.hid (HR3.out.keep hb8)
  clear HR3
  have HR3 := HR3a
  clear HR3a
  have HBa := Lib.hid (HB.out.trans (hb8.mono HB.out.size))
  clear HB hb8 hK K
  have HB := HBa
  clear HBa
  refine wpSegs_last (by simp [pickOps]; rfl) ?_
  repeat (go_big_quiet_step (fail))
  refine wpQuiet_nil ?_
  go_wp2_with fail
  go_ret
  exact ⟨rfl, HB.out⟩
theorem tmod_range (n : Int) : -137438953472 < n.tmod 137438953472 ∧ n.tmod 137438953472 < 137438953472 := by
  rcases Int.le_total 0 n with h | h
  · rw [Int.tmod_eq_emod_of_nonneg h]; omega
  · have e : n.tmod 137438953472 = -((-n) % 137438953472) := by rw [← Int.tmod_eq_emod_of_nonneg (show 0 ≤ -n by omega), Int.neg_tmod, Int.neg_neg]
    rw [e]; omega
theorem lit_i64 {n : Int} (h0 : -9223372036854775808 ≤ n) (h1 : n ≤ 9223372036854775807) : (Lit.int .i64 n).wf = true := by
  have e1 : IntKind.i64.min = -9223372036854775808 := rfl
  have e2 : IntKind.i64.max = 9223372036854775807 := rfl
  simp [Lit.wf, e1, e2]
  omega
theorem order_walk (n m : Int) (w : World) (ht : Tabs w) :
    Calls Tryd.prog 6 #[.int .i64 n, .int .i64 m] w fun e w' => e = .returned (.bool true) ∧ Below w.heap.size w w' := by
  obtain ⟨n0, n1⟩ := tmod_range n
  obtain ⟨m0, m1⟩ := tmod_range m
  obtain ⟨N, hN⟩ : ∃ N, n.tmod 137438953472 = N := ⟨_, rfl⟩
  obtain ⟨M, hM⟩ : ∃ M, m.tmod 137438953472 = M := ⟨_, rfl⟩
  rw [hN] at n0 n1
  rw [hM] at m0 m1
  have of : ∀ (k : Int), -9223372036854775808 ≤ k → k ≤ 9223372036854775807 → (∃ t : Tm, t.Right ∧ t.secs = k ∧ OfIs k t true) ∨ OfIs k Tm.zero false := fun k k0 k1 => by
    rcases OfTo.case k with ⟨t, hr, hs, h⟩ | h
    · exact .inl ⟨t, hr, hs, fun w' hw => (of_any k w' hw (lit_i64 k0 k1)).mono fun e w2 hh => ⟨h e hh.1, hh.2⟩⟩
    · exact .inr fun w' hw => (of_any k w' hw (lit_i64 k0 k1)).mono fun e w2 hh => ⟨h e hh.1, hh.2⟩
  have any : ∀ (k : Int), -9223372036854775808 ≤ k → k ≤ 9223372036854775807 → ∃ t b, OfIs k t b := fun k k0 k1 => by
    rcases of k k0 k1 with ⟨t, _, _, h⟩ | h
    · exact ⟨t, true, h⟩
    · exact ⟨_, false, h⟩
  obtain ⟨q2, b2, o2⟩ := any M (by omega) (by omega)
  obtain ⟨q3, b3, o3⟩ := any (N + 86400) (by omega) (by omega)
  rcases of N (by omega) (by omega) with ⟨t1, r1, s1, p1⟩ | p1
  · rcases of M (by omega) (by omega) with ⟨t2, r2, s2, p2⟩ | p2
    · rcases of (N + 86400) (by omega) (by omega) with ⟨t3, r3, s3, p3⟩ | p3
      · exact order_yes n m N M t1 t2 t3 w ht hN hM n0 n1 p1 p2 p3 r1 r2 r3 s1 s2 s3
      · exact order_no n m N M t1 t2 _ true true false w ht hN hM n0 n1 p1 p2 p3 (.inr (.inr ⟨rfl, rfl, rfl⟩))
    · exact order_no n m N M t1 _ q3 true false b3 w ht hN hM n0 n1 p1 p2 o3 (.inr (.inl ⟨rfl, rfl⟩))
  · exact order_no n m N M _ q2 q3 false b2 b3 w ht hN hM n0 n1 p1 o2 o3 (.inl rfl)
end Clk
end Go.Proofs.YtfbgcjpakahocaaDoor

/- The document's Has, Meets, Total and Find, for any list of at most 100000 spans, valid or not. No conditions but those that stand in each lemma. -/
import Derived.Test.YteofmhdbmngfcaaSpRefValid
import Derived.Test.YteofmhdbmngfcaaSpAsks
namespace Go.Proofs.Yteofmhdbmngfcaa
open Go.RowKit

/-- At a round's head: none of the first k is one. -/
def NoneAt (w : World) (p : Sp → Bool) (l : List Sp) (i : Value) (wr : World) : Prop :=
  ∃ k : Nat, k ≤ l.length ∧ i = .int .i64 (k : Int) ∧ (∀ z ∈ l.take k, p z = false) ∧ Below w.heap.size w wr
theorem none_next {p : Sp → Bool} {l : List Sp} {k : Nat} (h : k < l.length) {x y : Int} (hx : l.getD k spZ = (x, y)) (hn : ∀ z ∈ l.take k, p z = false) (hp : p (x, y) = false) : ∀ z ∈ l.take (k + 1), p z = false := by
  intro z hz
  rw [List.getD_eq_getElem?_getD, List.getElem?_eq_getElem h] at hx
  rw [List.take_succ_eq_append_getElem h] at hz
  rcases List.mem_append.1 hz with hz | hz
  · exact hn z hz
  · obtain rfl := List.mem_singleton.1 hz
    rw [show l[k] = (x, y) from hx]; exact hp
theorem any_here {p : Sp → Bool} {l : List Sp} {k : Nat} (h : k < l.length) {x y : Int} (hx : l.getD k spZ = (x, y)) (hp : p (x, y) = true) : l.any p = true := by
  refine List.any_eq_true.2 ⟨(x, y), ?_, hp⟩
  rw [← hx]
  exact Spans.getD_mem h
theorem any_none {p : Sp → Bool} {l : List Sp} {k : Nat} (h : k = l.length) (hn : ∀ z ∈ l.take k, p z = false) : l.any p = false := by
  rw [List.any_eq_false]
  intro z hz
  rw [hn z (by rw [h, List.take_length]; exact hz)]
  simp

set_option maxRecDepth 100000 in
set_option maxHeartbeats 2000000 in
theorem rhas_any (A : Option Addr) (n c : Nat) (l : List Sp) (a b : Int) (w : World) (hn : n = l.length) (hs : SpSrc w A l) (hl : n ≤ 100000) :
    Calls Try.prog 13 #[.slice A n c, .agg #[.int .i64 a, .int .i64 b]] w fun e w' => e = .returned (.bool (Spans.hasB l (a, b))) ∧ Below w.heap.size w w' := by
  have HV : ∀ w1, Below w.heap.size w w1 → Calls Try.prog 17 #[.slice A n c] w1 fun e w' => e = .returned (.bool (Spans.validB l)) ∧ Below w1.heap.size w1 w' := fun w1 hb => rvalid_any A n c l w1 hn (hs.keep hb) hl
  have HR : ∀ w1, Calls Try.prog 28 #[.agg #[.int .i64 a, .int .i64 b]] w1 fun e w' => e = .returned (.bool (Spans.rightB (a, b))) ∧ Below w1.heap.size w1 w' := rright_any a b
  have Hn := Lib.hid hn
  have Hs := Lib.hid hs
  obtain ⟨t, ht⟩ : ∃ t, Spans.validB l = t := ⟨_, rfl⟩
  obtain ⟨u, hu⟩ : ∃ u, Spans.rightB (a, b) = u := ⟨_, rfl⟩
  have HF := Lib.hid (fitB_of ht hu)
  rw [ht] at HV
  rw [hu] at HR
  have HV2 := Lib.hid HV
  have HR2 := Lib.hid HR
  clear HV HR ht hu hn hs
  cases t
  · go_enter Try.func13, Try.ntmps13
    go_wp2_with fail
    refine (HV2.out _ ((Below.refl _ _).alloc (Nat.le_refl _) _)).mono ?_
    rintro e w1 ⟨rfl, hb1⟩
    obtain ⟨d0, d1, hb2⟩ := sp_new hb1
    clear hb1
    go_wp2_with fail
    go_ret
    exact ⟨ret_bool (by unfold Spans.hasB; rw [HF.out]; rfl), hb2⟩
  cases u
  · go_enter Try.func13, Try.ntmps13
    go_wp2_with fail
    refine (HV2.out _ ((Below.refl _ _).alloc (Nat.le_refl _) _)).mono ?_
    rintro e w1 ⟨rfl, hb1⟩
    obtain ⟨d0, d1, hb2⟩ := sp_new hb1
    clear hb1
    go_wp2_with fail
    refine (HR2.out _).mono ?_
    rintro e w2 ⟨rfl, hb3⟩
    have hb4 := hb2.trans (hb3.mono hb2.size)
    clear hb3 d0 d1
    go_wp2_with fail
    go_ret
    exact ⟨ret_bool (by unfold Spans.hasB; rw [HF.out]; rfl), hb4⟩
  go_enter Try.func13, Try.ntmps13
  go_wp2_with fail
  refine (HV2.out _ ((Below.refl _ _).alloc (Nat.le_refl _) _)).mono ?_
  rintro e w1 ⟨rfl, hb1⟩
  have HW1 := Lib.hid (sp_row hb1)
  obtain ⟨d0, d1, hb2⟩ := sp_new hb1
  clear hb1
  go_wp2_with fail
  refine (HR2.out _).mono ?_
  rintro e w2 ⟨rfl, hb3⟩
  have HW2 := Lib.hid (HW1.out.keep hb3)
  have hb4 := hb2.trans (hb3.mono hb2.size)
  have hsz2 := hb4.size
  clear hb3 hb2 d0 d1 HV2 HR2 HW1
  go_wp2_with fail
  have hsz0 : w.heap.size < w2.heap.size := HW2.out.lt
  go_loopw [5] (fun i wr => NoneAt w2 (Spans.hasP (a, b)) l i wr) (fun i _ => n - (intOf i).toNat)
  case atStart => exact ⟨0, Nat.zero_le _, rfl, (fun z hz => by simp at hz), Below.refl _ _⟩
  case round =>
    obtain ⟨k, hk, rfl, hno, hb⟩ := hrel
    have HNo := Lib.hid hno
    clear hno
    have hb9 := hb4.trans (hb.mono hsz2)
    by_cases hlt : k < l.length
    · obtain ⟨b0, o, hA, hbl, hcell⟩ := (Hs.out.keep hb4) (by omega)
      subst hA
      have hrow := HW2.out.keepB hb hsz0
      have d0 : wr.cell? ⟨w.heap.size, 0, none⟩ = some (.int .i64 a) := hrow.cell (j := 0) rfl
      have d1 : wr.cell? ⟨w.heap.size, 1, none⟩ = some (.int .i64 b) := hrow.cell (j := 1) rfl
      have c0 : wr.cell? ⟨b0, o + k * 2, none⟩ = some (.int .i64 (l.getD k spZ).1) := (hb.cell (p := ⟨b0, o + k * 2, none⟩) hbl).trans (hcell k hlt).1
      have c1 : wr.cell? ⟨b0, o + k * 2 + 1, none⟩ = some (.int .i64 (l.getD k spZ).2) := (hb.cell (p := ⟨b0, o + k * 2 + 1, none⟩) hbl).trans (hcell k hlt).2
      have hkn : k < n := by have := Hn.out; omega
      have hki : (k : Int) < (n : Int) := by omega
      obtain ⟨x, hx⟩ : ∃ x, (l.getD k spZ).1 = x := ⟨_, rfl⟩
      obtain ⟨y, hy⟩ : ∃ y, (l.getD k spZ).2 = y := ⟨_, rfl⟩
      have HXY := Lib.hid (show l.getD k spZ = (x, y) from Prod.ext hx hy)
      rw [hx] at c0
      rw [hy] at c1
      clear hcell hrow hx hy
      obtain ⟨p, hp⟩ : ∃ p, decide (x ≤ a) = p := ⟨_, rfl⟩
      obtain ⟨q, hq⟩ : ∃ q, decide (b ≤ y) = q := ⟨_, rfl⟩
      have HP := Lib.hid (show Spans.hasP (a, b) (x, y) = (p && q) by unfold Spans.hasP; rw [← hp, ← hq])
      cases p
      · go_wp2_with fail
        go_quiet (fail)
        clear hp hq
        go_wp2_with fail
        go_roundw
        case rel => exact ⟨k + 1, by omega, by go_num, none_next hlt HXY.out HNo.out HP.out, below_drewN hb _⟩
        case measure => simp [intOf]; omega
      cases q
      · go_wp2_with fail
        go_quiet (fail)
        clear hp hq
        go_wp2_with fail
        go_roundw
        case rel => exact ⟨k + 1, by omega, by go_num, none_next hlt HXY.out HNo.out HP.out, below_drewN hb _⟩
        case measure => simp [intOf]; omega
      · go_wp2_with fail
        go_quiet (fail)
        clear hp hq
        go_wp2_with fail
        go_ret
        exact ⟨ret_bool (by unfold Spans.hasB; rw [HF.out, any_here hlt HXY.out HP.out]; rfl), below_drewN hb9 _⟩
    · obtain rfl : k = n := by have := Hn.out; omega
      go_wp2_with fail
      go_ret
      exact ⟨ret_bool (by unfold Spans.hasB; rw [HF.out, any_none Hn.out HNo.out]; rfl), hb9⟩

set_option maxRecDepth 100000 in
set_option maxHeartbeats 2000000 in
theorem rmeets_any (A : Option Addr) (n c : Nat) (l : List Sp) (a b : Int) (w : World) (hn : n = l.length) (hs : SpSrc w A l) (hl : n ≤ 100000) :
    Calls Try.prog 15 #[.slice A n c, .agg #[.int .i64 a, .int .i64 b]] w fun e w' => e = .returned (.bool (Spans.meetsB l (a, b))) ∧ Below w.heap.size w w' := by
  have HV : ∀ w1, Below w.heap.size w w1 → Calls Try.prog 17 #[.slice A n c] w1 fun e w' => e = .returned (.bool (Spans.validB l)) ∧ Below w1.heap.size w1 w' := fun w1 hb => rvalid_any A n c l w1 hn (hs.keep hb) hl
  have HR : ∀ w1, Calls Try.prog 28 #[.agg #[.int .i64 a, .int .i64 b]] w1 fun e w' => e = .returned (.bool (Spans.rightB (a, b))) ∧ Below w1.heap.size w1 w' := rright_any a b
  have Hn := Lib.hid hn
  have Hs := Lib.hid hs
  obtain ⟨t, ht⟩ : ∃ t, Spans.validB l = t := ⟨_, rfl⟩
  obtain ⟨u, hu⟩ : ∃ u, Spans.rightB (a, b) = u := ⟨_, rfl⟩
  have HF := Lib.hid (fitB_of ht hu)
  rw [ht] at HV
  rw [hu] at HR
  have HV2 := Lib.hid HV
  have HR2 := Lib.hid HR
  clear HV HR ht hu hn hs
  cases t
  · go_enter Try.func15, Try.ntmps15
    go_wp2_with fail
    refine (HV2.out _ ((Below.refl _ _).alloc (Nat.le_refl _) _)).mono ?_
    rintro e w1 ⟨rfl, hb1⟩
    obtain ⟨d0, d1, hb2⟩ := sp_new hb1
    clear hb1
    go_wp2_with fail
    go_ret
    exact ⟨ret_bool (by unfold Spans.meetsB; rw [HF.out]; rfl), hb2⟩
  cases u
  · go_enter Try.func15, Try.ntmps15
    go_wp2_with fail
    refine (HV2.out _ ((Below.refl _ _).alloc (Nat.le_refl _) _)).mono ?_
    rintro e w1 ⟨rfl, hb1⟩
    obtain ⟨d0, d1, hb2⟩ := sp_new hb1
    clear hb1
    go_wp2_with fail
    refine (HR2.out _).mono ?_
    rintro e w2 ⟨rfl, hb3⟩
    have hb4 := hb2.trans (hb3.mono hb2.size)
    clear hb3 d0 d1
    go_wp2_with fail
    go_ret
    exact ⟨ret_bool (by unfold Spans.meetsB; rw [HF.out]; rfl), hb4⟩
  go_enter Try.func15, Try.ntmps15
  go_wp2_with fail
  refine (HV2.out _ ((Below.refl _ _).alloc (Nat.le_refl _) _)).mono ?_
  rintro e w1 ⟨rfl, hb1⟩
  have HW1 := Lib.hid (sp_row hb1)
  obtain ⟨d0, d1, hb2⟩ := sp_new hb1
  clear hb1
  go_wp2_with fail
  refine (HR2.out _).mono ?_
  rintro e w2 ⟨rfl, hb3⟩
  have HW2 := Lib.hid (HW1.out.keep hb3)
  have hb4 := hb2.trans (hb3.mono hb2.size)
  have hsz2 := hb4.size
  clear hb3 hb2 d0 d1 HV2 HR2 HW1
  go_wp2_with fail
  have hsz0 : w.heap.size < w2.heap.size := HW2.out.lt
  go_loopw [5] (fun i wr => NoneAt w2 (Spans.meetsP (a, b)) l i wr) (fun i _ => n - (intOf i).toNat)
  case atStart => exact ⟨0, Nat.zero_le _, rfl, (fun z hz => by simp at hz), Below.refl _ _⟩
  case round =>
    obtain ⟨k, hk, rfl, hno, hb⟩ := hrel
    have HNo := Lib.hid hno
    clear hno
    have hb9 := hb4.trans (hb.mono hsz2)
    by_cases hlt : k < l.length
    · obtain ⟨b0, o, hA, hbl, hcell⟩ := (Hs.out.keep hb4) (by omega)
      subst hA
      have hrow := HW2.out.keepB hb hsz0
      have d0 : wr.cell? ⟨w.heap.size, 0, none⟩ = some (.int .i64 a) := hrow.cell (j := 0) rfl
      have d1 : wr.cell? ⟨w.heap.size, 1, none⟩ = some (.int .i64 b) := hrow.cell (j := 1) rfl
      have c0 : wr.cell? ⟨b0, o + k * 2, none⟩ = some (.int .i64 (l.getD k spZ).1) := (hb.cell (p := ⟨b0, o + k * 2, none⟩) hbl).trans (hcell k hlt).1
      have c1 : wr.cell? ⟨b0, o + k * 2 + 1, none⟩ = some (.int .i64 (l.getD k spZ).2) := (hb.cell (p := ⟨b0, o + k * 2 + 1, none⟩) hbl).trans (hcell k hlt).2
      have hkn : k < n := by have := Hn.out; omega
      have hki : (k : Int) < (n : Int) := by omega
      obtain ⟨x, hx⟩ : ∃ x, (l.getD k spZ).1 = x := ⟨_, rfl⟩
      obtain ⟨y, hy⟩ : ∃ y, (l.getD k spZ).2 = y := ⟨_, rfl⟩
      have HXY := Lib.hid (show l.getD k spZ = (x, y) from Prod.ext hx hy)
      rw [hx] at c0
      rw [hy] at c1
      clear hcell hrow hx hy
      obtain ⟨p, hp⟩ : ∃ p, decide (x < b) = p := ⟨_, rfl⟩
      obtain ⟨q, hq⟩ : ∃ q, decide (a < y) = q := ⟨_, rfl⟩
      have HP := Lib.hid (show Spans.meetsP (a, b) (x, y) = (p && q) by unfold Spans.meetsP; rw [← hp, ← hq])
      cases p
      · go_wp2_with fail
        go_quiet (fail)
        clear hp hq
        go_wp2_with fail
        go_roundw
        case rel => exact ⟨k + 1, by omega, by go_num, none_next hlt HXY.out HNo.out HP.out, below_drewN hb _⟩
        case measure => simp [intOf]; omega
      cases q
      · go_wp2_with fail
        go_quiet (fail)
        clear hp hq
        go_wp2_with fail
        go_roundw
        case rel => exact ⟨k + 1, by omega, by go_num, none_next hlt HXY.out HNo.out HP.out, below_drewN hb _⟩
        case measure => simp [intOf]; omega
      · go_wp2_with fail
        go_quiet (fail)
        clear hp hq
        go_wp2_with fail
        go_ret
        exact ⟨ret_bool (by unfold Spans.meetsB; rw [HF.out, any_here hlt HXY.out HP.out]; rfl), below_drewN hb9 _⟩
    · obtain rfl : k = n := by have := Hn.out; omega
      go_wp2_with fail
      go_ret
      exact ⟨ret_bool (by unfold Spans.meetsB; rw [HF.out, any_none Hn.out HNo.out]; rfl), hb9⟩

set_option maxRecDepth 100000 in
set_option maxHeartbeats 1000000 in
theorem rtotal_any (A : Option Addr) (n c : Nat) (l : List Sp) (w : World) (hn : n = l.length) (hs : SpSrc w A l) (hl : n ≤ 100000) :
    Calls Try.prog 19 #[.slice A n c] w fun e w' => e = .returned (.int .i64 (Spans.totalL l)) ∧ Below w.heap.size w w' := by
  have HV : ∀ w1, Below w.heap.size w w1 → Calls Try.prog 17 #[.slice A n c] w1 fun e w' => e = .returned (.bool (Spans.validB l)) ∧ Below w1.heap.size w1 w' := fun w1 hb => rvalid_any A n c l w1 hn (hs.keep hb) hl
  have Hn := Lib.hid hn
  have Hs := Lib.hid hs
  clear hn hs
  by_cases hv : Spans.validB l = true
  · have HT := Lib.hid (show Spans.totalL l = Spans.sum l by unfold Spans.totalL; rw [if_pos hv])
    have HVL := Lib.hid ((Spans.validB_iff l).1 hv)
    rw [hv] at HV
    have HV2 := Lib.hid HV
    clear HV hv
    go_enter Try.func19, Try.ntmps19
    go_wp2_with fail
    go_loopw [3, 4] (fun s i wr => TotalAt w l s i wr) (fun _ i _ => n - (intOf i).toNat)
    case atStart => exact ⟨0, Nat.zero_le _, rfl, rfl, Below.refl _ _⟩
    case round =>
      obtain ⟨k, hk, rfl, rfl, hb⟩ := hrel
      by_cases hlt : k < l.length
      · obtain ⟨b, o, rfl, hbl, hcell⟩ := Hs.out (by omega)
        have hkn : k < n := by have := Hn.out; omega
        have hki : (k : Int) < (n : Int) := by omega
        have HX := Lib.hid (sum_next l k hlt)
        obtain ⟨r0, r1, r2⟩ := R_at HVL.out hlt
        obtain ⟨s0, s1⟩ := sum_take l k HVL.out
        have HC0 := Lib.hid (hcell k hlt)
        clear hcell
        generalize (l.getD k spZ).1 = x at *
        generalize (l.getD k spZ).2 = y at *
        generalize Spans.sum (l.take k) = s at *
        have hsz := hb.size
        go_wp2_with fail
        refine (HV2.out _ hb).mono ?_
        rintro e w1 ⟨rfl, hb1⟩
        have hb2 := hb.trans (hb1.mono hsz)
        have c0 := (hb2.cell (p := ⟨b, o + k * 2, none⟩) hbl).trans HC0.out.1
        have c1 := (hb2.cell (p := ⟨b, o + k * 2 + 1, none⟩) hbl).trans HC0.out.2
        have HE1 := Lib.hid (show IntKind.i64.wrap (s + y) = s + y from IntWalk.i64_in _ (by omega))
        have HE2 := Lib.hid (show IntKind.i64.wrap (s + y - x) = s + y - x from IntWalk.i64_in _ (by omega))
        clear hb1
        go_wp2_with fail
        have e1 := HE1.out
        have e2 := HE2.out
        go_quiet (fail)
        clear e1 e2
        go_wp2_with fail
        go_roundw
        case rel => exact ⟨k + 1, by omega, by go_num, by rw [HX.out]; exact congrArg (Value.int .i64) (by omega), below_drewN hb2 _⟩
        case measure => simp [intOf]; omega
      · obtain rfl : k = n := by have := Hn.out; omega
        have HK := Lib.hid (show Spans.sum (l.take k) = Spans.totalL l by rw [HT.out, List.take_of_length_le (by rw [← Hn.out]; exact Nat.le_refl _)])
        go_wp2_with fail
        go_ret
        exact ⟨ret_i64 HK.out, hb⟩
  · have HT := Lib.hid (show Spans.totalL l = 0 by unfold Spans.totalL; rw [if_neg hv])
    rw [Bool.not_eq_true] at hv
    rw [hv] at HV
    have HV2 := Lib.hid HV
    clear HV hv
    rcases Nat.eq_zero_or_pos n with hn0 | hnp
    · subst hn0
      go_enter Try.func19, Try.ntmps19
      go_wp2_with fail
      refine wp_loop_rounds 1 ?_
      rw [rounds_succ]
      go_wp2_with fail
      go_ret
      exact ⟨ret_i64 HT.out.symm, Below.refl _ _⟩
    · go_enter Try.func19, Try.ntmps19
      go_wp2_with fail
      refine wp_loop_rounds 1 ?_
      rw [rounds_succ]
      go_wp2_with fail
      refine (HV2.out _ (Below.refl _ _)).mono ?_
      rintro e w1 ⟨rfl, hb1⟩
      go_wp2_with fail
      go_ret
      exact ⟨ret_i64 HT.out.symm, hb1⟩

set_option maxRecDepth 100000 in
set_option maxHeartbeats 1000000 in
theorem rfind_any (A : Option Addr) (n c : Nat) (l : List Sp) (m : Int) (w : World) (hn : n = l.length) (hs : SpSrc w A l) (hl : n ≤ 100000) :
    Calls Try.prog 21 #[.slice A n c, .int .i64 m] w fun e w' => e = .returned (.int .i64 (Spans.findL l m)) ∧ Below w.heap.size w w' := by
  have HV := rvalid_any A n c l w hn hs hl
  have Hn := Lib.hid hn
  have Hs := Lib.hid hs
  clear hn hs
  by_cases hm : m < 1
  · have HT := Lib.hid (show Spans.findL l m = -1 by unfold Spans.findL; rw [if_pos hm])
    clear HV
    go_enter Try.func21, Try.ntmps21
    go_wp2_with fail
    go_ret
    exact ⟨ret_i64 HT.out.symm, Below.refl _ _⟩
  by_cases hv : Spans.validB l = true
  · have HT := Lib.hid (show Spans.findL l m = Spans.findIn l m by unfold Spans.findL; rw [if_neg hm, if_pos hv])
    have HVL := Lib.hid ((Spans.validB_iff l).1 hv)
    rw [hv] at HV
    have HV2 := Lib.hid HV
    clear HV hv
    go_enter Try.func21, Try.ntmps21
    go_wp2_with fail
    refine HV2.out.mono ?_
    rintro e w1 ⟨rfl, hb1⟩
    go_wp2_with fail
    go_loopw [5] (fun i wr => FindAt w l m i wr) (fun i _ => n - (intOf i).toNat)
    case atStart => exact ⟨0, Nat.zero_le _, rfl, rfl, hb1⟩
    case round =>
      obtain ⟨k, hk, rfl, hf, hb⟩ := hrel
      have HFI := Lib.hid hf
      clear hf
      by_cases hlt : k < l.length
      · obtain ⟨b, o, rfl, hbl, hcell⟩ := Hs.out (by omega)
        have c0 := (hb.cell (p := ⟨b, o + k * 2, none⟩) hbl).trans (hcell k hlt).1
        have c1 := (hb.cell (p := ⟨b, o + k * 2 + 1, none⟩) hbl).trans (hcell k hlt).2
        have hkn : k < n := by have := Hn.out; omega
        have hki : (k : Int) < (n : Int) := by omega
        have HX := Lib.hid (findIn_at l k hlt m)
        obtain ⟨r0, r1, r2⟩ := R_at HVL.out hlt
        clear hcell
        generalize (l.getD k spZ).1 = x at *
        generalize (l.getD k spZ).2 = y at *
        have hsz := hb.size
        have HE1 := Lib.hid (show IntKind.i64.wrap (y - x) = y - x from IntWalk.i64_in _ (by omega))
        by_cases hd : m ≤ y - x
        · have HY := Lib.hid (show x = Spans.findL l m by rw [HT.out, HFI.out, HX.out, if_pos hd])
          go_wp2_with fail
          have e1 := HE1.out
          go_quiet (fail)
          clear e1
          go_wp2_with fail
          go_ret
          exact ⟨ret_i64 HY.out, below_drewN hb _⟩
        · have HY := Lib.hid (show Spans.findIn l m = Spans.findIn (l.drop (k + 1)) m by rw [HFI.out, HX.out, if_neg hd])
          have hd2 : decide (m ≤ y - x) = false := by simpa using hd
          go_wp2_with fail
          have e1 := HE1.out
          go_quiet (fail)
          clear e1
          go_wp2_with fail
          go_roundw
          case rel => exact ⟨k + 1, by omega, by go_num, HY.out, below_drewN hb _⟩
          case measure => simp [intOf]; omega
      · obtain rfl : k = n := by have := Hn.out; omega
        have HK := Lib.hid (show -1 = Spans.findL l m by rw [HT.out, HFI.out, List.drop_of_length_le (by rw [← Hn.out]; exact Nat.le_refl _)]; rfl)
        go_wp2_with fail
        go_ret
        exact ⟨ret_i64 HK.out, hb⟩
  · have HT := Lib.hid (show Spans.findL l m = -1 by unfold Spans.findL; rw [if_neg hm, if_neg hv])
    rw [Bool.not_eq_true] at hv
    rw [hv] at HV
    have HV2 := Lib.hid HV
    clear HV hv
    go_enter Try.func21, Try.ntmps21
    go_wp2_with fail
    refine HV2.out.mono ?_
    rintro e w1 ⟨rfl, hb1⟩
    go_wp2_with fail
    go_ret
    exact ⟨ret_i64 HT.out.symm, hb1⟩
end Go.Proofs.Yteofmhdbmngfcaa

/- The document's Next, for any text (at most 800000 bytes): the character that it begins with, and its bytes' number; nothing that was there is written. No conditions but those that stand in each lemma. -/
import Derived.Test.YthifoodhndjmdaaDoorUtfRefPut
namespace Go.Proofs.YthifoodhndjmdaaDoor
open Go.RowKit
namespace Utf

theorem strOf_eq (xs ys : List Int) (hx : IsBytes xs) (hy : IsBytes ys) : (strOfNums xs == strOfNums ys) = decide (xs = ys) := by
  have hb : ∀ a b : ByteArray, (a == b) = true ↔ a = b := fun a b => by
    obtain ⟨x⟩ := a
    obtain ⟨y⟩ := b
    constructor
    · intro h
      have e : x = y := by simpa using (show (x == y) = true from h)
      rw [e]
    · intro h
      injection h with h
      show (x == y) = true
      simp [h]
  rw [Bool.eq_iff_iff, hb, decide_eq_true_eq]
  refine ⟨fun h => ?_, fun h => by rw [h]⟩
  have := congrArg numsOf h
  rwa [numsOf_strOfNums xs hx, numsOf_strOfNums ys hy] at this
theorem str_eq (xs : List Int) (t : ByteArray) (hx : IsBytes xs) : (strOfNums xs == t) = decide (xs = numsOf t) := by
  have h := strOf_eq xs (numsOf t) hx (numsOf_bytes t)
  rwa [strOfNums_numsOf] at h
/-- What the first k bytes tell so far. -/
def accK (xs : List Int) : Nat → Int
  | 0 => 0
  | k + 1 => valK xs k
theorem val_zero (xs : List Int) (hx : IsBytes xs) : ∀ k, 0 ≤ valK xs k
  | 0 => (head_le _ (hx.at_ 0)).1
  | k + 1 => by
    have := val_zero xs hx k
    simp only [valK]
    omega
theorem val_big (xs : List Int) (hx : IsBytes xs) (k : Nat) (hk : k ≤ 3) : valK xs k ≤ 100000000 := by
  have h0 := (head_le _ (hx.at_ 0)).2
  rcases (show k = 0 ∨ k = 1 ∨ k = 2 ∨ k = 3 by omega) with rfl | rfl | rfl | rfl <;> simp only [valK] <;> omega
theorem form_big {c : Int} (h : 1114111 < c) : formI c = [] := by unfold formI; rw [if_pos (by omega)]

/-- At a round's head: the first m - 1 numbers of bytes tell no character. -/
def RnAt (w : World) (xs : List Int) (nv mv : Value) (wr : World) : Prop :=
  ∃ (k m : Nat), m = k + 1 ∧ k ≤ 4 ∧ k ≤ xs.length ∧ mv = .int .i64 (m : Int) ∧ nv = .int .i64 (accK xs k) ∧ (∀ j, j < k → formI (valK xs j) ≠ xs.take (j + 1)) ∧ Below w.heap.size w wr
set_option maxRecDepth 100000 in
set_option maxHeartbeats 8000000 in
theorem rnext_any (s : ByteArray) (w : World) (hl : s.size ≤ 800000) :
    Calls Tryd.prog 8 #[.string s] w fun e w' => e = .returned (.tuple #[.int .i32 (nextI (numsOf s)).1, .int .i64 ((nextI (numsOf s)).2 : Int)]) ∧ Below w.heap.size w w' := by
  have HL := Lib.hid (numsOf_length s)
  have HX := Lib.hid (numsOf_bytes s)
  have HS := Lib.hid (next_spec (numsOf s) (numsOf_bytes s))
  go_enter Tryd.func8, Tryd.ntmps8
  go_wp2_with fail
  go_loopw [4, 5] (fun nv mv wr => RnAt w (numsOf s) nv mv wr) (fun _ mv _ => 5 - (intOf mv).toNat)
  case atStart => exact ⟨0, 1, rfl, by omega, by omega, rfl, rfl, fun j hj => absurd hj (by omega), Below.refl _ _⟩
  case round =>
    obtain ⟨k, m, hm, hk4, hkl, rfl, rfl, hno, hb⟩ := hrel
    have HNO := Lib.hid hno
    have HM := Lib.hid hm
    have hkl2 : k ≤ s.size := by rw [← HL.out]; exact hkl
    clear hno hkl
    by_cases hgo : k < 4 ∧ k < s.size
    · obtain ⟨g4, gl⟩ := hgo
      have HM1 : Hid (m + 1 = k + 1 + 1) := Lib.hid (by omega)
      have ix := fun w' => run_index_str (P := Tryd.prog) w' 9 s ((m : Int) - 1) k (by omega) Tryd.underlying9 gl
      have hx := HX.out.at_ k
      have HNX := Lib.hid (fun (h : formI (valK (numsOf s) k) ≠ (numsOf s).take (k + 1)) (j : Nat) (hj : j < k + 1) => (show formI (valK (numsOf s) j) ≠ (numsOf s).take (j + 1) by
        rcases Nat.lt_succ_iff_lt_or_eq.1 hj with h' | rfl
        · exact HNO.out j h'
        · exact h))
      have HYS0 := Lib.hid (fun (h : formI (valK (numsOf s) k) = (numsOf s).take m) => (show nextI (numsOf s) = (valK (numsOf s) k, m) by
        rw [HM.out] at h ⊢
        rcases HS.out with ⟨_, h2⟩ | ⟨q, hq, hql, hqe, _, h2⟩
        · exact absurd h (h2 k g4 (by rw [HL.out]; omega))
        · by_cases hqk : k = q
          · rw [hqk]; exact hqe
          · exact absurd h (h2 k g4 (by rw [HL.out]; omega) hqk)))
      have gm1 : (m : Int) ≤ 4 := by omega
      have gm2 : (m : Int) ≤ (s.size : Int) := by omega
      have gm3 : m ≤ s.size := by omega
      have VZ := val_zero (numsOf s) HX.out k
      have VB := val_big (numsOf s) HX.out k (by omega)
      have HYS := Lib.hid (fun (v : Int) (hv : valK (numsOf s) k = v) (h : formI v = (numsOf s).take m) => (show nextI (numsOf s) = (v, m) by rw [← hv]; exact HYS0.out (by rw [hv]; exact h)))
      clear HYS0 HS HNO
      by_cases hk0 : k = 0
      · subst hk0
        obtain rfl : m = 1 := hm
        have i0 := fun w' => run_index_str (P := Tryd.prog) w' 9 s 0 0 rfl Tryd.underlying9 gl
        have HA : Hid (accK (numsOf s) 0 = 0) := Lib.hid rfl
        rw [HA.out]
        obtain ⟨x, ex⟩ : ∃ x, (numsOf s).getD 0 0 = x := ⟨_, rfl⟩
        have EX := Lib.hid ex
        rw [ex] at i0 hx
        clear ex VZ VB ix
        rcases more_cases x with ⟨e, f⟩ | ⟨e, f, f'⟩ | ⟨e, f, f'⟩ | ⟨e, f⟩
        · have HV : Hid (valK (numsOf s) 0 = x) := Lib.hid (by rw [valK, EX.out, e]; simp only [markI]; omega)
          have hv1 : x ≤ 100000000 := by omega
          have hbig : ¬ 1114111 < x := by omega
          have HP := Lib.hid (fun w' : World => rput_any none 0 0 [] x w' rfl Src.none_ (by omega) (by omega))
          have hd : decide (x ≤ 1114111) = true := by simp; omega
          go_wp2_with fail
          refine wp_region_segs [([0, 1, 2, 3, 4, 7, 8, 9], 5)] [6, 10, 11] (by kernel_rfl) (by kernel_rfl) (by kernel_rfl) (by kernel_rfl) (fun _ _ d _ _ h => by cases d <;> exact h) ?_
          refine wpSegs_next (by simp [pickOps]; rfl) ?_
          repeat (go_big_quiet_step (fail))
          refine wpQuiet_nil ?_
          refine wpOp_alone rfl rfl (fun K hK => ?_)
          go_simp
          refine (HP.out _).mono ?_
          rintro e w1 ⟨v1, rfl, A1, n1, c1, rfl, hn1, ho1, hb1⟩
          rw [List.nil_append] at hn1 ho1
          refine hK _ _ ⟨hb1, ?_⟩
          clear hK K
          have HB1 := Lib.hid (hb.drew.trans (hb1.mono hb.size))
          by_cases hyes : formI x = (numsOf s).take 1
          · have HQ : Hid (nextI (numsOf s) = (x, 1)) := Lib.hid (HYS.out x HV.out hyes)
            have ht1 : ∀ g : Above w1, (convert 27 9 (.slice A1 n1 c1)).run Tryd.prog g.1 = .ok (.string (s.extract 0 1)) g.1 := fun g => by
              have e := run_text g.1 A1 n1 c1 _ hn1 (ho1.src.keep g.2)
              rw [hyes, ← nums_upto, strOfNums_numsOf] at e
              exact e
            clear hn1 ho1 hyes
            refine wpSegs_last (by simp [pickOps]; rfl) ?_
            repeat (go_big_quiet_step (fail))
            refine wpQuiet_nil ?_
            clear ht1
            go_wp2_with fail
            go_ret2
            exact ⟨by rw [HQ.out]; rfl, HB1.out⟩
          · have HNE := Lib.hid (show formI (valK (numsOf s) 0) ≠ (numsOf s).take (0 + 1) by
              intro h
              rw [HV.out] at h
              exact hyes (h.trans (congrArg (fun n => (numsOf s).take n) rfl)))
            obtain ⟨S, hS⟩ : ∃ S, strOfNums (formI x) = S := ⟨_, rfl⟩
            have hE1 : (S == s.extract 0 1) = false := by rw [← hS, str_eq _ _ (form_bytes x), nums_upto, decide_eq_false hyes]
            have hE2 : (S.toList == (s.extract 0 1).toList) = false := by rw [← beq_toListBytes]; exact hE1
            have ht1 : ∀ g : Above w1, (convert 27 9 (.slice A1 n1 c1)).run Tryd.prog g.1 = .ok (.string S) g.1 := fun g => by
              have e := run_text g.1 A1 n1 c1 _ hn1 (ho1.src.keep g.2)
              rw [hS] at e
              exact e
            clear hn1 ho1 hyes hS
            refine wpSegs_last (by simp [pickOps]; rfl) ?_
            repeat (go_big_quiet_step (fail))
            refine wpQuiet_nil ?_
            clear ht1
            go_wp2_with fail
            refine ⟨⟨0 + 1, 1 + 1, rfl, by omega, by rw [HL.out]; omega, by go_num, by rw [accK, HV.out], HNX.out HNE.out, HB1.out⟩, ?_⟩
            simp [intOf] <;> omega
        · obtain ⟨v, ev⟩ : ∃ v, x - 192 = v := ⟨_, rfl⟩
          have HV : Hid (valK (numsOf s) 0 = v) := Lib.hid (by rw [valK, EX.out, e, ← ev]; simp only [markI])
          have hv0 : 0 ≤ v := by omega
          have hv1 : v ≤ 100000000 := by omega
          have hbig : ¬ 1114111 < v := by omega
          have HP := Lib.hid (fun w' : World => rput_any none 0 0 [] v w' rfl Src.none_ (by omega) (by omega))
          have hd : decide (v ≤ 1114111) = true := by simp; omega
          go_wp2_with fail
          refine wp_region_segs [([0, 1, 2, 3, 4, 7, 8, 9], 5)] [6, 10, 11] (by kernel_rfl) (by kernel_rfl) (by kernel_rfl) (by kernel_rfl) (fun _ _ d _ _ h => by cases d <;> exact h) ?_
          refine wpSegs_next (by simp [pickOps]; rfl) ?_
          repeat (go_big_quiet_step (fail))
          refine wpQuiet_nil ?_
          refine wpOp_alone rfl rfl (fun K hK => ?_)
          go_simp
          refine (HP.out _).mono ?_
          rintro e w1 ⟨v1, rfl, A1, n1, c1, rfl, hn1, ho1, hb1⟩
          rw [List.nil_append] at hn1 ho1
          refine hK _ _ ⟨hb1, ?_⟩
          clear hK K
          have HB1 := Lib.hid (hb.drew.trans (hb1.mono hb.size))
          by_cases hyes : formI v = (numsOf s).take 1
          · have HQ : Hid (nextI (numsOf s) = (v, 1)) := Lib.hid (HYS.out v HV.out hyes)
            have ht1 : ∀ g : Above w1, (convert 27 9 (.slice A1 n1 c1)).run Tryd.prog g.1 = .ok (.string (s.extract 0 1)) g.1 := fun g => by
              have e := run_text g.1 A1 n1 c1 _ hn1 (ho1.src.keep g.2)
              rw [hyes, ← nums_upto, strOfNums_numsOf] at e
              exact e
            clear hn1 ho1 hyes
            refine wpSegs_last (by simp [pickOps]; rfl) ?_
            repeat (go_big_quiet_step (fail))
            refine wpQuiet_nil ?_
            clear ht1
            go_wp2_with fail
            go_ret2
            exact ⟨by rw [HQ.out]; rfl, HB1.out⟩
          · have HNE := Lib.hid (show formI (valK (numsOf s) 0) ≠ (numsOf s).take (0 + 1) by
              intro h
              rw [HV.out] at h
              exact hyes (h.trans (congrArg (fun n => (numsOf s).take n) rfl)))
            obtain ⟨S, hS⟩ : ∃ S, strOfNums (formI v) = S := ⟨_, rfl⟩
            have hE1 : (S == s.extract 0 1) = false := by rw [← hS, str_eq _ _ (form_bytes v), nums_upto, decide_eq_false hyes]
            have hE2 : (S.toList == (s.extract 0 1).toList) = false := by rw [← beq_toListBytes]; exact hE1
            have ht1 : ∀ g : Above w1, (convert 27 9 (.slice A1 n1 c1)).run Tryd.prog g.1 = .ok (.string S) g.1 := fun g => by
              have e := run_text g.1 A1 n1 c1 _ hn1 (ho1.src.keep g.2)
              rw [hS] at e
              exact e
            clear hn1 ho1 hyes hS
            refine wpSegs_last (by simp [pickOps]; rfl) ?_
            repeat (go_big_quiet_step (fail))
            refine wpQuiet_nil ?_
            clear ht1
            go_wp2_with fail
            refine ⟨⟨0 + 1, 1 + 1, rfl, by omega, by rw [HL.out]; omega, by go_num, by rw [accK, HV.out], HNX.out HNE.out, HB1.out⟩, ?_⟩
            simp [intOf] <;> omega
        · obtain ⟨v, ev⟩ : ∃ v, x - 224 = v := ⟨_, rfl⟩
          have HV : Hid (valK (numsOf s) 0 = v) := Lib.hid (by rw [valK, EX.out, e, ← ev]; simp only [markI])
          have hv0 : 0 ≤ v := by omega
          have hv1 : v ≤ 100000000 := by omega
          have hbig : ¬ 1114111 < v := by omega
          have HP := Lib.hid (fun w' : World => rput_any none 0 0 [] v w' rfl Src.none_ (by omega) (by omega))
          have hd : decide (v ≤ 1114111) = true := by simp; omega
          go_wp2_with fail
          refine wp_region_segs [([0, 1, 2, 3, 4, 7, 8, 9], 5)] [6, 10, 11] (by kernel_rfl) (by kernel_rfl) (by kernel_rfl) (by kernel_rfl) (fun _ _ d _ _ h => by cases d <;> exact h) ?_
          refine wpSegs_next (by simp [pickOps]; rfl) ?_
          repeat (go_big_quiet_step (fail))
          refine wpQuiet_nil ?_
          refine wpOp_alone rfl rfl (fun K hK => ?_)
          go_simp
          refine (HP.out _).mono ?_
          rintro e w1 ⟨v1, rfl, A1, n1, c1, rfl, hn1, ho1, hb1⟩
          rw [List.nil_append] at hn1 ho1
          refine hK _ _ ⟨hb1, ?_⟩
          clear hK K
          have HB1 := Lib.hid (hb.drew.trans (hb1.mono hb.size))
          by_cases hyes : formI v = (numsOf s).take 1
          · have HQ : Hid (nextI (numsOf s) = (v, 1)) := Lib.hid (HYS.out v HV.out hyes)
            have ht1 : ∀ g : Above w1, (convert 27 9 (.slice A1 n1 c1)).run Tryd.prog g.1 = .ok (.string (s.extract 0 1)) g.1 := fun g => by
              have e := run_text g.1 A1 n1 c1 _ hn1 (ho1.src.keep g.2)
              rw [hyes, ← nums_upto, strOfNums_numsOf] at e
              exact e
            clear hn1 ho1 hyes
            refine wpSegs_last (by simp [pickOps]; rfl) ?_
            repeat (go_big_quiet_step (fail))
            refine wpQuiet_nil ?_
            clear ht1
            go_wp2_with fail
            go_ret2
            exact ⟨by rw [HQ.out]; rfl, HB1.out⟩
          · have HNE := Lib.hid (show formI (valK (numsOf s) 0) ≠ (numsOf s).take (0 + 1) by
              intro h
              rw [HV.out] at h
              exact hyes (h.trans (congrArg (fun n => (numsOf s).take n) rfl)))
            obtain ⟨S, hS⟩ : ∃ S, strOfNums (formI v) = S := ⟨_, rfl⟩
            have hE1 : (S == s.extract 0 1) = false := by rw [← hS, str_eq _ _ (form_bytes v), nums_upto, decide_eq_false hyes]
            have hE2 : (S.toList == (s.extract 0 1).toList) = false := by rw [← beq_toListBytes]; exact hE1
            have ht1 : ∀ g : Above w1, (convert 27 9 (.slice A1 n1 c1)).run Tryd.prog g.1 = .ok (.string S) g.1 := fun g => by
              have e := run_text g.1 A1 n1 c1 _ hn1 (ho1.src.keep g.2)
              rw [hS] at e
              exact e
            clear hn1 ho1 hyes hS
            refine wpSegs_last (by simp [pickOps]; rfl) ?_
            repeat (go_big_quiet_step (fail))
            refine wpQuiet_nil ?_
            clear ht1
            go_wp2_with fail
            refine ⟨⟨0 + 1, 1 + 1, rfl, by omega, by rw [HL.out]; omega, by go_num, by rw [accK, HV.out], HNX.out HNE.out, HB1.out⟩, ?_⟩
            simp [intOf] <;> omega
        · obtain ⟨v, ev⟩ : ∃ v, x - 240 = v := ⟨_, rfl⟩
          have HV : Hid (valK (numsOf s) 0 = v) := Lib.hid (by rw [valK, EX.out, e, ← ev]; simp only [markI])
          have hv0 : 0 ≤ v := by omega
          have hv1 : v ≤ 100000000 := by omega
          have hbig : ¬ 1114111 < v := by omega
          have HP := Lib.hid (fun w' : World => rput_any none 0 0 [] v w' rfl Src.none_ (by omega) (by omega))
          have hd : decide (v ≤ 1114111) = true := by simp; omega
          go_wp2_with fail
          refine wp_region_segs [([0, 1, 2, 3, 4, 7, 8, 9], 5)] [6, 10, 11] (by kernel_rfl) (by kernel_rfl) (by kernel_rfl) (by kernel_rfl) (fun _ _ d _ _ h => by cases d <;> exact h) ?_
          refine wpSegs_next (by simp [pickOps]; rfl) ?_
          repeat (go_big_quiet_step (fail))
          refine wpQuiet_nil ?_
          refine wpOp_alone rfl rfl (fun K hK => ?_)
          go_simp
          refine (HP.out _).mono ?_
          rintro e w1 ⟨v1, rfl, A1, n1, c1, rfl, hn1, ho1, hb1⟩
          rw [List.nil_append] at hn1 ho1
          refine hK _ _ ⟨hb1, ?_⟩
          clear hK K
          have HB1 := Lib.hid (hb.drew.trans (hb1.mono hb.size))
          by_cases hyes : formI v = (numsOf s).take 1
          · have HQ : Hid (nextI (numsOf s) = (v, 1)) := Lib.hid (HYS.out v HV.out hyes)
            have ht1 : ∀ g : Above w1, (convert 27 9 (.slice A1 n1 c1)).run Tryd.prog g.1 = .ok (.string (s.extract 0 1)) g.1 := fun g => by
              have e := run_text g.1 A1 n1 c1 _ hn1 (ho1.src.keep g.2)
              rw [hyes, ← nums_upto, strOfNums_numsOf] at e
              exact e
            clear hn1 ho1 hyes
            refine wpSegs_last (by simp [pickOps]; rfl) ?_
            repeat (go_big_quiet_step (fail))
            refine wpQuiet_nil ?_
            clear ht1
            go_wp2_with fail
            go_ret2
            exact ⟨by rw [HQ.out]; rfl, HB1.out⟩
          · have HNE := Lib.hid (show formI (valK (numsOf s) 0) ≠ (numsOf s).take (0 + 1) by
              intro h
              rw [HV.out] at h
              exact hyes (h.trans (congrArg (fun n => (numsOf s).take n) rfl)))
            obtain ⟨S, hS⟩ : ∃ S, strOfNums (formI v) = S := ⟨_, rfl⟩
            have hE1 : (S == s.extract 0 1) = false := by rw [← hS, str_eq _ _ (form_bytes v), nums_upto, decide_eq_false hyes]
            have hE2 : (S.toList == (s.extract 0 1).toList) = false := by rw [← beq_toListBytes]; exact hE1
            have ht1 : ∀ g : Above w1, (convert 27 9 (.slice A1 n1 c1)).run Tryd.prog g.1 = .ok (.string S) g.1 := fun g => by
              have e := run_text g.1 A1 n1 c1 _ hn1 (ho1.src.keep g.2)
              rw [hS] at e
              exact e
            clear hn1 ho1 hyes hS
            refine wpSegs_last (by simp [pickOps]; rfl) ?_
            repeat (go_big_quiet_step (fail))
            refine wpQuiet_nil ?_
            clear ht1
            go_wp2_with fail
            refine ⟨⟨0 + 1, 1 + 1, rfl, by omega, by rw [HL.out]; omega, by go_num, by rw [accK, HV.out], HNX.out HNE.out, HB1.out⟩, ?_⟩
            simp [intOf] <;> omega
      · have EX0 := Lib.hid (show ∃ x, (numsOf s).getD k 0 = x from ⟨_, rfl⟩)
        obtain ⟨x, ex⟩ := EX0.out
        obtain ⟨q, hq⟩ : ∃ q, k = q + 1 := ⟨k - 1, by omega⟩
        have HA : Hid (accK (numsOf s) k = valK (numsOf s) q) := Lib.hid (by rw [hq]; rfl)
        have VZq := val_zero (numsOf s) HX.out q
        have VBq := val_big (numsOf s) HX.out q (by omega)
        obtain ⟨a, ea⟩ : ∃ a, valK (numsOf s) q = a := ⟨_, rfl⟩
        rw [HA.out, ea]
        obtain ⟨v, ev⟩ : ∃ v, a * 64 + (x + 128) % 256 = v := ⟨_, rfl⟩
        have HV : Hid (valK (numsOf s) k = v) := Lib.hid (by
          have ex2 := ex
          rw [hq] at ex2 ⊢
          simp only [valK]
          rw [ea, ex2, ← ev]
          omega)
        rw [HV.out] at VZ VB
        rw [ea] at VZq VBq
        rw [ex] at ix hx
        have hmn : ((m : Int) == 1) = false := by simp; omega
        have hmn2 : ¬ (m : Int) = 1 := by omega
        clear EX0 ex HA ea hq hm hk0
        by_cases hbig : 1114111 < v
        · have HNE := Lib.hid (show formI (valK (numsOf s) k) ≠ (numsOf s).take (k + 1) by
            rw [HV.out, form_big hbig]
            intro e
            have e2 := congrArg List.length e
            rw [List.length_take, List.length_nil, HL.out] at e2
            omega)
          have hd : decide (v ≤ 1114111) = false := by simp; omega
          go_wp2_with fail
          refine wp_region_segs [([0, 1, 2, 3, 4, 7, 8, 9], 5)] [6, 10, 11] (by kernel_rfl) (by kernel_rfl) (by kernel_rfl) (by kernel_rfl) (fun _ _ d _ _ h => by cases d <;> exact h) ?_
          refine wpSegs_next (by simp [pickOps]; rfl) ?_
          repeat (go_big_quiet_step (fail))
          refine wpQuiet_nil ?_
          refine wpOp_skip rfl rfl ?_
          refine ⟨Ext.refl _, ?_⟩
          go_simp
          refine wpSegs_last (by simp [pickOps]; rfl) ?_
          repeat (go_big_quiet_step (fail))
          refine wpQuiet_nil ?_
          go_wp2_with fail
          refine ⟨⟨k + 1, m + 1, HM1.out, by omega, by rw [HL.out]; omega, by go_num, by rw [accK, HV.out], HNX.out HNE.out, hb.drew⟩, ?_⟩
          simp [intOf] <;> omega
        · have HP := Lib.hid (fun w' : World => rput_any none 0 0 [] v w' rfl Src.none_ (by omega) (by omega))
          have hd : decide (v ≤ 1114111) = true := by simp; omega
          go_wp2_with fail
          refine wp_region_segs [([0, 1, 2, 3, 4, 7, 8, 9], 5)] [6, 10, 11] (by kernel_rfl) (by kernel_rfl) (by kernel_rfl) (by kernel_rfl) (fun _ _ d _ _ h => by cases d <;> exact h) ?_
          refine wpSegs_next (by simp [pickOps]; rfl) ?_
          repeat (go_big_quiet_step (fail))
          refine wpQuiet_nil ?_
          refine wpOp_alone rfl rfl (fun K hK => ?_)
          go_simp
          refine (HP.out _).mono ?_
          rintro e w1 ⟨v1, rfl, A1, n1, c1, rfl, hn1, ho1, hb1⟩
          rw [List.nil_append] at hn1 ho1
          refine hK _ _ ⟨hb1, ?_⟩
          clear hK K
          have HB1 := Lib.hid (hb.drew.trans (hb1.mono hb.size))
          by_cases hyes : formI v = (numsOf s).take m
          · have HQ : Hid (nextI (numsOf s) = (v, m)) := Lib.hid (HYS.out v HV.out hyes)
            have ht1 : ∀ g : Above w1, (convert 27 9 (.slice A1 n1 c1)).run Tryd.prog g.1 = .ok (.string (s.extract 0 m)) g.1 := fun g => by
              have e := run_text g.1 A1 n1 c1 _ hn1 (ho1.src.keep g.2)
              rw [hyes, ← nums_upto, strOfNums_numsOf] at e
              exact e
            clear hn1 ho1 hyes
            refine wpSegs_last (by simp [pickOps]; rfl) ?_
            repeat (go_big_quiet_step (fail))
            refine wpQuiet_nil ?_
            clear ht1
            go_wp2_with fail
            go_ret2
            exact ⟨by rw [HQ.out]; rfl, HB1.out⟩
          · have HNE := Lib.hid (show formI (valK (numsOf s) k) ≠ (numsOf s).take (k + 1) by
              intro h
              rw [HV.out] at h
              exact hyes (h.trans (congrArg (fun n => (numsOf s).take n) HM.out.symm)))
            obtain ⟨S, hS⟩ : ∃ S, strOfNums (formI v) = S := ⟨_, rfl⟩
            have hE1 : (S == s.extract 0 m) = false := by rw [← hS, str_eq _ _ (form_bytes v), nums_upto, decide_eq_false hyes]
            have hE2 : (S.toList == (s.extract 0 m).toList) = false := by rw [← beq_toListBytes]; exact hE1
            have ht1 : ∀ g : Above w1, (convert 27 9 (.slice A1 n1 c1)).run Tryd.prog g.1 = .ok (.string S) g.1 := fun g => by
              have e := run_text g.1 A1 n1 c1 _ hn1 (ho1.src.keep g.2)
              rw [hS] at e
              exact e
            clear hn1 ho1 hyes hS
            refine wpSegs_last (by simp [pickOps]; rfl) ?_
            repeat (go_big_quiet_step (fail))
            refine wpQuiet_nil ?_
            clear ht1
            go_wp2_with fail
            refine ⟨⟨k + 1, m + 1, HM1.out, by omega, by rw [HL.out]; omega, by go_num, by rw [accK, HV.out], HNX.out HNE.out, HB1.out⟩, ?_⟩
            simp [intOf] <;> omega
    · have hmk := hm
      clear hm
      have HE : Hid (nextI (numsOf s) = (0, 0)) := Lib.hid (by
        rcases HS.out with ⟨h, _⟩ | ⟨q, hq, hql, hqe, hqf, h2⟩
        · exact h
        · rw [HL.out] at hql
          exact absurd hqf (HNO.out q (by omega)))
      by_cases h5 : m = 5
      · subst h5
        clear hmk
        go_wp2_with fail
        go_ret2
        exact ⟨by rw [HE.out]; rfl, hb⟩
      · have gm1 : (m : Int) ≤ 4 := by omega
        have gm2 : (s.size : Int) < (m : Int) := by omega
        clear hmk
        go_wp2_with fail
        go_ret2
        exact ⟨by rw [HE.out]; rfl, hb⟩
end Utf
end Go.Proofs.YthifoodhndjmdaaDoor

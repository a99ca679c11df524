/- Are spans valid: the program's way (any list of at most 100000). No conditions but those that stand in each lemma. -/
import Derived.Test.YtnlkljmboifnkaaSpRight
namespace Go.Proofs.Ytnlkljmboifnkaa
open Go.RowKit

/-- Where the one ahead of place k ends. -/
def endAt (l : List Sp) (k : Nat) : Int := if k = 0 then -1 else (l.getD (k - 1) spZ).2
theorem endAt_next (l : List Sp) (k : Nat) : endAt l (k + 1) = (l.getD k spZ).2 := by simp [endAt]
/-- At a round's head. -/
def ValidAt (w : World) (l : List Sp) (ah i : Value) (wr : World) : Prop :=
  ∃ k : Nat, k ≤ l.length ∧ i = .int .i64 (k : Int) ∧ ah = .int .i64 (endAt l k) ∧ (∀ j, j < k → Spans.okAt l j = true) ∧ Below w.heap.size w wr
theorem okAt_of (l : List Sp) (k : Nat) (x y a : Int) (hx : l.getD k spZ = (x, y)) (ha : endAt l k = a) : Spans.okAt l k = (Spans.rightB (x, y) && !decide (x ≤ a)) := by
  unfold Spans.okAt
  rw [show l.getD k Spans.z = (x, y) from hx]
  unfold endAt at ha
  by_cases hk : k = 0
  · subst hk
    rw [if_pos rfl] at ha
    subst ha
    by_cases h : Spans.rightB (x, y) = true
    · have hr := (Spans.rightB_iff _).1 h
      unfold Spans.R at hr
      simp only at hr
      rw [h, decide_eq_true (rfl : (0 : Nat) = 0), decide_eq_false (p := x ≤ -1) (by omega)]
      rfl
    · rw [Bool.not_eq_true] at h
      rw [h]; rfl
  · rw [if_neg hk] at ha
    rw [decide_eq_false hk, Bool.false_or]
    congr 1
    rw [show (l.getD (k - 1) Spans.z).2 = a from ha, Bool.eq_iff_iff]
    simp
theorem validB_all {l : List Sp} {n : Nat} (hn : n = l.length) (h : ∀ j, j < n → Spans.okAt l j = true) : Spans.validB l = true := (Spans.validB_spec l).2 (by rw [← hn]; exact h)
theorem validB_no {l : List Sp} {k : Nat} (hk : k < l.length) (h : Spans.okAt l k = false) : Spans.validB l = false := by
  rw [← Bool.not_eq_true]
  intro hv
  have := (Spans.validB_spec l).1 hv k hk
  rw [h] at this
  cases this
theorem sp_eta (s : Sp) : s = (s.1, s.2) := rfl

set_option maxHeartbeats 1000000 in
theorem valid_any (A : Option Addr) (n c : Nat) (l : List Sp) (w : World) (hn : n = l.length) (hs : SpSrc w A l) (hl : n ≤ 100000) :
    Calls Try.prog 29 #[.slice A n c] w fun e w' => e = .returned (.bool (Spans.validB l)) ∧ Below w.heap.size w w' := by
  have Hn := Lib.hid hn
  have Hs := Lib.hid hs
  clear hn hs
  go_enter Try.func29, Try.ntmps29
  go_wp2_with fail
  go_loopw [3, 8] (fun ah i wr => ValidAt w l ah i wr) (fun _ i _ => n - (intOf i).toNat)
  case atStart => exact ⟨0, Nat.zero_le _, rfl, rfl, fun j hj => absurd hj (by omega), Below.refl _ _⟩
  case round =>
    obtain ⟨k, hk, rfl, rfl, hok, hb⟩ := hrel
    have Hok := Lib.hid hok
    clear hok
    by_cases hlt : k < l.length
    · obtain ⟨b, o, rfl, hbl, hcell⟩ := Hs.out (by omega)
      have c0 := (hb.cell (p := ⟨b, o + k * 2, none⟩) hbl).trans (hcell k hlt).1
      have c1 := (hb.cell (p := ⟨b, o + k * 2 + 1, none⟩) hbl).trans (hcell k hlt).2
      have HO := okAt_of l k (l.getD k spZ).1 (l.getD k spZ).2 (endAt l k) rfl rfl
      have HE := endAt_next l k
      have hkn : k < n := by have := Hn.out; omega
      clear hcell
      generalize (l.getD k spZ).1 = x at *
      generalize (l.getD k spZ).2 = y at *
      generalize endAt l k = a at *
      have HR : ∀ w1, Calls Try.prog 33 #[.agg #[.int .i64 x, .int .i64 y]] w1 fun e w' => e = .returned (.bool (Spans.rightB (x, y))) ∧ Below w1.heap.size w1 w' := right_any x y
      generalize Spans.rightB (x, y) = t at *
      have HO2 := Lib.hid HO
      have HE2 := Lib.hid HE
      have HR2 := Lib.hid HR
      clear HO HE HR
      cases t
      · go_wp2_with fail
        refine (HR2.out _).mono ?_
        rintro e w1 ⟨rfl, hb1⟩
        have hb2 := hb.trans (((sp_new hb1).2.2).mono hb.size)
        clear hb1
        go_wp2_with fail
        go_ret
        exact ⟨ret_bool (validB_no hlt HO2.out).symm, hb2⟩
      · go_wp2_with fail
        refine (HR2.out _).mono ?_
        rintro e w1 ⟨rfl, hb1⟩
        obtain ⟨d0, d1, hb1'⟩ := sp_new hb1
        have hb2 := hb.trans (hb1'.mono hb.size)
        clear hb1 hb1'
        by_cases hxa : x ≤ a
        · have HF := Lib.hid (show Spans.okAt l k = false by rw [HO2.out]; simp [hxa])
          clear HO2
          go_wp2_with fail
          go_ret
          exact ⟨ret_bool (validB_no hlt HF.out).symm, hb2⟩
        · have HF := Lib.hid (show Spans.okAt l k = true by rw [HO2.out]; simp [hxa])
          clear HO2
          go_wp2_with fail
          go_roundw
          case rel => exact ⟨k + 1, by omega, by go_num, by rw [HE2.out], fun j hj => by
            rcases Nat.lt_or_ge j k with h | h
            · exact Hok.out j h
            · obtain rfl : j = k := by omega
              exact HF.out, hb2⟩
          case measure => simp [intOf]; omega
    · obtain rfl : k = n := by have := Hn.out; omega
      go_wp2_with fail
      go_ret
      exact ⟨ret_bool (validB_all Hn.out Hok.out).symm, hb⟩
end Go.Proofs.Ytnlkljmboifnkaa

/- The document's Leap, Days, in, length and Right: of any number and any time. Nothing that was there is written. No conditions. -/
import Derived.Test.YtfbgcjpakahocaaDoorClkVar
import Derived.Deep.QuietTactic
namespace Go.Proofs.YtfbgcjpakahocaaDoor
open Go.RowKit
namespace Clk

theorem rleap_any (y : Int) (w : World) : Calls Tryd.prog 20 #[.int .i64 y] w fun e w' => e = .returned (.bool (leapB y)) ∧ w' = w := by
  obtain ⟨B, hB⟩ : ∃ B, leapB y = B := ⟨_, rfl⟩
  rw [hB]
  have HB := Lib.hid hB
  clear hB
  by_cases h4 : y.tmod 4 = 0
  · by_cases h100 : y.tmod 100 = 0
    · have HE := Lib.hid (leap_else (y := y) (fun h => h.2 h100))
      go_enter Tryd.func20, Tryd.ntmps20
      go_wp2_with fail
      go_ret
      exact ⟨by rw [← HB.out, HE.out]; rfl, rfl⟩
    · have HE := Lib.hid (leap_yes h4 h100)
      go_enter Tryd.func20, Tryd.ntmps20
      go_wp2_with fail
      go_ret
      exact ⟨by rw [← HB.out, HE.out]; rfl, rfl⟩
  · by_cases h400 : y.tmod 400 = 0
    · exact absurd ((tmod_zero y 4).2 (by have := (tmod_zero y 400).1 h400; omega)) h4
    · have HE : Hid (leapB y = false) := Lib.hid (by rw [leap_else (y := y) (fun h => h4 h.1)]; exact beq_eq_false_iff_ne.2 h400)
      go_enter Tryd.func20, Tryd.ntmps20
      go_wp2_with fail
      go_ret
      exact ⟨by rw [← HB.out, HE.out]; rfl, rfl⟩
theorem rin_any (n a b : Int) (w : World) : Calls Tryd.prog 45 #[.int .i64 n, .int .i64 a, .int .i64 b] w fun e w' => e = .returned (.bool (inB a n b)) ∧ w' = w := by
  by_cases h1 : a ≤ n
  · by_cases h2 : n ≤ b
    · have HE := Lib.hid (show inB a n b = true from decide_eq_true ⟨h1, h2⟩)
      go_enter Tryd.func45, Tryd.ntmps45
      go_wp2_with fail
      go_ret
      exact ⟨by rw [HE.out]; rfl, rfl⟩
    · have HE := Lib.hid (show inB a n b = false from decide_eq_false fun h => h2 h.2)
      go_enter Tryd.func45, Tryd.ntmps45
      go_wp2_with fail
      go_ret
      exact ⟨by rw [HE.out]; rfl, rfl⟩
  · have HE := Lib.hid (show inB a n b = false from decide_eq_false fun h => h1 h.1)
    go_enter Tryd.func45, Tryd.ntmps45
    go_wp2_with fail
    go_ret
    exact ⟨by rw [HE.out]; rfl, rfl⟩
theorem rlength_any (y : Int) (w : World) : Calls Tryd.prog 31 #[.int .i64 y] w fun e w' => e = .returned (.int .i64 (lenI y)) ∧ w' = w := by
  have HL := Lib.hid (rleap_any y w)
  by_cases h : Leap y
  · have HE := Lib.hid (show lenI y = 366 from if_pos h)
    rw [show leapB y = true from decide_eq_true h] at HL
    clear h
    go_enter Tryd.func31, Tryd.ntmps31
    go_wp2_with fail
    refine HL.out.mono ?_
    rintro e w1 ⟨rfl, rfl⟩
    go_wp2_with fail
    go_ret
    exact ⟨by rw [HE.out]; rfl, rfl⟩
  · have HE := Lib.hid (show lenI y = 365 from if_neg h)
    rw [show leapB y = false from decide_eq_false h] at HL
    clear h
    go_enter Tryd.func31, Tryd.ntmps31
    go_wp2_with fail
    refine HL.out.mono ?_
    rintro e w1 ⟨rfl, rfl⟩
    go_wp2_with fail
    go_ret
    exact ⟨by rw [HE.out]; rfl, rfl⟩
set_option maxRecDepth 100000 in
set_option maxHeartbeats 2000000 in
theorem rdays_any (y m : Int) (w : World) : Calls Tryd.prog 22 #[.int .i64 y, .int .i64 m] w fun e w' => e = .returned (.int .i64 (mdI y m)) ∧ w' = w := by
  by_cases h2 : m = 2
  · subst h2
    have HL := Lib.hid (rleap_any y w)
    by_cases h : Leap y
    · have HE := Lib.hid (show mdI y 2 = 29 by unfold mdI; rw [if_pos rfl, if_pos h])
      rw [show leapB y = true from decide_eq_true h] at HL
      clear h
      go_enter Tryd.func22, Tryd.ntmps22
      go_wp2_with fail
      refine HL.out.mono ?_
      rintro e w1 ⟨rfl, rfl⟩
      go_wp2_with fail
      go_ret
      exact ⟨by rw [HE.out]; rfl, rfl⟩
    · have HE := Lib.hid (show mdI y 2 = 28 by unfold mdI; rw [if_pos rfl, if_neg h])
      rw [show leapB y = false from decide_eq_false h] at HL
      clear h
      go_enter Tryd.func22, Tryd.ntmps22
      go_wp2_with fail
      refine HL.out.mono ?_
      rintro e w1 ⟨rfl, rfl⟩
      go_wp2_with fail
      go_ret
      exact ⟨by rw [HE.out]; rfl, rfl⟩
  by_cases h30 : m = 4 ∨ m = 6 ∨ m = 9 ∨ m = 11
  · have HE := Lib.hid (show mdI y m = 30 by unfold mdI; rw [if_neg h2, if_pos h30])
    rcases h30 with rfl | rfl | rfl | rfl
    all_goals
      go_enter Tryd.func22, Tryd.ntmps22
      go_wp2_with fail
      go_ret
      exact ⟨by rw [HE.out]; rfl, rfl⟩
  by_cases h31 : 1 ≤ m ∧ m ≤ 12
  · have HE := Lib.hid (show mdI y m = 31 by unfold mdI; rw [if_neg h2, if_neg h30, if_pos h31])
    rcases (show m = 1 ∨ m = 3 ∨ m = 5 ∨ m = 7 ∨ m = 8 ∨ m = 10 ∨ m = 12 by omega) with rfl | rfl | rfl | rfl | rfl | rfl | rfl
    all_goals
      go_enter Tryd.func22, Tryd.ntmps22
      go_wp2_with fail
      go_ret
      exact ⟨by rw [HE.out]; rfl, rfl⟩
  · have HE := Lib.hid (md_none y m h31)
    have hor : m < 1 ∨ 12 < m := by omega
    clear h2 h30 h31
    have q : ∀ k : Int, 1 ≤ k ∧ k ≤ 12 → (m == k) = false := fun k hk => by simp; omega
    have q1 := q 1 (by omega)
    have q2 := q 2 (by omega)
    have q3 := q 3 (by omega)
    have q4 := q 4 (by omega)
    have q5 := q 5 (by omega)
    have q6 := q 6 (by omega)
    have q7 := q 7 (by omega)
    have q8 := q 8 (by omega)
    have q9 := q 9 (by omega)
    have q10 := q 10 (by omega)
    have q11 := q 11 (by omega)
    have q12 := q 12 (by omega)
    clear q hor
    go_enter Tryd.func22, Tryd.ntmps22
    go_wp2_with fail
    go_ret
    exact ⟨by rw [HE.out]; rfl, rfl⟩
set_option maxRecDepth 100000 in
set_option maxHeartbeats 4000000 in
theorem rright_any (t : Tm) (w : World) : Calls Tryd.prog 34 #[tmV t] w fun e w' => e = .returned (.bool (rightB t)) ∧ Below w.heap.size w w' := by
  have HE := Lib.hid (right_iff t)
  generalize rightB t = RB at *
  unfold tmV
  have CN := Lib.hid (fun (n a b : Int) (w' : World) => rin_any n a b w')
  have CD := Lib.hid (fun w' => rdays_any t.y t.m w')
  generalize mdI t.y t.m = M at *
  cases h1 : inB 1 t.y 9999 with
  | false =>
    have HR : Hid (RB = false) := Lib.hid (by rw [HE.out, h1]; rfl)
    clear HE
    go_enter Tryd.func34, Tryd.ntmps34
    go_wp2_with (first
      | (refine wpList_boxT ttR rfl (.tmp 0) rfl t rfl ?_; intro W r1 b1 z1; clear z1; obtain ⟨c0, c1, c2, c3, c4, c5⟩ := TmAt.of r1; have HB := Lib.hid b1; clear b1 r1))
    go_quiet ((first | (go_at_call 45; exact Calls.quiet_of_same (CN.out _ _ _ _)) | (go_at_call 22; exact Calls.quiet_of_same (CD.out _))))
    go_wp2_with fail
    go_ret
    exact ⟨by rw [HR.out]; rfl, below_drewN HB.out _⟩
  | true =>
    cases h2 : inB 1 t.m 12 with
    | false =>
      have HR : Hid (RB = false) := Lib.hid (by rw [HE.out, h1, h2]; rfl)
      clear HE
      go_enter Tryd.func34, Tryd.ntmps34
      go_wp2_with (first
        | (refine wpList_boxT ttR rfl (.tmp 0) rfl t rfl ?_; intro W r1 b1 z1; clear z1; obtain ⟨c0, c1, c2, c3, c4, c5⟩ := TmAt.of r1; have HB := Lib.hid b1; clear b1 r1))
      go_quiet ((first | (go_at_call 45; exact Calls.quiet_of_same (CN.out _ _ _ _)) | (go_at_call 22; exact Calls.quiet_of_same (CD.out _))))
      go_wp2_with fail
      go_ret
      exact ⟨by rw [HR.out]; rfl, below_drewN HB.out _⟩
    | true =>
      cases h3 : inB 1 t.d M with
      | false =>
        have HR : Hid (RB = false) := Lib.hid (by rw [HE.out, h1, h2, h3]; rfl)
        clear HE
        go_enter Tryd.func34, Tryd.ntmps34
        go_wp2_with (first
          | (refine wpList_boxT ttR rfl (.tmp 0) rfl t rfl ?_; intro W r1 b1 z1; clear z1; obtain ⟨c0, c1, c2, c3, c4, c5⟩ := TmAt.of r1; have HB := Lib.hid b1; clear b1 r1))
        go_quiet ((first | (go_at_call 45; exact Calls.quiet_of_same (CN.out _ _ _ _)) | (go_at_call 22; exact Calls.quiet_of_same (CD.out _))))
        go_wp2_with fail
        go_ret
        exact ⟨by rw [HR.out]; rfl, below_drewN HB.out _⟩
      | true =>
        cases h4 : inB 0 t.h 23 with
        | false =>
          have HR : Hid (RB = false) := Lib.hid (by rw [HE.out, h1, h2, h3, h4]; rfl)
          clear HE
          go_enter Tryd.func34, Tryd.ntmps34
          go_wp2_with (first
            | (refine wpList_boxT ttR rfl (.tmp 0) rfl t rfl ?_; intro W r1 b1 z1; clear z1; obtain ⟨c0, c1, c2, c3, c4, c5⟩ := TmAt.of r1; have HB := Lib.hid b1; clear b1 r1))
          go_quiet ((first | (go_at_call 45; exact Calls.quiet_of_same (CN.out _ _ _ _)) | (go_at_call 22; exact Calls.quiet_of_same (CD.out _))))
          go_wp2_with fail
          go_ret
          exact ⟨by rw [HR.out]; rfl, below_drewN HB.out _⟩
        | true =>
          cases h5 : inB 0 t.i 59 with
          | false =>
            have HR : Hid (RB = false) := Lib.hid (by rw [HE.out, h1, h2, h3, h4, h5]; rfl)
            clear HE
            go_enter Tryd.func34, Tryd.ntmps34
            go_wp2_with (first
              | (refine wpList_boxT ttR rfl (.tmp 0) rfl t rfl ?_; intro W r1 b1 z1; clear z1; obtain ⟨c0, c1, c2, c3, c4, c5⟩ := TmAt.of r1; have HB := Lib.hid b1; clear b1 r1))
            go_quiet ((first | (go_at_call 45; exact Calls.quiet_of_same (CN.out _ _ _ _)) | (go_at_call 22; exact Calls.quiet_of_same (CD.out _))))
            go_wp2_with fail
            go_ret
            exact ⟨by rw [HR.out]; rfl, below_drewN HB.out _⟩
          | true =>
            cases h6 : inB 0 t.s 59 with
            | false =>
              have HR : Hid (RB = false) := Lib.hid (by rw [HE.out, h1, h2, h3, h4, h5, h6]; rfl)
              clear HE
              go_enter Tryd.func34, Tryd.ntmps34
              go_wp2_with (first
                | (refine wpList_boxT ttR rfl (.tmp 0) rfl t rfl ?_; intro W r1 b1 z1; clear z1; obtain ⟨c0, c1, c2, c3, c4, c5⟩ := TmAt.of r1; have HB := Lib.hid b1; clear b1 r1))
              go_quiet ((first | (go_at_call 45; exact Calls.quiet_of_same (CN.out _ _ _ _)) | (go_at_call 22; exact Calls.quiet_of_same (CD.out _))))
              go_wp2_with fail
              go_ret
              exact ⟨by rw [HR.out]; rfl, below_drewN HB.out _⟩
            | true =>
              have HR : Hid (RB = true) := Lib.hid (by rw [HE.out, h1, h2, h3, h4, h5, h6]; rfl)
              clear HE
              go_enter Tryd.func34, Tryd.ntmps34
              go_wp2_with (first
                | (refine wpList_boxT ttR rfl (.tmp 0) rfl t rfl ?_; intro W r1 b1 z1; clear z1; obtain ⟨c0, c1, c2, c3, c4, c5⟩ := TmAt.of r1; have HB := Lib.hid b1; clear b1 r1))
              go_quiet ((first | (go_at_call 45; exact Calls.quiet_of_same (CN.out _ _ _ _)) | (go_at_call 22; exact Calls.quiet_of_same (CD.out _))))
              go_wp2_with fail
              go_ret
              exact ⟨by rw [HR.out]; rfl, below_drewN HB.out _⟩
end Clk
end Go.Proofs.YtfbgcjpakahocaaDoor

/- The small contracts of clock: what lies between two numbers (a closure), days ahead of a year, leap years, days of a month by the program's table. Nothing that was there is written. Conditions: the listed tables lie where they were laid (Tabs), and those that stand in each lemma. -/
import Derived.Test.YtfbgcjpakahocaaDoorClkForms
import Derived.Test.YtfbgcjpakahocaaDoorItoa
import Derived.Test.YtfbgcjpakahocaaDoorCells
import Derived.OneCell
namespace Go.Proofs.YtfbgcjpakahocaaDoor
open Go.RowKit
namespace Clk

/-- The days of the months of a year that is no leap year. -/
def mdN : Nat → Int
  | 0 => 31
  | 1 => 28
  | 2 => 31
  | 3 => 30
  | 4 => 31
  | 5 => 30
  | 6 => 31
  | 7 => 31
  | 8 => 30
  | 9 => 31
  | 10 => 30
  | _ => 31
theorem mdN_le (k : Nat) : 28 ≤ mdN k ∧ mdN k ≤ 31 := by unfold mdN; split <;> omega
theorem md_tab (y : Int) (k : Nat) (h : k < 12) : mdI y ((k : Int) + 1) = if k = 1 ∧ Leap y then mdN k + 1 else mdN k := by
  unfold mdI
  by_cases hl : Leap y
  · rcases (show k = 0 ∨ k = 1 ∨ k = 2 ∨ k = 3 ∨ k = 4 ∨ k = 5 ∨ k = 6 ∨ k = 7 ∨ k = 8 ∨ k = 9 ∨ k = 10 ∨ k = 11 by omega) with rfl | rfl | rfl | rfl | rfl | rfl | rfl | rfl | rfl | rfl | rfl | rfl <;> simp [hl, mdN]
  · rcases (show k = 0 ∨ k = 1 ∨ k = 2 ∨ k = 3 ∨ k = 4 ∨ k = 5 ∨ k = 6 ∨ k = 7 ∨ k = 8 ∨ k = 9 ∨ k = 10 ∨ k = 11 by omega) with rfl | rfl | rfl | rfl | rfl | rfl | rfl | rfl | rfl | rfl | rfl | rfl <;> simp [hl, mdN]
/-- The months' names as the cells of the table. -/
def moC : Array Value := ((List.range 12).map fun k => Value.string (strOfNums (moN k))).toArray
theorem moC_at (k : Nat) (h : k < 12) : moC[k]? = some (.string (strOfNums (moN k))) := by simp [moC, h]
/-- The listed tables lie where they were laid. -/
structure Tabs (w : World) : Prop where
  pow : Tab w
  ltD : 2 < w.heap.size
  ltM : 1 < w.heap.size
  ltW : 0 < w.heap.size
  days : ∀ k, k < 12 → w.cell? ⟨2, k, none⟩ = some (.int .i64 (mdN k))
  names : Cells w 1 0 moC
  wds : ∀ k, k < 7 → w.cell? ⟨0, k, none⟩ = some (.string (strOfNums (wdN k)))
theorem Tabs.keep {w w' : World} (h : Tabs w) (hb : Below w.heap.size w w') : Tabs w' where
  pow := h.pow.keep hb
  ltD := Nat.lt_of_lt_of_le h.ltD hb.size
  ltM := Nat.lt_of_lt_of_le h.ltM hb.size
  ltW := Nat.lt_of_lt_of_le h.ltW hb.size
  days := fun k hk => (hb.cell (p := ⟨2, k, none⟩) h.ltD).trans (h.days k hk)
  names := h.names.keep hb h.ltM
  wds := fun k hk => (hb.cell (p := ⟨0, k, none⟩) h.ltW).trans (h.wds k hk)

/-- A look at whether a number is one from a to b. -/
def Win (v : Value) (w : World) (a b : Int) : Prop := ∃ A B : Nat, v = .func (Fn.func 43) #[] #[.pointer (some ⟨A, 0, none⟩), .pointer (some ⟨B, 0, none⟩)] ∧ w.cell? ⟨A, 0, none⟩ = some (.int .i64 a) ∧ w.cell? ⟨B, 0, none⟩ = some (.int .i64 b)
theorem Win.keep {v : Value} {w w' : World} {a b : Int} (h : Win v w a b) (hb : Below w.heap.size w w') : Win v w' a b := by
  obtain ⟨A, B, e, h1, h2⟩ := h
  exact ⟨A, B, e, (hb.cell (World.block_lt_of_cell? w _ h1)).trans h1, (hb.cell (World.block_lt_of_cell? w _ h2)).trans h2⟩
theorem win_any (a b : Int) (w : World) : Calls Tryd.prog 29 #[.int .i64 a, .int .i64 b] w fun e w' => ∃ v, e = .returned v ∧ Win v w' a b ∧ Below w.heap.size w w' := by
  have h1 := Row.new w 3 #[.int .i64 a]
  have h2 := Row.new (w.alloc (.cells #[.int .i64 a] 3)) 3 #[.int .i64 b]
  have HC := Lib.hid (And.intro ((h1.old (.cells #[.int .i64 b] 3)).cell (j := 0) rfl) (h2.cell (j := 0) rfl))
  rw [World.size_alloc] at HC
  clear h1 h2
  go_enter Tryd.func29, Tryd.ntmps29
  go_wp2_with fail
  go_ret
  exact ⟨_, rfl, ⟨w.heap.size, w.heap.size + 1, rfl, HC.out.1, HC.out.2⟩, ((Below.refl _ _).alloc (Nat.le_refl _) _).alloc (by simp) _⟩
def inB (a n b : Int) : Bool := decide (a ≤ n ∧ n ≤ b)
theorem look_any (A B : Nat) (n a b : Int) (w : World) (hA : w.cell? ⟨A, 0, none⟩ = some (.int .i64 a)) (hB : w.cell? ⟨B, 0, none⟩ = some (.int .i64 b)) :
    Calls Tryd.prog 43 #[.int .i64 n, .pointer (some ⟨A, 0, none⟩), .pointer (some ⟨B, 0, none⟩)] w fun e w' => e = .returned (.bool (inB a n b)) ∧ w' = w := by
  by_cases h1 : a ≤ n
  · by_cases h2 : n ≤ b
    · have HE := Lib.hid (show inB a n b = true from decide_eq_true ⟨h1, h2⟩)
      go_enter Tryd.func43, Tryd.ntmps43
      go_wp2_with fail
      go_ret
      exact ⟨by rw [HE.out]; rfl, rfl⟩
    · have HE := Lib.hid (show inB a n b = false from decide_eq_false fun h => h2 h.2)
      go_enter Tryd.func43, Tryd.ntmps43
      go_wp2_with fail
      go_ret
      exact ⟨by rw [HE.out]; rfl, rfl⟩
  · have HE := Lib.hid (show inB a n b = false from decide_eq_false fun h => h1 h.1)
    go_enter Tryd.func43, Tryd.ntmps43
    go_wp2_with fail
    go_ret
    exact ⟨by rw [HE.out]; rfl, rfl⟩

theorem ahead_any (y : Int) (w : World) (h0 : 1 ≤ y) (h1 : y ≤ 100000000) : Calls Tryd.prog 44 #[.int .i64 y] w fun e w' => e = .returned (.int .i64 (aheadI y)) ∧ w' = w := by
  have HE : Hid (aheadI y = 365 * (y - 1) + (y - 1) / 4 - (y - 1) / 100 + (y - 1) / 400) := Lib.hid rfl
  go_enter Tryd.func44, Tryd.ntmps44
  go_wp2_with fail
  go_ret
  exact ⟨by rw [HE.out]; rfl, rfl⟩

theorem tmod_zero (y n : Int) : y.tmod n = 0 ↔ y % n = 0 := by rw [← Int.dvd_iff_tmod_eq_zero, Int.dvd_iff_emod_eq_zero]
theorem leap_yes {y : Int} (h4 : y.tmod 4 = 0) (h100 : ¬ y.tmod 100 = 0) : leapB y = true := decide_eq_true (.inl ⟨(tmod_zero y 4).1 h4, fun h => h100 ((tmod_zero y 100).2 h)⟩)
theorem leap_else {y : Int} (h : ¬ (y.tmod 4 = 0 ∧ ¬ y.tmod 100 = 0)) : leapB y = (y.tmod 400 == 0) := by
  rw [tmod_zero, tmod_zero] at h
  by_cases h4 : y % 400 = 0
  · rw [show leapB y = true from decide_eq_true (.inr h4), (tmod_zero y 400).2 h4]; rfl
  · rw [show leapB y = false from decide_eq_false (by unfold Leap; omega)]
    exact (beq_eq_false_iff_ne.2 fun e => h4 ((tmod_zero y 400).1 e)).symm
theorem leap_any (y : Int) (w : World) : Calls Tryd.prog 19 #[.int .i64 y] w fun e w' => e = .returned (.bool (leapB y)) ∧ w' = w := by
  obtain ⟨B, hB⟩ : ∃ B, leapB y = B := ⟨_, rfl⟩
  rw [hB]
  have HB := Lib.hid hB
  clear hB
  by_cases h4 : y.tmod 4 = 0
  · by_cases h100 : y.tmod 100 = 0
    · have HE := Lib.hid (leap_else (y := y) (fun h => h.2 h100))
      go_enter Tryd.func19, Tryd.ntmps19
      go_wp2_with fail
      go_ret
      exact ⟨by rw [← HB.out, HE.out]; rfl, rfl⟩
    · have HE := Lib.hid (leap_yes h4 h100)
      go_enter Tryd.func19, Tryd.ntmps19
      go_wp2_with fail
      go_ret
      exact ⟨by rw [← HB.out, HE.out]; rfl, rfl⟩
  · have HE := Lib.hid (leap_else (y := y) (fun h => h4 h.1))
    go_enter Tryd.func19, Tryd.ntmps19
    go_wp2_with fail
    go_ret
    exact ⟨by rw [← HB.out, HE.out]; rfl, rfl⟩
set_option maxRecDepth 100000 in
set_option maxHeartbeats 1000000 in
theorem days_any (y m : Int) (w : World) (ht : Tabs w) : Calls Tryd.prog 21 #[.int .i64 y, .int .i64 m] w fun e w' => e = .returned (.int .i64 (mdI y m)) ∧ Below w.heap.size w w' := by
  have Ht := Lib.hid ht
  clear ht
  have HW := Lib.hid (fun w' : World => win_any 1 12 w')
  have HL := Lib.hid (fun w' : World => leap_any y w')
  by_cases hm : 1 ≤ m ∧ m ≤ 12
  · obtain ⟨k, rfl⟩ : ∃ k : Nat, m = (k : Int) + 1 := ⟨(m - 1).toNat, by omega⟩
    have hk : k < 12 := by omega
    have HI := Lib.hid (show inB 1 ((k : Int) + 1) 12 = true from decide_eq_true hm)
    have hkk : (k : Int) < 12 := by omega
    have HM := Lib.hid (md_tab y k hk)
    have HD := Lib.hid (mdN_le k)
    clear hm
    by_cases h1 : k = 1
    · subst h1
      have HM1 := Lib.hid (show mdI y 2 = if leapB y then 29 else 28 by have := HM.out; rw [show (((1 : Nat) : Int) + 1) = 2 from rfl] at this; rw [this]; unfold leapB; simp [mdN])
      clear HM
      go_enter Tryd.func21, Tryd.ntmps21
      go_wp2_with fail
      refine (HW.out _).mono ?_
      rintro e w1 ⟨v, rfl, ⟨A, B, rfl, hA, hB⟩, hb⟩
      have ck := (Ht.out.keep hb).days 1 (by omega)
      rw [show mdN 1 = 28 from rfl] at ck
      have HB1 := Lib.hid hb
      clear hb
      go_wp2_with fail
      refine (look_any A B _ 1 12 w1 hA hB).mono ?_
      rintro e w2 ⟨rfl, rfl⟩
      rw [show inB 1 2 12 = true from rfl]
      clear hA hB
      go_wp2_with fail
      refine (HL.out _).mono ?_
      rintro e w2 ⟨rfl, rfl⟩
      generalize leapB y = L at HM1 ⊢
      cases L
      · go_wp2_with fail
        go_ret
        exact ⟨by rw [show (((1 : Nat) : Int) + 1) = 2 from rfl, HM1.out]; simp, HB1.out⟩
      · go_wp2_with fail
        go_ret
        exact ⟨by rw [show (((1 : Nat) : Int) + 1) = 2 from rfl, HM1.out]; simp, HB1.out⟩
    · have hk2 : ((k : Int) + 1 == 2) = false := by simp; omega
      go_enter Tryd.func21, Tryd.ntmps21
      go_wp2_with fail
      refine (HW.out _).mono ?_
      rintro e w1 ⟨v, rfl, ⟨A, B, rfl, hA, hB⟩, hb⟩
      have ck := (Ht.out.keep hb).days k hk
      have HB1 := Lib.hid hb
      clear hb
      go_wp2_with fail
      refine (look_any A B _ 1 12 w1 hA hB).mono ?_
      rintro e w2 ⟨rfl, rfl⟩
      rw [HI.out]
      clear hA hB
      go_wp2_with fail
      go_ret
      exact ⟨by rw [HM.out, if_neg (fun h => h1 h.1)]; rfl, HB1.out⟩
  · have HI := Lib.hid (show inB 1 m 12 = false from decide_eq_false hm)
    have HM := Lib.hid (md_none y m hm)
    clear hm
    go_enter Tryd.func21, Tryd.ntmps21
    go_wp2_with fail
    refine (HW.out _).mono ?_
    rintro e w1 ⟨v, rfl, ⟨A, B, rfl, hA, hB⟩, hb⟩
    have HB1 := Lib.hid hb
    clear hb
    go_wp2_with fail
    refine (look_any A B _ 1 12 w1 hA hB).mono ?_
    rintro e w2 ⟨rfl, rfl⟩
    rw [HI.out]
    clear hA hB
    go_wp2_with fail
    go_ret
    exact ⟨by rw [HM.out]; rfl, HB1.out⟩
end Clk
end Go.Proofs.YtfbgcjpakahocaaDoor

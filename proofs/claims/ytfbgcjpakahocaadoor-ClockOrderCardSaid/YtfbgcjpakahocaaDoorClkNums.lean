/- Times of the civil calendar, plain: years that are leap years, days of months, days ahead of a year, of a month, of a day; a time's seconds; later times have more of them. No conditions but those that stand in each lemma. -/
import Derived.Test.YtfbgcjpakahocaaDoorMem
namespace Go.Proofs.YtfbgcjpakahocaaDoor
open Go.RowKit
namespace Clk

/-- A time. -/
structure Tm where
  y : Int
  m : Int
  d : Int
  h : Int
  i : Int
  s : Int
def Tm.zero : Tm := ⟨0, 0, 0, 0, 0, 0⟩
/-- A year of 366 days. -/
def Leap (y : Int) : Prop := y % 4 = 0 ∧ y % 100 ≠ 0 ∨ y % 400 = 0
instance (y : Int) : Decidable (Leap y) := inferInstanceAs (Decidable (_ ∨ _))
def leapB (y : Int) : Bool := decide (Leap y)
/-- A month's days. -/
def mdI (y m : Int) : Int := if m = 2 then (if Leap y then 29 else 28) else if m = 4 ∨ m = 6 ∨ m = 9 ∨ m = 11 then 30 else if 1 ≤ m ∧ m ≤ 12 then 31 else 0
/-- A year's days. -/
def lenI (y : Int) : Int := if Leap y then 366 else 365
/-- Days ahead of a year, from the beginning of year 1 on. -/
def aheadI (y : Int) : Int := 365 * (y - 1) + (y - 1) / 4 - (y - 1) / 100 + (y - 1) / 400
theorem ahead_succ (y : Int) : aheadI (y + 1) = aheadI y + lenI y := by
  unfold aheadI lenI
  rw [show y + 1 - 1 = y by omega]
  by_cases h : Leap y
  · rw [if_pos h]
    unfold Leap at h
    omega
  · rw [if_neg h]
    unfold Leap at h
    omega
theorem len_cases (y : Int) : (Leap y ∧ lenI y = 366) ∨ (¬ Leap y ∧ lenI y = 365) := by
  unfold lenI
  by_cases h : Leap y
  · exact .inl ⟨h, if_pos h⟩
  · exact .inr ⟨h, if_neg h⟩
theorem ahead_one : aheadI 1 = 0 := by decide
theorem ahead_1970 : aheadI 1970 = 719162 := by decide
theorem ahead_10000 : aheadI 10000 = 3652059 := by decide
theorem ahead_add (y : Int) (k : Nat) : aheadI y + 365 * k ≤ aheadI (y + k) := by
  induction k with
  | zero => simp
  | succ k ih =>
    have h1 := ahead_succ (y + k)
    rw [show ((k + 1 : Nat) : Int) = (k : Int) + 1 by omega, show y + ((k : Int) + 1) = y + k + 1 by omega]
    rcases len_cases (y + k) with h | h <;> omega
theorem ahead_mono {y z : Int} (h : y ≤ z) : aheadI y + 365 * (z - y) ≤ aheadI z := by
  have := ahead_add y (z - y).toNat
  rw [show y + ((z - y).toNat : Int) = z by omega] at this
  omega
theorem ahead_low (y : Int) (h : 1 ≤ y) : 0 ≤ aheadI y := by
  have := ahead_mono h
  rw [ahead_one] at this
  omega
theorem ahead_high (y : Int) (h : 1 ≤ y) : aheadI y ≤ 366 * (y - 1) := by unfold aheadI; omega
theorem ahead_lt {y : Int} (h : aheadI y < 3652059) : y < 10000 := by
  rcases Int.lt_or_le y 10000 with h' | h'
  · exact h'
  · have := ahead_mono h'
    rw [ahead_10000] at this
    omega
theorem md_range (y m : Int) (h : 1 ≤ m ∧ m ≤ 12) : 28 ≤ mdI y m ∧ mdI y m ≤ 31 := by
  unfold mdI
  by_cases h2 : m = 2
  · rw [if_pos h2]
    split <;> omega
  · rw [if_neg h2]
    split
    · omega
    · omega
theorem md_none (y m : Int) (h : ¬ (1 ≤ m ∧ m ≤ 12)) : mdI y m = 0 := by
  unfold mdI
  rw [if_neg (by omega), if_neg (by omega), if_neg h]
/-- Days of a year ahead of a month. -/
def cumN : Nat → Int
  | 0 => 0
  | 1 => 0
  | 2 => 31
  | 3 => 59
  | 4 => 90
  | 5 => 120
  | 6 => 151
  | 7 => 181
  | 8 => 212
  | 9 => 243
  | 10 => 273
  | 11 => 304
  | 12 => 334
  | _ => 365
def cumI (y m : Int) : Int := cumN m.toNat + (if 2 < m ∧ Leap y then 1 else 0)
theorem months (m : Int) (h : 1 ≤ m ∧ m ≤ 12) : m = 1 ∨ m = 2 ∨ m = 3 ∨ m = 4 ∨ m = 5 ∨ m = 6 ∨ m = 7 ∨ m = 8 ∨ m = 9 ∨ m = 10 ∨ m = 11 ∨ m = 12 := by omega
theorem cum_one (y : Int) : cumI y 1 = 0 := by unfold cumI; rw [if_neg (by omega)]; rfl
theorem cum_last (y : Int) : cumI y 13 = lenI y := by
  unfold cumI lenI
  by_cases h : Leap y
  · rw [if_pos ⟨by omega, h⟩, if_pos h]; rfl
  · rw [if_neg (fun hh => h hh.2), if_neg h]; rfl
theorem cum_succ (y m : Int) (h : 1 ≤ m ∧ m ≤ 12) : cumI y (m + 1) = cumI y m + mdI y m := by
  unfold cumI mdI
  by_cases hl : Leap y
  · simp only [hl, and_true, if_true]
    rcases months m h with rfl | rfl | rfl | rfl | rfl | rfl | rfl | rfl | rfl | rfl | rfl | rfl <;> decide
  · simp only [hl, and_false, if_false]
    rcases months m h with rfl | rfl | rfl | rfl | rfl | rfl | rfl | rfl | rfl | rfl | rfl | rfl <;> decide
theorem cum_add (y m : Int) (h : 1 ≤ m) (k : Nat) (hk : m + k ≤ 13) : cumI y m + k ≤ cumI y (m + k) := by
  induction k with
  | zero => simp
  | succ k ih =>
    have h1 := cum_succ y (m + k) (by omega)
    have h2 := md_range y (m + k) (by omega)
    have h3 := ih (by omega)
    rw [show ((k + 1 : Nat) : Int) = (k : Int) + 1 by omega, show m + ((k : Int) + 1) = m + k + 1 by omega]
    omega
theorem cum_mono {y m n : Int} (h : 1 ≤ m) (hm : m ≤ n) (hn : n ≤ 13) : cumI y m + (n - m) ≤ cumI y n := by
  have := cum_add y m h (n - m).toNat (by omega)
  rw [show m + ((n - m).toNat : Int) = n by omega] at this
  omega
theorem cum_low (y m : Int) (h : 1 ≤ m ∧ m ≤ 13) : 0 ≤ cumI y m := by
  have := cum_mono (y := y) (m := 1) (n := m) (by omega) h.1 h.2
  rw [cum_one] at this
  omega

/-- A time that is right. -/
def Tm.Right (t : Tm) : Prop := (1 ≤ t.y ∧ t.y ≤ 9999) ∧ (1 ≤ t.m ∧ t.m ≤ 12) ∧ (1 ≤ t.d ∧ t.d ≤ mdI t.y t.m) ∧ (0 ≤ t.h ∧ t.h ≤ 23) ∧ (0 ≤ t.i ∧ t.i ≤ 59) ∧ (0 ≤ t.s ∧ t.s ≤ 59)
instance (t : Tm) : Decidable t.Right := inferInstanceAs (Decidable (_ ∧ _ ∧ _ ∧ _ ∧ _ ∧ _))
/-- Days ahead of a time's day. -/
def Tm.days (t : Tm) : Int := aheadI t.y + cumI t.y t.m + t.d - 1
/-- A time's seconds, from the beginning of 1970 on. -/
def Tm.secs (t : Tm) : Int := (t.days - 719162) * 86400 + t.h * 3600 + t.i * 60 + t.s
/-- An earlier day; an earlier time. -/
def Tm.ltD (a b : Tm) : Prop := a.y < b.y ∨ (a.y = b.y ∧ (a.m < b.m ∨ (a.m = b.m ∧ a.d < b.d)))
def Tm.lt (a b : Tm) : Prop := a.ltD b ∨ ((a.y = b.y ∧ a.m = b.m ∧ a.d = b.d) ∧ (a.h < b.h ∨ (a.h = b.h ∧ (a.i < b.i ∨ (a.i = b.i ∧ a.s < b.s)))))
theorem ofYear_low {t : Tm} (h : t.Right) : 0 ≤ cumI t.y t.m + t.d - 1 := by
  have := cum_low t.y t.m (by have := h.2.1; omega)
  have := h.2.2.1
  omega
theorem ofYear_high {t : Tm} (h : t.Right) : cumI t.y t.m + t.d - 1 < lenI t.y := by
  obtain ⟨_, h2, h3, _⟩ := h
  have a := cum_succ t.y t.m h2
  have b := cum_mono (y := t.y) (m := t.m + 1) (n := 13) (by omega) (by omega) (by omega)
  rw [cum_last] at b
  omega
theorem days_range {t : Tm} (h : t.Right) : 0 ≤ t.days ∧ t.days < 3652059 := by
  have a := ofYear_low h
  have b := ofYear_high h
  have c := ahead_low t.y h.1.1
  have d := ahead_succ t.y
  have e := ahead_mono (show t.y + 1 ≤ 10000 by have := h.1.2; omega)
  rw [ahead_10000] at e
  have := h.1.2
  unfold Tm.days
  omega
theorem secs_range {t : Tm} (h : t.Right) : -62135596800 ≤ t.secs ∧ t.secs ≤ 253402300799 := by
  have a := days_range h
  obtain ⟨_, _, _, b, c, d⟩ := h
  unfold Tm.secs
  omega
theorem ltD_days {a b : Tm} (ha : a.Right) (hb : b.Right) (h : a.ltD b) : a.days < b.days := by
  unfold Tm.days
  rcases h with h | ⟨h, h2 | ⟨h2, h3⟩⟩
  · have p := ofYear_high ha
    have q := ofYear_low hb
    have r := ahead_succ a.y
    have s := ahead_mono (show a.y + 1 ≤ b.y by omega)
    omega
  · have p := cum_succ a.y a.m ha.2.1
    have q := cum_mono (y := a.y) (m := a.m + 1) (n := b.m) (by have := ha.2.1; omega) (by omega) (by have := hb.2.1; omega)
    have r := ha.2.2.1
    have s := hb.2.2.1
    rw [← h]
    omega
  · rw [← h, ← h2]
    omega
theorem lt_secs {a b : Tm} (ha : a.Right) (hb : b.Right) (h : a.lt b) : a.secs < b.secs := by
  have a4 := ha.2.2.2
  have b4 := hb.2.2.2
  unfold Tm.secs
  rcases h with h | ⟨⟨e1, e2, e3⟩, h⟩
  · have := ltD_days ha hb h
    omega
  · have e : a.days = b.days := by unfold Tm.days; rw [e1, e2, e3]
    rw [e]
    omega
theorem lt_cases (a b : Tm) : a.lt b ∨ a = b ∨ b.lt a := by
  unfold Tm.lt Tm.ltD
  cases a; cases b
  simp only [Tm.mk.injEq]
  omega
/-- Of two right times the one with more seconds is the later one, and those with the same are the same. -/
theorem secs_lt {a b : Tm} (ha : a.Right) (hb : b.Right) : a.lt b ↔ a.secs < b.secs :=
  ⟨lt_secs ha hb, fun h => by
    rcases lt_cases a b with h' | rfl | h'
    · exact h'
    · omega
    · have := lt_secs hb ha h'; omega⟩
theorem secs_inj {a b : Tm} (ha : a.Right) (hb : b.Right) (h : a.secs = b.secs) : a = b := by
  rcases lt_cases a b with h' | h' | h'
  · have := lt_secs ha hb h'; omega
  · exact h'
  · have := lt_secs hb ha h'; omega
/-- The day of the week; 0: Sunday. -/
def Tm.wd (t : Tm) : Int := (1 + t.days) % 7
theorem wd_range (t : Tm) : 0 ≤ t.wd ∧ t.wd < 7 := by unfold Tm.wd; omega
/-- A day later is the next one. -/
theorem wd_next {a c : Tm} (ha : a.Right) (hc : c.Right) (h : c.secs = a.secs + 86400) : c.wd = (a.wd + 1) % 7 := by
  have a4 := ha.2.2.2
  have c4 := hc.2.2.2
  have e : c.days = a.days + 1 := by unfold Tm.secs at h; omega
  unfold Tm.wd
  rw [e]
  omega
end Clk
end Go.Proofs.YtfbgcjpakahocaaDoor

/- within and what it answers, isLength, None, Sectors, Right: for any pointer; nothing that was there is written. -/
import Derived.Test.YtnoofmdhhlcbkaaPtr
namespace Go.Proofs.Ytnoofmdhhlcbkaa
open Go.RowKit

def inB (a b n : Int) : Bool := decide (a ≤ n ∧ n ≤ b)
theorem inB_iff {a b n : Int} : inB a b n = true ↔ a ≤ n ∧ n ≤ b := by unfold inB; exact decide_eq_true_iff
/-- What within answers: a look at whether a number is from a to b. -/
def lookV (B : Nat) : Value := .func (.func 67) #[] #[.pointer (some ⟨B, 0, none⟩), .pointer (some ⟨B + 1, 0, none⟩)]
/-- The look's two captured numbers. -/
def Looks (w : World) (B : Nat) (a b : Int) : Prop := B + 1 < w.heap.size ∧ w.cell? ⟨B, 0, none⟩ = some (.int .i64 a) ∧ w.cell? ⟨B + 1, 0, none⟩ = some (.int .i64 b)
theorem Looks.keep {w w' : World} {B : Nat} {a b : Int} (h : Looks w B a b) (hb : Below w.heap.size w w') : Looks w' B a b :=
  ⟨by have := hb.size; have := h.1; omega, (hb.cell (p := ⟨B, 0, none⟩) (Nat.lt_of_succ_lt h.1)).trans h.2.1, (hb.cell (p := ⟨B + 1, 0, none⟩) h.1).trans h.2.2⟩

theorem look_any (B : Nat) (a b n : Int) (v : Bool) (w : World) (hv : inB a b n = v) (hl : Looks w B a b) :
    Calls Try.prog 67 #[.int .i64 n, .pointer (some ⟨B, 0, none⟩), .pointer (some ⟨B + 1, 0, none⟩)] w fun e w' => e = .returned (.bool v) ∧ w = w' := by
  obtain ⟨_, h0, h1⟩ := hl
  by_cases ha : a ≤ n
  · by_cases hb : n ≤ b
    · have : v = true := by rw [← hv]; exact inB_iff.2 ⟨ha, hb⟩
      subst this
      clear hv
      have d1 : decide (a ≤ n) = true := by simpa using ha
      have d2 : decide (n ≤ b) = true := by simpa using hb
      go_enter Try.func67, Try.ntmps67
      go_wp2
      go_ret
      exact ⟨rfl, rfl⟩
    · have : v = false := by rw [← hv]; unfold inB; simp; omega
      subst this
      clear hv
      have d1 : decide (a ≤ n) = true := by simpa using ha
      have d2 : decide (n ≤ b) = false := by simpa using hb
      go_enter Try.func67, Try.ntmps67
      go_wp2
      go_ret
      exact ⟨rfl, rfl⟩
  · have : v = false := by rw [← hv]; unfold inB; simp; omega
    subst this
    clear hv
    have d1 : decide (a ≤ n) = false := by simpa using ha
    go_enter Try.func67, Try.ntmps67
    go_wp2
    go_ret
    exact ⟨rfl, rfl⟩

theorem within_any (a b : Int) (w : World) :
    Calls Try.prog 62 #[.int .i64 a, .int .i64 b] w fun e w' => e = .returned (.func (.func 67) #[] #[.pointer (some ⟨w.heap.size, 0, none⟩), .pointer (some ⟨w.heap.size + 1, 0, none⟩)]) ∧ Looks w' w.heap.size a b ∧ Below w.heap.size w w' := by
  have r1 := Row.new w 3 #[.int .i64 a]
  have b1 : Below w.heap.size w (w.alloc (.cells #[.int .i64 a] 3)) := (Below.refl _ _).alloc (Nat.le_refl _) _
  have s1 : (w.alloc (.cells #[.int .i64 a] 3)).heap.size = w.heap.size + 1 := by show (w.heap.push _).size = _; rw [Array.size_push]
  have r2 := Row.new (w.alloc (.cells #[.int .i64 a] 3)) 3 #[.int .i64 b]
  have q1 := r1.old (.cells #[.int .i64 b] 3)
  have b2 := b1.alloc (by omega) (.cells #[.int .i64 b] 3)
  rw [s1] at r2
  have HL : Looks ((w.alloc (.cells #[.int .i64 a] 3)).alloc (.cells #[.int .i64 b] 3)) w.heap.size a b := ⟨r2.lt, q1.cell (j := 0) rfl, r2.cell (j := 0) rfl⟩
  clear r1 r2 q1 s1 b1
  go_enter Try.func62, Try.ntmps62
  go_wp2
  go_ret
  exact ⟨rfl, HL, b2⟩

theorem isLength_any (n : Int) (v : Bool) (w : World) (hv : lenOk n = v) :
    Calls Try.prog 61 #[.int .i64 n] w fun e w' => e = .returned (.bool v) ∧ Below w.heap.size w w' := by
  go_enter Try.func61, Try.ntmps61
  go_wp2_with fail
  refine (within_any 1 65536 _).mono ?_
  rintro e w1 ⟨rfl, hl, hb⟩
  go_wp2_with fail
  refine (look_any _ 1 65536 n v _ hv hl).mono ?_
  rintro e w2 ⟨rfl, rfl⟩
  go_wp2_with fail
  go_ret
  exact ⟨rfl, hb⟩

theorem none_any (p : Pt) (w : World) (hp : p.Ok) :
    Calls Try.prog 57 #[.agg (pcells p)] w fun e w' => e = .returned (.bool p.none) ∧ Below w.heap.size w w' := by
  have r1 := Row.new w 43 (pcells p)
  have b1 : Below w.heap.size w (w.alloc (.cells (pcells p) 43)) := (Below.refl _ _).alloc (Nat.le_refl _) _
  have hq : ∀ w', (binOp .eql 43 (.agg (pcells p)) (.agg (pcells Pt.zero))).run Try.prog w' = .ok (.bool (Pt.same p Pt.zero)) w' := fun w' => eql_pts w' p Pt.zero hp.shaL rfl
  have hz : Try.prog.built 43 [] = some (pcells Pt.zero) := by kernel_rfl
  have Hp := Lib.hid (pt_size hp.shaL)
  have Hz := Lib.hid hz
  clear hp hz
  unfold Pt.none
  generalize Pt.same p Pt.zero = v at *
  generalize pcells Pt.zero = zs at *
  generalize pcells p = ps at *
  go_enter Try.func57, Try.ntmps57
  go_wp2_with (first
    | (refine wpList_load_cells rfl 43 (.tmp 1) rfl w.heap.size 0 rfl ps _ r1.cells Try.underlying43 rfl Hp.out ?_)
    | (refine wpList_build_eq rfl 43 #[] rfl [] (by simp) zs Hz.out ?_))
  go_ret
  exact ⟨rfl, b1⟩

theorem sectors_any (p : Pt) (w : World) :
    Calls Try.prog 63 #[.agg (pcells p)] w fun e w' => e = .returned (.int .i64 (secsOf p.len)) ∧ Below w.heap.size w w' := by
  have r1 := Row.new w 43 (pcells p)
  have b1 : Below w.heap.size w (w.alloc (.cells (pcells p) 43)) := (Below.refl _ _).alloc (Nat.le_refl _) _
  have c2 := row_len r1
  cases hv : lenOk p.len with
  | false =>
    have HS := Lib.hid (show (0 : Int) = secsOf p.len by unfold secsOf; rw [if_neg (by rw [hv]; decide)])
    have HV := Lib.hid hv
    clear hv
    go_enter Try.func63, Try.ntmps63
    go_wp2_with fail
    refine (isLength_any p.len false _ HV.out).mono ?_
    rintro e w1 ⟨rfl, hb⟩
    have b2 := b1.trans (hb.mono b1.size)
    clear c2 r1 b1 hb
    go_wp2_with fail
    go_ret
    exact ⟨by rw [← HS.out]; rfl, b2⟩
  | true =>
    have hl : 1 ≤ p.len ∧ p.len ≤ 65536 := of_decide_eq_true hv
    have HS := Lib.hid (show (p.len + 512 - 1) / 512 = secsOf p.len by unfold secsOf; rw [if_pos hv, show p.len + 512 - 1 = p.len + 511 by omega])
    have HV := Lib.hid hv
    obtain ⟨l1, l2⟩ := hl
    clear hv
    go_enter Try.func63, Try.ntmps63
    go_wp2_with fail
    refine (isLength_any p.len true _ HV.out).mono ?_
    rintro e w1 ⟨rfl, hb⟩
    have b2 := b1.trans (hb.mono b1.size)
    have c2' := row_len (r1.keep hb)
    clear c2 r1 b1 hb
    go_wp2_with fail
    go_ret
    exact ⟨by rw [← HS.out]; rfl, b2⟩
end Go.Proofs.Ytnoofmdhhlcbkaa

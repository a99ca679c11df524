/- What a byte is worth as a digit: the document's value, and the program's closure over a base. -/
import Derived.Test.YtfbgcjpakahocaaDoorKind
import Derived.OneCell
import Derived.RegionTactic
namespace Go.Proofs.YtfbgcjpakahocaaDoor
open Go.RowKit

theorem val_cases (c : Int) : (kindI c = 1 ∧ (48 ≤ c ∧ c ≤ 57) ∧ valI c = c - 48) ∨ (kindI c = 2 ∧ (97 ≤ c ∧ c ≤ 102) ∧ valI c = c - 87) ∨ ((kindI c ≠ 1 ∧ kindI c ≠ 2) ∧ valI c = -1) := by
  unfold kindI valI
  omega

theorem digitsOf_any (b : Int) (w : World) : Calls Tryd.prog 56 #[.int .i64 b] w fun e w' => e = .returned (.func (Fn.func 63) #[] #[.pointer (some ⟨w.heap.size, 0, none⟩)]) ∧ w' = w.alloc (.cells #[.int .i64 b] 3) := by
  go_enter Tryd.func56, Tryd.ntmps56
  go_wp2_with fail
  go_ret
  exact ⟨rfl, rfl⟩

/-- What a look at a byte answers, of base 16. -/
def look16 (c : Int) : Value := .tuple #[.int .i64 (if 0 ≤ valI c then valI c else 0), .bool (decide (0 ≤ valI c))]
/-- .. of base 10. -/
def look10 (c : Int) : Value := .tuple #[.int .i64 (if kindI c = 1 then c - 48 else 0), .bool (decide (kindI c = 1))]
theorem look16_cases (c : Int) : (kindI c = 1 ∧ (48 ≤ c ∧ c ≤ 57) ∧ look16 c = .tuple #[.int .i64 (c - 48), .bool true]) ∨ (kindI c = 2 ∧ (97 ≤ c ∧ c ≤ 102) ∧ look16 c = .tuple #[.int .i64 (c - 97 + 10), .bool true]) ∨ ((kindI c ≠ 1 ∧ kindI c ≠ 2) ∧ look16 c = .tuple #[.int .i64 0, .bool false]) := by
  unfold look16
  rcases val_cases c with ⟨e, h, e'⟩ | ⟨e, h, e'⟩ | ⟨h, e'⟩
  · refine .inl ⟨e, h, ?_⟩
    rw [e', if_pos (by omega), decide_eq_true (by omega)]
  · refine .inr (.inl ⟨e, h, ?_⟩)
    rw [e', if_pos (by omega), decide_eq_true (by omega), show c - 87 = c - 97 + 10 by omega]
  · refine .inr (.inr ⟨h, ?_⟩)
    rw [e']
    rfl
theorem look16_any (B : Nat) (c : Int) (w : World) (hc : 0 ≤ c ∧ c < 256) (hB : w.cell? ⟨B, 0, none⟩ = some (.int .i64 16)) :
    Calls Tryd.prog 63 #[.int .u8 c, .pointer (some ⟨B, 0, none⟩)] w fun e w' => e = .returned (look16 c) ∧ w' = w := by
  have hcall := Lib.hid (kind_any c w hc)
  obtain ⟨h0, h9⟩ := hc
  rcases look16_cases c with ⟨e, ⟨h, h'⟩, e'⟩ | ⟨e, ⟨h, h'⟩, e'⟩ | ⟨⟨e1, e2⟩, e'⟩
  · rw [e'] 
    rw [e] at hcall
    clear e e'
    go_enter Tryd.func63, Tryd.ntmps63
    go_wp2_with fail
    refine hcall.out.mono ?_
    rintro e w1 ⟨rfl, rfl⟩
    go_wp2_with fail
    go_ret2
    exact ⟨rfl, rfl⟩
  · rw [e'] 
    rw [e] at hcall
    clear e e'
    go_enter Tryd.func63, Tryd.ntmps63
    go_wp2_with fail
    refine hcall.out.mono ?_
    rintro e w1 ⟨rfl, rfl⟩
    go_wp2_with fail
    go_ret2
    exact ⟨rfl, rfl⟩
  · rw [e'] 
    obtain ⟨k, hk⟩ : ∃ k, kindI c = k := ⟨_, rfl⟩
    rw [hk] at hcall e1 e2
    clear e' hk
    go_enter Tryd.func63, Tryd.ntmps63
    go_wp2_with fail
    refine hcall.out.mono ?_
    rintro e w1 ⟨rfl, rfl⟩
    go_wp2_with fail
    go_ret2
    exact ⟨rfl, rfl⟩

theorem look10_cases (c : Int) : (kindI c = 1 ∧ (48 ≤ c ∧ c ≤ 57) ∧ look10 c = .tuple #[.int .i64 (c - 48), .bool true]) ∨ (kindI c = 2 ∧ look10 c = .tuple #[.int .i64 0, .bool false]) ∨ ((kindI c ≠ 1 ∧ kindI c ≠ 2) ∧ look10 c = .tuple #[.int .i64 0, .bool false]) := by
  unfold look10
  rcases val_cases c with ⟨e, h, e'⟩ | ⟨e, h, e'⟩ | ⟨h, e'⟩
  · refine .inl ⟨e, h, ?_⟩
    rw [if_pos e, decide_eq_true e]
  · refine .inr (.inl ⟨e, ?_⟩)
    rw [if_neg (by omega), decide_eq_false (by omega)]
  · refine .inr (.inr ⟨h, ?_⟩)
    rw [if_neg h.1, decide_eq_false h.1]
theorem look10_any (B : Nat) (c : Int) (w : World) (hc : 0 ≤ c ∧ c < 256) (hB : w.cell? ⟨B, 0, none⟩ = some (.int .i64 10)) :
    Calls Tryd.prog 63 #[.int .u8 c, .pointer (some ⟨B, 0, none⟩)] w fun e w' => e = .returned (look10 c) ∧ w' = w := by
  have hcall := Lib.hid (kind_any c w hc)
  obtain ⟨h0, h9⟩ := hc
  rcases look10_cases c with ⟨e, ⟨h, h'⟩, e'⟩ | ⟨e, e'⟩ | ⟨⟨e1, e2⟩, e'⟩
  · rw [e'] 
    rw [e] at hcall
    clear e e'
    go_enter Tryd.func63, Tryd.ntmps63
    go_wp2_with fail
    refine hcall.out.mono ?_
    rintro e w1 ⟨rfl, rfl⟩
    go_wp2_with fail
    go_ret2
    exact ⟨rfl, rfl⟩
  · rw [e'] 
    rw [e] at hcall
    clear e e'
    go_enter Tryd.func63, Tryd.ntmps63
    go_wp2_with fail
    refine hcall.out.mono ?_
    rintro e w1 ⟨rfl, rfl⟩
    go_wp2_with fail
    go_ret2
    exact ⟨rfl, rfl⟩
  · rw [e'] 
    obtain ⟨k, hk⟩ : ∃ k, kindI c = k := ⟨_, rfl⟩
    rw [hk] at hcall e1 e2
    clear e' hk
    go_enter Tryd.func63, Tryd.ntmps63
    go_wp2_with fail
    refine hcall.out.mono ?_
    rintro e w1 ⟨rfl, rfl⟩
    go_wp2_with fail
    go_ret2
    exact ⟨rfl, rfl⟩
end Go.Proofs.YtfbgcjpakahocaaDoor

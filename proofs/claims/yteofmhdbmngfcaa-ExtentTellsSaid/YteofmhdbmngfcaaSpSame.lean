/- The law's same, where both lists are one. No conditions but those that stand in each lemma. -/
import Derived.Test.YteofmhdbmngfcaaSpOwnCopy
namespace Go.Proofs.Yteofmhdbmngfcaa
open Go.RowKit

/-- At a round's head. -/
def SameAt (w : World) (l : List Sp) (i : Value) (wr : World) : Prop := ∃ k : Nat, k ≤ l.length ∧ i = .int .i64 (k : Int) ∧ Below w.heap.size w wr
set_option maxRecDepth 100000 in
set_option maxHeartbeats 1000000 in
theorem same_yes (A : Option Addr) (n c : Nat) (A' : Option Addr) (n' c' : Nat) (l : List Sp) (w : World) (hn : n = l.length) (hs : SpSrc w A l) (hn' : n' = l.length) (hs' : SpSrc w A' l) (hl : n ≤ 1000000) :
    Calls Try.prog 8 #[.slice A n c, .slice A' n' c'] w fun e w' => e = .returned (.bool true) ∧ Below w.heap.size w w' := by
  obtain rfl : n' = n := by omega
  have Hn := Lib.hid hn
  have Hs := Lib.hid hs
  have Hs' := Lib.hid hs'
  clear hn hs hs' hn'
  go_enter Try.func8, Try.ntmps8
  go_wp2_with fail
  go_loopw [5] (fun i wr => SameAt w l i wr) (fun i _ => n' - (intOf i).toNat)
  case atStart => exact ⟨0, Nat.zero_le _, rfl, Below.refl _ _⟩
  case round =>
    obtain ⟨k, hk, rfl, hb⟩ := hrel
    by_cases hlt : k < l.length
    · obtain ⟨b, o, rfl, hbl, hcell⟩ := Hs.out (by omega)
      obtain ⟨b', o', rfl, hbl', hcell'⟩ := Hs'.out (by omega)
      have hszr := hb.size
      have c0 : wr.cell? ⟨b, o + k * 2, none⟩ = some (.int .i64 (l.getD k spZ).1) := (hb.cell (p := ⟨b, o + k * 2, none⟩) hbl).trans (hcell k hlt).1
      have c1 : wr.cell? ⟨b, o + k * 2 + 1, none⟩ = some (.int .i64 (l.getD k spZ).2) := (hb.cell (p := ⟨b, o + k * 2 + 1, none⟩) hbl).trans (hcell k hlt).2
      have c2 : wr.cell? ⟨b', o' + k * 2, none⟩ = some (.int .i64 (l.getD k spZ).1) := (hb.cell (p := ⟨b', o' + k * 2, none⟩) hbl').trans (hcell' k hlt).1
      have c3 : wr.cell? ⟨b', o' + k * 2 + 1, none⟩ = some (.int .i64 (l.getD k spZ).2) := (hb.cell (p := ⟨b', o' + k * 2 + 1, none⟩) hbl').trans (hcell' k hlt).2
      have hkn : k < n' := by have := Hn.out; omega
      have hki : (k : Int) < (n' : Int) := by omega
      clear hcell hcell'
      generalize (l.getD k spZ).1 = x at *
      generalize (l.getD k spZ).2 = y at *
      go_wp2_with fail
      go_quiet (fail)
      go_wp2_with fail
      go_roundw
      case rel => exact ⟨k + 1, by omega, by go_num, below_drewN hb _⟩
      case measure => simp [intOf]; omega
    · obtain rfl : k = n' := by have := Hn.out; omega
      go_wp2_with fail
      go_ret
      exact ⟨rfl, hb⟩
end Go.Proofs.Yteofmhdbmngfcaa

/- DiskNobody, for any arguments: true; nothing that was there is written. -/
import Derived.Test.YtehanjhgjbclhaaRow
namespace Go.Proofs.Ytehanjhgjbclhaa
open Go.RowKit

/-- At a round's head: k of the two disks are done. -/
def TwoAt (w : World) (i : Value) (wr : World) : Prop :=
  ∃ k : Nat, k ≤ 2 ∧ i = .int .i64 k ∧ Row wr (w.heap.size + 1) 23 #[.pointer none, .pointer (some ⟨w.heap.size, 0, none⟩)] ∧ Row wr w.heap.size 27 (dcells none 0 0 none false 0) ∧ Below w.heap.size w wr

set_option maxRecDepth 100000 in
theorem nobody_any (w : World) (at_ : Int) (b : Value) : Calls Try.prog 3 #[.int .i64 at_, b] w fun e w' => e = .returned (.bool true) ∧ Below w.heap.size w w' := by
  go_enter Try.func3, Try.ntmps3
  go_wp2_with fail
  have rA : Row (w.alloc (Obj.cells #[Value.slice none 0 0, Value.map none, Value.bool false, Value.int IntKind.i64 0] 27)) w.heap.size 27 (dcells none 0 0 none false 0) := Row.new _ _ _
  have rB := rA.old (.cells #[Value.pointer none, Value.pointer (some { block := w.heap.size, off := 0 })] 23)
  have rC : Row ((w.alloc (Obj.cells #[Value.slice none 0 0, Value.map none, Value.bool false, Value.int IntKind.i64 0] 27)).alloc (.cells #[Value.pointer none, Value.pointer (some { block := w.heap.size, off := 0 })] 23)) (w.heap.size + 1) 23 #[.pointer none, .pointer (some ⟨w.heap.size, 0, none⟩)] := by
    have := Row.new (w.alloc (Obj.cells #[Value.slice none 0 0, Value.map none, Value.bool false, Value.int IntKind.i64 0] 27)) 23 #[.pointer none, .pointer (some ⟨w.heap.size, 0, none⟩)]
    simpa using this
  have hb : Below w.heap.size w ((w.alloc (Obj.cells #[Value.slice none 0 0, Value.map none, Value.bool false, Value.int IntKind.i64 0] 27)).alloc (.cells #[Value.pointer none, Value.pointer (some { block := w.heap.size, off := 0 })] 23)) :=
    ((Below.refl _ _).alloc (Nat.le_refl _) _).alloc (by simp) _
  clear rA
  generalize (w.alloc (Obj.cells #[Value.slice none 0 0, Value.map none, Value.bool false, Value.int IntKind.i64 0] 27)).alloc (.cells #[Value.pointer none, Value.pointer (some { block := w.heap.size, off := 0 })] 23) = w0 at *
  go_loopw [15] (fun i wr => TwoAt w i wr) (fun i _ => 2 - (intOf i).toNat)
  case atStart => exact ⟨0, by omega, rfl, rC, rB, hb⟩
  case round =>
    clear rC rB hb
    obtain ⟨k, hk, rfl, rC, rB, hb⟩ := hrel
    by_cases hlt : k < 2
    · have main : ∃ d : Value, NoDisk wr d ∧ d.oneCell' = true ∧ wr.cell? ⟨w.heap.size + 1, k, none⟩ = some d ∧ (d = .pointer none ∨ d = .pointer (some ⟨w.heap.size, 0, none⟩)) := by
        have : k = 0 ∨ k = 1 := by omega
        rcases this with rfl | rfl
        · exact ⟨_, .inl rfl, rfl, rC.cell rfl, .inl rfl⟩
        · exact ⟨_, .inr ⟨_, rfl, rB⟩, rfl, rC.cell rfl, .inr rfl⟩
      obtain ⟨d, hd, hd1, hc, _⟩ := main
      have gk : (k : Int) < 2 := by omega
      go_wp2_with fail
      refine (none_read _ _ _ hd).mono ?_
      rintro e w1 ⟨rfl, hb1⟩
      have hd := hd.keep hb1
      have hb := hb.trans (hb1.mono hb.size)
      have rC := rC.keep hb1
      have rB := rB.keep hb1
      go_wp2_with fail
      have hd := hd.keep ((Below.refl w1.heap.size w1).alloc (Nat.le_refl _) (.cells #[Value.int IntKind.i64 at_] 3))
      have hb := hb.alloc hb.size (.cells #[Value.int IntKind.i64 at_] 3)
      have rC := rC.old (.cells #[Value.int IntKind.i64 at_] 3)
      have rB := rB.old (.cells #[Value.int IntKind.i64 at_] 3)
      refine (none_crash _ _ _ hd).mono ?_
      rintro e w2 ⟨rfl, hb2⟩
      have hd := hd.keep hb2
      have hb := hb.trans (hb2.mono hb.size)
      have rC := rC.keep hb2
      have rB := rB.keep hb2
      go_wp2_with fail
      refine (none_fuse _ _ _ hd).mono ?_
      rintro e w3 ⟨⟨v3, rfl⟩, hb3⟩
      have hd := hd.keep hb3
      have hb := hb.trans (hb3.mono hb.size)
      have rC := rC.keep hb3
      have rB := rB.keep hb3
      go_wp2_with fail
      refine (none_write _ _ _ _ hd).mono ?_
      rintro e w4 ⟨rfl, hb4⟩
      have hd := hd.keep hb4
      have hb := hb.trans (hb4.mono hb.size)
      have rC := rC.keep hb4
      have rB := rB.keep hb4
      go_wp2_with fail
      refine (none_flush _ _ hd).mono ?_
      rintro e w5 ⟨rfl, hb5⟩
      have hd := hd.keep hb5
      have hb := hb.trans (hb5.mono hb.size)
      have rC := rC.keep hb5
      have rB := rB.keep hb5
      go_wp2_with fail
      refine (none_len _ _ hd).mono ?_
      rintro e w6 ⟨rfl, hb6⟩
      have hd := hd.keep hb6
      have hb := hb.trans (hb6.mono hb.size)
      have rC := rC.keep hb6
      have rB := rB.keep hb6
      go_wp2_with fail
      refine (none_waiting _ _ hd).mono ?_
      rintro e w7 ⟨rfl, hb7⟩
      have hd := hd.keep hb7
      have hb := hb.trans (hb7.mono hb.size)
      have rC := rC.keep hb7
      have rB := rB.keep hb7
      go_wp2_with fail
      go_roundw
      case rel => exact ⟨k + 1, by omega, by go_num, rC, rB, hb⟩
      case measure => simp [intOf]; omega
    · obtain rfl : k = 2 := by omega
      rw [show ((2 : Nat) : Int) = (2 : Int) from rfl]
      go_wp2_with fail
      go_ret
      exact ⟨rfl, hb⟩
end Go.Proofs.Ytehanjhgjbclhaa

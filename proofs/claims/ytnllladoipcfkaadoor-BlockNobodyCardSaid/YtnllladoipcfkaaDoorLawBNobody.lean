/- BlockNobody's walk: for any pointer and any bytes it answers true, and writes nothing that was there. -/
import Derived.Test.YtnllladoipcfkaaDoorBlkRefused
namespace Go.Proofs.YtnllladoipcfkaaDoor
open Go.RowKit

/-- At a round's head: k of the two disks are done. -/
def NobAt (w : World) (p : Pt) (i : Value) (wr : World) : Prop :=
  ∃ k : Nat, k ≤ 2 ∧ i = .int .i64 k ∧ Row wr w.heap.size 31 (pcells p) ∧ Row wr (w.heap.size + 1) 45 (dcells none 0 0 none false 0) ∧ Row wr (w.heap.size + 1 + 1) 24 #[.pointer none, .pointer (some ⟨w.heap.size + 1, 0, none⟩)] ∧ Below w.heap.size w wr
theorem nob_start (w : World) (p : Pt) : NobAt w p (.int .i64 0) (((w.alloc (Obj.cells (pcells p) 31)).alloc (Obj.cells #[Value.slice none 0 0, Value.map none, Value.bool false, Value.int IntKind.i64 0] 45)).alloc (Obj.cells #[Value.pointer none, Value.pointer (some { block := w.heap.size + 1, off := 0 })] 24)) := by
  have r0 := Row.new w 31 (pcells p)
  have r1 := Row.new (w.alloc (Obj.cells (pcells p) 31)) 45 (dcells none 0 0 none false 0)
  have r2 := Row.new ((w.alloc (Obj.cells (pcells p) 31)).alloc (Obj.cells (dcells none 0 0 none false 0) 45)) 24 #[.pointer none, .pointer (some ⟨w.heap.size + 1, 0, none⟩)]
  have z1 : (w.alloc (Obj.cells (pcells p) 31)).heap.size = w.heap.size + 1 := by show (w.heap.push _).size = _; rw [Array.size_push]
  have z2 : ((w.alloc (Obj.cells (pcells p) 31)).alloc (Obj.cells (dcells none 0 0 none false 0) 45)).heap.size = w.heap.size + 1 + 1 := by show ((w.alloc _).heap.push _).size = _; rw [Array.size_push, z1]
  rw [z1] at r1
  rw [z2] at r2
  exact ⟨0, by omega, rfl, (r0.old _).old _, r1.old _, r2, (((Below.refl _ _).alloc (Nat.le_refl _) _).alloc (by rw [z1]; omega) _).alloc (by rw [← show dcells none 0 0 none false 0 = #[Value.slice none 0 0, Value.map none, Value.bool false, Value.int IntKind.i64 0] from rfl, z2]; omega) _⟩

set_option maxRecDepth 100000 in
set_option maxHeartbeats 1000000 in
theorem bnobody_any (p : Pt) (A : Option Addr) (n c : Nat) (w : World) (hp : p.sha.length = 32) :
    Calls Tryd.prog 4 #[.agg (pcells p), .slice A n c] w fun e w' => e = .returned (.bool true) ∧ Below w.heap.size w w' := by
  have HP := Lib.hid hp
  have start := nob_start w p
  have hq := Lib.hid (fun w' => neq_pts w' Pt.zero Pt.zero rfl rfl)
  rw [Pt.same_self] at hq
  clear hp
  go_enter Tryd.func4, Tryd.ntmps4
  go_wp2_with fail
  generalize ((w.alloc (Obj.cells (pcells p) 31)).alloc (Obj.cells #[Value.slice none 0 0, Value.map none, Value.bool false, Value.int IntKind.i64 0] 45)).alloc (Obj.cells #[Value.pointer none, Value.pointer (some { block := w.heap.size + 1, off := 0 })] 24) = w0 at *
  go_loopw [15] (fun i wr => NobAt w p i wr) (fun i _ => 2 - (intOf i).toNat)
  case atStart => exact start
  case round =>
    clear start
    obtain ⟨k, hk, rfl, rP, rB, rC, hb⟩ := hrel
    by_cases hlt : k < 2
    · have main : ∃ d : Value, NoDisk wr d ∧ d.oneCell' = true ∧ wr.cell? ⟨w.heap.size + 1 + 1, k, none⟩ = some d ∧ (d = .pointer none ∨ d = .pointer (some ⟨w.heap.size + 1, 0, none⟩)) := by
        have : k = 0 ∨ k = 1 := by omega
        rcases this with rfl | rfl
        · exact ⟨_, .inl rfl, rfl, rC.cell rfl, .inl rfl⟩
        · exact ⟨_, .inr ⟨_, rfl, rB⟩, rfl, rC.cell rfl, .inr rfl⟩
      obtain ⟨d, hd, hd1, hc, _⟩ := main
      have gk : (k : Int) < 2 := by omega
      have lt0 := rP.lt
      go_wp2_with (refine wpList_loadP (.tmp 2) rfl rfl w.heap.size rfl p HP.out rP ?_)
      refine (bread_none d p _ hd HP.out).mono ?_
      rintro e w1 ⟨rfl, hb1⟩
      have hd := hd.keep hb1
      have hb := hb.trans (hb1.mono hb.size)
      have rC := rC.keep hb1
      have rB := rB.keep hb1
      have rP := rP.keep hb1
      have c0 := row_place rP
      have c1 := row_birth rP
      go_wp2_with fail
      refine (bwrite_none d p.place p.birth A n c _ hd).mono ?_
      rintro e w2 ⟨rfl, hb2⟩
      have hb := hb.trans (hb2.mono hb.size)
      have rC := rC.keep hb2
      have rB := rB.keep hb2
      have rP := rP.keep hb2
      have l2 := rC.lt
      have l3 := hb.size
      clear c0 c1
      go_wp2_with (first
        | (refine wpList_allocP 9 rfl rfl rfl ?_; intro w3 r3 hb3 hz3; have hb := hb.trans (hb3.mono hb.size); have rC := rC.keep hb3; have rB := rB.keep hb3; have rP := rP.keep hb3)
        | (refine wpList_storeP rfl (.tmp 9) (.tmp 33) rfl w2.heap.size rfl Pt.zero rfl rfl Pt.zero rfl r3 ?_; intro w4 r4 o4; have hb := hb.trans (o4.below.mono l3); have rC := o4.row rC (by omega); have rB := o4.row rB (by omega); have rP := o4.row rP (by omega))
        | (refine wpList_loadP (.tmp 9) rfl rfl w2.heap.size rfl Pt.zero rfl r4 ?_)
        | (refine wpList_buildZ rfl rfl ?_; have hq := hq.out))
      go_roundw
      case rel => exact ⟨k + 1, by omega, by go_num, rP, rB, rC, hb⟩
      case measure => simp [intOf]; omega
    · obtain rfl : k = 2 := by omega
      rw [show ((2 : Nat) : Int) = (2 : Int) from rfl]
      go_wp2_with fail
      go_ret
      exact ⟨rfl, hb⟩
end Go.Proofs.YtnllladoipcfkaaDoor

/- The document's Sectors: for any pointer; nothing that was there is written. -/
import Derived.Test.YtcolicmefehcnaaDoorPtr
namespace Go.Proofs.YtcolicmefehcnaaDoor
open Go.RowKit

set_option maxHeartbeats 1000000 in
theorem refSectors_any (p : Pt) (w : World) :
    Calls Tryd.prog 46 #[.agg (pcells p)] w fun e w' => e = .returned (.int .i64 (secsOf p.len)) ∧ Below w.heap.size w w' := by
  have r1 := Row.new w 25 (pcells p)
  have b1 : Below w.heap.size w (w.alloc (.cells (pcells p) 25)) := (Below.refl _ _).alloc (Nat.le_refl _) _
  have c2 := row_len r1
  clear r1
  by_cases h1 : p.len < 1
  · have HS := Lib.hid (show (0 : Int) = secsOf p.len by unfold secsOf lenOk; rw [if_neg (by simp; omega)])
    go_enter Tryd.func46, Tryd.ntmps46
    go_wp2_with fail
    go_ret
    exact ⟨by rw [← HS.out]; rfl, b1⟩
  · by_cases h2 : 65536 < p.len
    · have HS := Lib.hid (show (0 : Int) = secsOf p.len by unfold secsOf lenOk; rw [if_neg (by simp; omega)])
      go_enter Tryd.func46, Tryd.ntmps46
      go_wp2_with fail
      go_ret
      exact ⟨by rw [← HS.out]; rfl, b1⟩
    · have HS := Lib.hid (show (p.len + 511) / 512 = secsOf p.len by unfold secsOf lenOk; rw [if_pos (by simp; omega)])
      have l1 : 1 ≤ p.len := by omega
      have l2 : p.len ≤ 65536 := by omega
      go_enter Tryd.func46, Tryd.ntmps46
      go_wp2_with fail
      go_ret
      exact ⟨by rw [← HS.out]; rfl, b1⟩
end Go.Proofs.YtcolicmefehcnaaDoor

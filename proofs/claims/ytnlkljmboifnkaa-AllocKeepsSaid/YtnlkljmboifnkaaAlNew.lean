/- New: an alloc, all of whose sectors are free. No conditions but those that stand in each lemma. -/
import Derived.Test.YtnlkljmboifnkaaAlCommit
namespace Go.Proofs.Ytnlkljmboifnkaa
open Go.RowKit Go.Maps

/-- What New makes. -/
def alNew (lo hi res : Int) : AlS := { av := fun _ => False, lo := lo, hi := hi, res := res, ep := 0, free := Spans.addL [] (lo, hi), settled := Spans.addL [] (lo, hi), waits := [] }
set_option maxRecDepth 100000 in
set_option maxHeartbeats 2000000 in
theorem new_alloc (w : World) (lo hi res : Int) (h0 : 0 ≤ lo) (h1 : lo ≤ hi) (h2 : hi ≤ 8192) (h3 : 0 ≤ res) (h4 : res ≤ hi - lo) :
    Calls Try.prog 17 #[.int .i64 lo, .int .i64 hi, .int .i64 res] w fun e w' => ∃ p m, e = .returned (.tuple #[.pointer (some ⟨p, 0, none⟩), .int .i64 0]) ∧ w.heap.size ≤ p ∧ w.heap.size ≤ m ∧ Below w.heap.size w w' ∧ Al w' p m 0 (alNew lo hi res) := by
  have hmm := @run_makeMap Try.prog
  have g1 : ¬ lo < 0 := by omega
  have g2 : ¬ hi < lo := by omega
  have g3 : ¬ 8192 < hi := by omega
  have g4 : ¬ res < 0 := by omega
  have g5 : ¬ hi - lo < res := by omega
  have d1 : decide (lo < 0) = false := by simp; omega
  have d2 : decide (hi < lo) = false := by simp; omega
  have d3 : decide (8192 < hi) = false := by simp; omega
  have d4 : decide (res < 0) = false := by simp; omega
  have d5 : decide (hi - lo < res) = false := by simp; omega
  have HAD := Lib.hid (add_any none 0 0 [] lo hi w rfl .none_ (by omega) (Nat.le_refl _) (Nat.zero_le _))
  have HS : Hid (alNew lo hi res = { av := fun _ => False, lo := lo, hi := hi, res := res, ep := 0, free := Spans.addL [] (lo, hi), settled := Spans.addL [] (lo, hi), waits := [] }) := Lib.hid rfl
  generalize alNew lo hi res = sn at *
  go_enter Try.func17, Try.ntmps17
  go_wp2_with fail
  refine HAD.out.mono ?_
  intro e w1 hg
  obtain ⟨x, rfl, hx, hb, _⟩ := spx_of_gives hg
  have HX := Lib.hid hx
  have HB := Lib.hid hb
  clear hg hx hb HAD
  go_wp2_with fail
  go_ret2
  have z1 : (w1.alloc (.map #[] 0)).heap.size = w1.heap.size + 1 := by show (w1.heap.push _).size = _; rw [Array.size_push]
  have r1 := Row.new (w1.alloc (.map #[] 0)) 28 (alCells sn x x w1.heap.size)
  rw [z1] at r1
  have b0 : Below w1.heap.size w1 (w1.alloc (.map #[] 0)) := (Below.refl _ _).alloc (Nat.le_refl _) _
  have b1 : Below w1.heap.size w1 ((w1.alloc (.map #[] 0)).alloc (.cells (alCells sn x x w1.heap.size) 28)) := b0.alloc (by omega) _
  have o1 := (World.ownsMap_made (H := SlV) w1 Try.prog 3 slR).alloc (.cells (alCells sn x x w1.heap.size) 28)
  have hs := HB.out.size
  have hx := HX.out.keep b1
  have hb := HB.out.trans (b1.mono hs)
  have e := HS.out
  subst e
  exact ⟨_, _, rfl, by omega, hs, hb, x, x, none, r1, o1, hx, hx, rfl, fun b hv => hv.elim, fun _ _ _ hv => hv.elim, fun _ _ _ hv => hv.elim, .nil⟩
end Go.Proofs.Ytnlkljmboifnkaa

/- A label within a region that draws its order: made, written, and read as a whole. No conditions but those that stand in each lemma. -/
import Derived.Test.YtcolicmefehcnaaDoorLbl
import Derived.Test.YtcolicmefehcnaaDoorDrawT
import Derived.Deep.CutRange
namespace Go.Proofs.YtcolicmefehcnaaDoor
open Go.RowKit

instance (g : Nat) : Turns (Only g) where
  refl := fun _ => ⟨rfl, Below.refl _ _, fun _ _ => rfl⟩
  trans := fun h k => ⟨k.size.trans h.size, h.below.trans k.below, fun b hb => (k.block b hb).trans (h.block b hb)⟩
theorem wpQuiet_load_cellsR {R : World → World → Prop} {P : Program} {ops : Array Oper} {rest : List Oper} {op : Oper} {a : Act} {w : World} {K : Act → Prop} (hw : Region.wanted op (yielded ops a.tmps) = true) (ty : TypeId) (x : Operand) (ho : op.op = .load ty x)
    (b o : Nat) (hx : a.eval x = .pointer (some ⟨b, o, none⟩)) (cs : Array Value) (d : TypeDesc) (hc : ∀ g : AboveR R w, Cells g.1 b o cs)
    (hu : P.underlying ty = some d) (hd : (match d with | .struct _ | .array _ _ => true | _ => false) = true) (hi : (P.info? ty).map (·.size) = some cs.size)
    (h : wpQuiet P ops (ClR R w) K rest (a.put op.dst (.agg cs))) : wpQuiet P ops (ClR R w) K (op :: rest) a := by
  unfold wpQuiet
  rw [if_pos hw]
  refine ⟨.agg cs, fun w' ⟨g, hg⟩ => ?_, h⟩
  subst hg
  unfold Oper.quietAt execOp
  simp only [ho, hx, Instr.loadAt, Instr.sureAddr, Sem.run_bind, Sem.run_pure, Result.andThen_ok, run_loadVar_cells g.1 b o ty cs d (hc g) hu hd hi]
  exact ⟨rfl, rfl⟩
section
variable {T : TypeId} (hT : LT T)
include hT
theorem wp_allocL {o : Oper} {a : Act} {w : World} {K : Act → World → Prop} {Q : Exit → Act → World → Prop} (ho : o.op = .alloc T)
    (h : ∀ w', Row w' w.heap.size T (lcells Lb.zero) → Below w.heap.size w w' → w'.heap.size = w.heap.size + 1 → K (a.put o.dst (.pointer (some ⟨w.heap.size, 0, none⟩))) w') : Oper.wp Tryd.prog o a w K Q := by
  unfold Oper.wp
  rw [hT.made a.eval o w ho, Oper.upon_value]
  exact h _ (Row.new _ _ _) ((Below.refl _ _).alloc (Nat.le_refl _) _) (by show (w.heap.push _).size = _; rw [Array.size_push])
theorem wp_storeL {o : Oper} {a : Act} {w : World} {K : Act → World → Prop} {Q : Exit → Act → World → Prop} (x y : Operand) (ho : o.op = .store T x y) (g : Nat) (hx : a.eval x = .pointer (some ⟨g, 0, none⟩)) (q : Lb) (hy : a.eval y = .agg (lcells q)) (hq : q.root.sha.length = 32)
    (old : Lb) (hold : old.root.sha.length = 32) (hr : Row w g T (lcells old)) (h : ∀ w', Row w' g T (lcells q) → Only g w w' → K (a.put o.dst undef) w') : Oper.wp Tryd.prog o a w K Q :=
  wp_store_row T x y ho g (lcells q) hx hy T (lcells old) hr (lb_size hT hq) (by rw [lcells_size, lcells_size, hq, hold]) (lcells_one q)
    (h _ (hr.setRow _) ⟨by simp, below_setRow (Below.refl _ _) (Nat.le_refl _) _, fun b hb => setRow_other _ _ _ _ hb⟩)
end
end Go.Proofs.YtcolicmefehcnaaDoor

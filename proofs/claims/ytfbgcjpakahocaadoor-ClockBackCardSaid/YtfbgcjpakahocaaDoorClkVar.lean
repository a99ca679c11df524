/- A variable that holds a time: made, stored, loaded, built, answered; of the program's type and of the document's. No conditions but those that stand in each lemma. -/
import Derived.Test.YtfbgcjpakahocaaDoorClkRight
namespace Go.Proofs.YtfbgcjpakahocaaDoor
open Go.RowKit
namespace Clk

theorem tmC_size (t : Tm) : (tmC t).size = 6 := rfl
theorem tmC_one (t : Tm) : (tmC t).all (·.oneCell') = true := by simp [tmC, Value.oneCell']
/-- All blocks but one are as they were. -/
structure Only (g : Nat) (w w' : World) : Prop where
  size : w'.heap.size = w.heap.size
  below : Below g w w'
  block : ∀ b, b ≠ g → w'.heap[b]? = w.heap[b]?
theorem Only.row {g b : Nat} {w w' : World} {t : TypeId} {cs : Array Value} (h : Only g w w') (hr : Row w b t cs) (hb : b ≠ g) : Row w' b t cs := (h.block b hb).trans hr
/-- A type that is laid as a time. -/
structure TT (T : TypeId) : Prop where
  size : (Tryd.prog.info? T).map (·.size) = some 6
  struct : Tryd.prog.underlying T = some (.struct (Tryd.prog.fieldsOf T))
  held : Tryd.prog.stoodInHeld T = false
  fields : (Tryd.prog.fieldsOf T).toList.map (fun f => (f.name == "_", f.type, f.offset)) = [(false, 3, 0), (false, 3, 1), (false, 3, 2), (false, 3, 3), (false, 3, 4), (false, 3, 5)]
  made : ∀ (ρ : Operand → Value) (o : Oper) (w : World), o.op = .alloc T → (execOp ρ o).run Tryd.prog w = .ok (.value (.pointer (some ⟨w.heap.size, 0, none⟩))) (w.alloc (.cells (tmC Tm.zero) T))
  built0 : Tryd.prog.built T [] = some (tmC Tm.zero)
  built3 : ∀ y m d : Int, Tryd.prog.built T [(0, .int .i64 y), (1, .int .i64 m), (2, .int .i64 d)] = some (tmC ⟨y, m, d, 0, 0, 0⟩)
  built5 : ∀ y d h i s : Int, Tryd.prog.built T [(0, .int .i64 y), (2, .int .i64 d), (3, .int .i64 h), (4, .int .i64 i), (5, .int .i64 s)] = some (tmC ⟨y, 0, d, h, i, s⟩)
  built6 : ∀ y m d h i s : Int, Tryd.prog.built T [(0, .int .i64 y), (1, .int .i64 m), (2, .int .i64 d), (3, .int .i64 h), (4, .int .i64 i), (5, .int .i64 s)] = some (tmC ⟨y, m, d, h, i, s⟩)
theorem ttP : TT 23 where
  size := by kernel_rfl
  struct := by kernel_rfl
  held := by kernel_rfl
  fields := by kernel_rfl
  made := fun ρ o w ho => by
    unfold execOp
    rw [ho]
    kernel_rfl
  built0 := by kernel_rfl
  built3 := fun y m d => by kernel_rfl
  built5 := fun y d h i s => by kernel_rfl
  built6 := fun y m d h i s => by kernel_rfl
theorem ttR : TT 26 where
  size := by kernel_rfl
  struct := by kernel_rfl
  held := by kernel_rfl
  fields := by kernel_rfl
  made := fun ρ o w ho => by
    unfold execOp
    rw [ho]
    kernel_rfl
  built0 := by kernel_rfl
  built3 := fun y m d => by kernel_rfl
  built5 := fun y d h i s => by kernel_rfl
  built6 := fun y m d h i s => by kernel_rfl
section
variable {T : TypeId} {ops : Array Oper} {rest : List Oper} {o : Oper} {a : Act} {w : World} {Q : Exit → Act → World → Prop} (hT : TT T)
include hT
theorem TT.sz (t : Tm) : (Tryd.prog.info? T).map (·.size) = some (tmC t).size := hT.size
theorem wpList_allocT (hg : o.guard = none) (ho : o.op = .alloc T)
    (h : ∀ w', Row w' w.heap.size T (tmC Tm.zero) → Below w.heap.size w w' → w'.heap.size = w.heap.size + 1 → wpList Tryd.prog ops Q rest (a.put o.dst (.pointer (some ⟨w.heap.size, 0, none⟩))) w') : wpList Tryd.prog ops Q (o :: rest) a w := by
  refine wpList_plain hg fun K hK => ?_
  unfold Oper.wp
  rw [hT.made a.eval o w ho, Oper.upon_value]
  exact hK _ _ (h _ (Row.new _ _ _) ((Below.refl _ _).alloc (Nat.le_refl _) _) (by show (w.heap.push _).size = _; rw [Array.size_push]))
theorem wpList_boxT (hg : o.guard = none) (x : Operand) (ho : o.op = .box T x) (t : Tm) (hx : a.eval x = .agg (tmC t))
    (h : ∀ w', Row w' w.heap.size T (tmC t) → Below w.heap.size w w' → w'.heap.size = w.heap.size + 1 → wpList Tryd.prog ops Q rest (a.put o.dst (.pointer (some ⟨w.heap.size, 0, none⟩))) w') : wpList Tryd.prog ops Q (o :: rest) a w := by
  refine wpList_plain hg fun K hK => ?_
  unfold Oper.wp
  have hr : (execOp a.eval o).run Tryd.prog w = .ok (.value (.pointer (some ⟨w.heap.size, 0, none⟩))) (w.alloc (.cells (tmC t) T)) := by
    have hT' := hT.size
    unfold execOp
    rw [ho]
    show ((fun v => _) (a.eval x) : Sem Next).run Tryd.prog w = _
    rw [hx]
    rfl
  rw [hr, Oper.upon_value]
  exact hK _ _ (h _ (Row.new _ _ _) ((Below.refl _ _).alloc (Nat.le_refl _) _) (by show (w.heap.push _).size = _; rw [Array.size_push]))
theorem wpList_storeT (hg : o.guard = none) (x y : Operand) (ho : o.op = .store T x y) (g : Nat) (hx : a.eval x = .pointer (some ⟨g, 0, none⟩)) (t : Tm) (hy : a.eval y = .agg (tmC t))
    (old : Tm) (hr : Row w g T (tmC old)) (h : ∀ w', Row w' g T (tmC t) → Only g w w' → wpList Tryd.prog ops Q rest (a.put o.dst undef) w') : wpList Tryd.prog ops Q (o :: rest) a w := by
  refine wpList_store_row hg T x y ho g (tmC t) hx hy T (tmC old) hr (hT.sz t) rfl (tmC_one t) ?_
  exact h _ (hr.setRow _) ⟨by simp, below_setRow (Below.refl _ _) (Nat.le_refl _) _, fun b hb => setRow_other _ _ _ _ hb⟩
theorem wpList_loadT (x : Operand) (ho : o.op = .load T x) (hw : Region.wanted o (yielded ops a.tmps) = true) (g : Nat) (hx : a.eval x = .pointer (some ⟨g, 0, none⟩)) (t : Tm) (hr : Row w g T (tmC t))
    (h : wpList Tryd.prog ops Q rest (a.put o.dst (.agg (tmC t))) w) : wpList Tryd.prog ops Q (o :: rest) a w :=
  wpList_load_cells_w hw T x ho g 0 hx (tmC t) _ hr.cells hT.struct rfl (hT.sz t) h
theorem wpQuiet_loadT {K : Act → Prop} (x : Operand) (ho : o.op = .load T x) (hw : Region.wanted o (yielded ops a.tmps) = true) (g : Nat) (hx : a.eval x = .pointer (some ⟨g, 0, none⟩)) (t : Tm) (hr : Row w g T (tmC t))
    (h : wpQuiet Tryd.prog ops (Cl w) K rest (a.put o.dst (.agg (tmC t)))) : wpQuiet Tryd.prog ops (Cl w) K (o :: rest) a :=
  wpQuiet_load_cells hw T x ho g 0 hx (tmC t) _ hr.cells hr.lt hT.struct rfl (hT.sz t) h
theorem wp_build6 {K : Act → World → Prop} (x0 x1 x2 x3 x4 x5 : Operand) (ho : o.op = .build T #[(0, x0), (1, x1), (2, x2), (3, x3), (4, x4), (5, x5)]) (t : Tm)
    (h0 : a.eval x0 = .int .i64 t.y) (h1 : a.eval x1 = .int .i64 t.m) (h2 : a.eval x2 = .int .i64 t.d) (h3 : a.eval x3 = .int .i64 t.h) (h4 : a.eval x4 = .int .i64 t.i) (h5 : a.eval x5 = .int .i64 t.s)
    (h : K (a.put o.dst (.agg (tmC t))) w) : o.wp Tryd.prog a w K Q := by
  have e : ((#[(0, x0), (1, x1), (2, x2), (3, x3), (4, x4), (5, x5)] : Array (Nat × Operand)).map fun (i, x) => (i, a.eval x)).toList = [(0, .int .i64 t.y), (1, .int .i64 t.m), (2, .int .i64 t.d), (3, .int .i64 t.h), (4, .int .i64 t.i), (5, .int .i64 t.s)] := by simp [h0, h1, h2, h3, h4, h5]
  exact wp_build T _ ho (by rw [e, hT.built6]; rfl) (by rw [e, hT.built6]; exact h)
theorem wp_build5 {K : Act → World → Prop} (x0 x2 x3 x4 x5 : Operand) (ho : o.op = .build T #[(0, x0), (2, x2), (3, x3), (4, x4), (5, x5)]) (t : Tm) (hm : t.m = 0)
    (h0 : a.eval x0 = .int .i64 t.y) (h2 : a.eval x2 = .int .i64 t.d) (h3 : a.eval x3 = .int .i64 t.h) (h4 : a.eval x4 = .int .i64 t.i) (h5 : a.eval x5 = .int .i64 t.s)
    (h : K (a.put o.dst (.agg (tmC t))) w) : o.wp Tryd.prog a w K Q := by
  have e : ((#[(0, x0), (2, x2), (3, x3), (4, x4), (5, x5)] : Array (Nat × Operand)).map fun (i, x) => (i, a.eval x)).toList = [(0, .int .i64 t.y), (2, .int .i64 t.d), (3, .int .i64 t.h), (4, .int .i64 t.i), (5, .int .i64 t.s)] := by simp [h0, h2, h3, h4, h5]
  have e2 : Tryd.prog.built T [(0, .int .i64 t.y), (2, .int .i64 t.d), (3, .int .i64 t.h), (4, .int .i64 t.i), (5, .int .i64 t.s)] = some (tmC t) := by rw [hT.built5]; unfold tmC; rw [hm]
  exact wp_build T _ ho (by rw [e, e2]; rfl) (by rw [e, e2]; exact h)
theorem wp_allocT {K : Act → World → Prop} (ho : o.op = .alloc T)
    (h : ∀ w', Row w' w.heap.size T (tmC Tm.zero) → Below w.heap.size w w' → w'.heap.size = w.heap.size + 1 → K (a.put o.dst (.pointer (some ⟨w.heap.size, 0, none⟩))) w') : o.wp Tryd.prog a w K Q := by
  unfold Oper.wp
  rw [hT.made a.eval o w ho, Oper.upon_value]
  exact h _ (Row.new _ _ _) ((Below.refl _ _).alloc (Nat.le_refl _) _) (by show (w.heap.push _).size = _; rw [Array.size_push])
theorem wp_storeT {K : Act → World → Prop} (x y : Operand) (ho : o.op = .store T x y) (g : Nat) (hx : a.eval x = .pointer (some ⟨g, 0, none⟩)) (t : Tm) (hy : a.eval y = .agg (tmC t))
    (old : Tm) (hr : Row w g T (tmC old)) (h : ∀ w', Row w' g T (tmC t) → Only g w w' → K (a.put o.dst undef) w') : o.wp Tryd.prog a w K Q := by
  refine wp_store_row T x y ho g (tmC t) hx hy T (tmC old) hr (hT.sz t) rfl (tmC_one t) ?_
  exact h _ (hr.setRow _) ⟨by simp, below_setRow (Below.refl _ _) (Nat.le_refl _) _, fun b hb => setRow_other _ _ _ _ hb⟩
end
theorem results_time {fn : Func} {p : Tmp} {T : TypeId} (hT : TT T) (h : fn.results = #[.cell p T]) (tmps : Array Value) (w : World) (g : Nat) (t : Tm) (hp : tmps.getD p undef = .pointer (some ⟨g, 0, none⟩)) (hr : Row w g T (tmC t)) :
    (results fn tmps).run Tryd.prog w = .ok (tmV t) w := results_cell_row h tmps w g T (tmC t) (0, 0) _ hp hr hT.struct rfl (hT.sz t)
theorem results_time_tmp {fn : Func} {p u : Tmp} {T : TypeId} (hT : TT T) (h : fn.results = #[.cell p T, .tmp u]) (tmps : Array Value) (w : World) (g : Nat) (t : Tm) (hp : tmps.getD p undef = .pointer (some ⟨g, 0, none⟩)) (hr : Row w g T (tmC t)) :
    (results fn tmps).run Tryd.prog w = .ok (.tuple #[tmV t, tmps.getD u undef]) w := by
  rw [results_cell_tmp h, hp]
  simp [asAddr, run_loadVar_row w g T T (tmC t) (0, 0) _ hr hT.struct rfl (hT.sz t), Result.andThen]
  rfl
end Clk
end Go.Proofs.YtfbgcjpakahocaaDoor

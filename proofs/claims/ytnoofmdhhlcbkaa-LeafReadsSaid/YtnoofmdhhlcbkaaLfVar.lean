/- A variable that holds a node: made, boxed, stored, loaded, built, answered; of the program's type and of the document's. No conditions but those that stand in each lemma. -/
import Derived.Test.YtnoofmdhhlcbkaaLfIn
import Derived.Test.YtnoofmdhhlcbkaaPtrVar
namespace Go.Proofs.Ytnoofmdhhlcbkaa
open Go.RowKit
namespace Lf
open Els

theorem ndC_size (n : Nd) (A1 : Option Addr) (c1 : Nat) (A2 : Option Addr) (c2 : Nat) (A3 : Option Addr) (c3 : Nat) : (ndC n A1 c1 A2 c2 A3 c3).size = 4 := rfl
/-- A node's four cells, as they come. -/
def cells4 (l : Int) (v1 v2 v3 : Value) : Array Value := #[.int .i64 l, v1, v2, v3]
/-- A type that is laid as a node. -/
structure LT (T : TypeId) : Prop where
  size : (Try.prog.info? T).map (·.size) = some 4
  struct : Try.prog.underlying T = some (.struct (Try.prog.fieldsOf T))
  made : ∀ (ρ : Operand → Value) (o : Oper) (w : World), o.op = .alloc T → (execOp ρ o).run Try.prog w = .ok (.value (.pointer (some ⟨w.heap.size, 0, none⟩))) (w.alloc (.cells (ndC Nd.zero none 0 none 0 none 0) T))
  built0 : Try.prog.built T [] = some (ndC Nd.zero none 0 none 0 none 0)
  builtL : ∀ l : Int, Try.prog.built T [(0, .int .i64 l)] = some (ndC ⟨l, [], [], []⟩ none 0 none 0 none 0)
  builtK : ∀ (A : Option Addr) (n c : Nat), Try.prog.built T [(1, .slice A n c)] = some #[.int .i64 0, .slice A n c, .slice none 0 0, .slice none 0 0]
  builtKV : ∀ (A S : Option Addr) (n c m d : Nat), Try.prog.built T [(1, .slice A n c), (2, .slice S m d)] = some #[.int .i64 0, .slice A n c, .slice S m d, .slice none 0 0]
theorem ltP : LT 26 where
  size := by kernel_rfl
  struct := by kernel_rfl
  made := fun ρ o w ho => by
    unfold execOp
    rw [ho]
    kernel_rfl
  built0 := by kernel_rfl
  builtL := fun l => by kernel_rfl
  builtK := fun A n c => by kernel_rfl
  builtKV := fun A S n c m d => by kernel_rfl
theorem ltR : LT 30 where
  size := by kernel_rfl
  struct := by kernel_rfl
  made := fun ρ o w ho => by
    unfold execOp
    rw [ho]
    kernel_rfl
  built0 := by kernel_rfl
  builtL := fun l => by kernel_rfl
  builtK := fun A n c => by kernel_rfl
  builtKV := fun A S n c m d => by kernel_rfl
section
variable {T : TypeId} {ops : Array Oper} {rest : List Oper} {o : Oper} {a : Act} {w : World} {Q : Exit → Act → World → Prop} (hT : LT T)
  {n : Nd} {A1 : Option Addr} {c1 : Nat} {A2 : Option Addr} {c2 : Nat} {A3 : Option Addr} {c3 : Nat}
include hT
theorem LT.sz (n : Nd) (A1 : Option Addr) (c1 : Nat) (A2 : Option Addr) (c2 : Nat) (A3 : Option Addr) (c3 : Nat) : (Try.prog.info? T).map (·.size) = some (ndC n A1 c1 A2 c2 A3 c3).size := hT.size
theorem wpList_allocN (hg : o.guard = none) (ho : o.op = .alloc T)
    (h : ∀ w', Row w' w.heap.size T (ndC Nd.zero none 0 none 0 none 0) → Below w.heap.size w w' → w'.heap.size = w.heap.size + 1 → wpList Try.prog ops Q rest (a.put o.dst (.pointer (some ⟨w.heap.size, 0, none⟩))) w') : wpList Try.prog ops Q (o :: rest) a w := by
  refine wpList_plain hg fun K hK => ?_
  unfold Oper.wp
  rw [hT.made a.eval o w ho, Oper.upon_value]
  exact hK _ _ (h _ (Row.new _ _ _) ((Below.refl _ _).alloc (Nat.le_refl _) _) (by show (w.heap.push _).size = _; rw [Array.size_push]))
omit hT in
theorem wpList_boxN (hg : o.guard = none) (x : Operand) (ho : o.op = .box T x) (hx : a.eval x = .agg (ndC n A1 c1 A2 c2 A3 c3))
    (h : ∀ w', Row w' w.heap.size T (ndC n A1 c1 A2 c2 A3 c3) → Below w.heap.size w w' → w'.heap.size = w.heap.size + 1 → wpList Try.prog ops Q rest (a.put o.dst (.pointer (some ⟨w.heap.size, 0, none⟩))) w') : wpList Try.prog ops Q (o :: rest) a w := by
  refine wpList_plain hg fun K hK => ?_
  unfold Oper.wp
  have hr : (execOp a.eval o).run Try.prog w = .ok (.value (.pointer (some ⟨w.heap.size, 0, none⟩))) (w.alloc (.cells (ndC n A1 c1 A2 c2 A3 c3) T)) := by
    unfold execOp
    rw [ho]
    show ((fun v => _) (a.eval x) : Sem Next).run Try.prog w = _
    rw [hx]
    rfl
  rw [hr, Oper.upon_value]
  exact hK _ _ (h _ (Row.new _ _ _) ((Below.refl _ _).alloc (Nat.le_refl _) _) (by show (w.heap.push _).size = _; rw [Array.size_push]))
theorem wpList_storeN (hg : o.guard = none) (x y : Operand) (ho : o.op = .store T x y) (g : Nat) (hx : a.eval x = .pointer (some ⟨g, 0, none⟩)) (hy : a.eval y = .agg (ndC n A1 c1 A2 c2 A3 c3))
    (old : Array Value) (hold : old.size = 4) (hr : Row w g T old) (h : ∀ w', Row w' g T (ndC n A1 c1 A2 c2 A3 c3) → Only g w w' → wpList Try.prog ops Q rest (a.put o.dst undef) w') : wpList Try.prog ops Q (o :: rest) a w := by
  refine wpList_store_row hg T x y ho g (ndC n A1 c1 A2 c2 A3 c3) hx hy T old hr (hT.sz n A1 c1 A2 c2 A3 c3) (by rw [hold]; rfl) (ndC_one n A1 c1 A2 c2 A3 c3) ?_
  exact h _ (hr.setRow _) ⟨by simp, below_setRow (Below.refl _ _) (Nat.le_refl _) _, fun b hb => setRow_other _ _ _ _ hb⟩
theorem wpList_loadN (x : Operand) (ho : o.op = .load T x) (hw : Region.wanted o (yielded ops a.tmps) = true) (g : Nat) (hx : a.eval x = .pointer (some ⟨g, 0, none⟩)) (hr : Row w g T (ndC n A1 c1 A2 c2 A3 c3))
    (h : wpList Try.prog ops Q rest (a.put o.dst (.agg (ndC n A1 c1 A2 c2 A3 c3))) w) : wpList Try.prog ops Q (o :: rest) a w :=
  wpList_load_cells_w hw T x ho g 0 hx (ndC n A1 c1 A2 c2 A3 c3) _ hr.cells hT.struct rfl (hT.sz n A1 c1 A2 c2 A3 c3) h
theorem wpQuiet_loadN {K : Act → Prop} (x : Operand) (ho : o.op = .load T x) (hw : Region.wanted o (yielded ops a.tmps) = true) (g : Nat) (hx : a.eval x = .pointer (some ⟨g, 0, none⟩)) (hr : Row w g T (ndC n A1 c1 A2 c2 A3 c3))
    (h : wpQuiet Try.prog ops (Cl w) K rest (a.put o.dst (.agg (ndC n A1 c1 A2 c2 A3 c3)))) : wpQuiet Try.prog ops (Cl w) K (o :: rest) a :=
  wpQuiet_load_cells hw T x ho g 0 hx (ndC n A1 c1 A2 c2 A3 c3) _ hr.cells hr.lt hT.struct rfl (hT.sz n A1 c1 A2 c2 A3 c3) h
theorem wpList_buildN0 (ho : o.op = .build T #[]) (hw : Region.wanted o (yielded ops a.tmps) = true)
    (h : wpList Try.prog ops Q rest (a.put o.dst (.agg (ndC Nd.zero none 0 none 0 none 0))) w) : wpList Try.prog ops Q (o :: rest) a w := by
  have e : ((#[] : Array (Nat × Operand)).map fun (i, x) => (i, a.eval x)).toList = [] := by simp
  exact wpList_wanted hw fun K hK => wp_build T #[] ho (by rw [e, hT.built0]; rfl) (by rw [e, hT.built0]; exact hK _ _ h)
theorem wpList_buildNL (x : Operand) (ho : o.op = .build T #[(0, x)]) (hw : Region.wanted o (yielded ops a.tmps) = true) (l : Int) (hx : a.eval x = .int .i64 l)
    (h : wpList Try.prog ops Q rest (a.put o.dst (.agg (ndC ⟨l, [], [], []⟩ none 0 none 0 none 0))) w) : wpList Try.prog ops Q (o :: rest) a w := by
  have e : ((#[(0, x)] : Array (Nat × Operand)).map fun (i, x) => (i, a.eval x)).toList = [(0, .int .i64 l)] := by simp [hx]
  exact wpList_wanted hw fun K hK => wp_build T _ ho (by rw [e, hT.builtL]; rfl) (by rw [e, hT.builtL]; exact hK _ _ h)
theorem wpList_buildNK (x : Operand) (ho : o.op = .build T #[(1, x)]) (hw : Region.wanted o (yielded ops a.tmps) = true) (ls : List (List Int)) (m : Nat) (hx : a.eval x = .slice A1 m c1) (hm : m = ls.length)
    (h : wpList Try.prog ops Q rest (a.put o.dst (.agg (ndC ⟨0, ls, [], []⟩ A1 c1 none 0 none 0))) w) : wpList Try.prog ops Q (o :: rest) a w := by
  subst hm
  have e : ((#[(1, x)] : Array (Nat × Operand)).map fun (i, x) => (i, a.eval x)).toList = [(1, .slice A1 ls.length c1)] := by simp [hx]
  exact wpList_wanted hw fun K hK => wp_build T _ ho (by rw [e, hT.builtK]; rfl) (by rw [e, hT.builtK]; exact hK _ _ h)
theorem wpList_buildNKV (x y : Operand) (ho : o.op = .build T #[(1, x), (2, y)]) (hw : Region.wanted o (yielded ops a.tmps) = true) (ls vs : List (List Int)) (m k : Nat) (hx : a.eval x = .slice A1 m c1) (hm : m = ls.length) (hy : a.eval y = .slice A2 k c2) (hk : k = vs.length)
    (h : wpList Try.prog ops Q rest (a.put o.dst (.agg (ndC ⟨0, ls, vs, []⟩ A1 c1 A2 c2 none 0))) w) : wpList Try.prog ops Q (o :: rest) a w := by
  subst hm
  subst hk
  have e : ((#[(1, x), (2, y)] : Array (Nat × Operand)).map fun (i, x) => (i, a.eval x)).toList = [(1, .slice A1 ls.length c1), (2, .slice A2 vs.length c2)] := by simp [hx, hy]
  exact wpList_wanted hw fun K hK => wp_build T _ ho (by rw [e, hT.builtKV]; rfl) (by rw [e, hT.builtKV]; exact hK _ _ h)
theorem results_node {fn : Func} {p : Tmp} (h : fn.results = #[.cell p T]) (tmps : Array Value) (w : World) (g : Nat) (t : TypeId) (fr : Nat × Nat)
    (hp : tmps.getD p undef = .pointer (some ⟨g, 0, none⟩)) (hg : w.heap[g]? = some (.cells (ndC n A1 c1 A2 c2 A3 c3) t fr)) :
    (results fn tmps).run Try.prog w = .ok (.agg (ndC n A1 c1 A2 c2 A3 c3)) w :=
  results_cell_row h tmps w g t _ fr _ hp hg hT.struct rfl (hT.sz n A1 c1 A2 c2 A3 c3)
theorem results_node_tmp {fn : Func} {p u : Tmp} (h : fn.results = #[.cell p T, .tmp u]) (tmps : Array Value) (w : World) (g : Nat) (t : TypeId) (fr : Nat × Nat)
    (hp : tmps.getD p undef = .pointer (some ⟨g, 0, none⟩)) (hg : w.heap[g]? = some (.cells (ndC n A1 c1 A2 c2 A3 c3) t fr)) :
    (results fn tmps).run Try.prog w = .ok (.tuple #[.agg (ndC n A1 c1 A2 c2 A3 c3), tmps.getD u undef]) w :=
  results_cell_tmp_row h tmps w g t _ fr _ hp hg hT.struct rfl (hT.sz n A1 c1 A2 c2 A3 c3)
end
section
variable {T : TypeId} {w : World} {g : Nat} {n : Nd} {A1 : Option Addr} {c1 : Nat} {A2 : Option Addr} {c2 : Nat} {A3 : Option Addr} {c3 : Nat}
theorem row_level (h : Row w g T (ndC n A1 c1 A2 c2 A3 c3)) : w.cell? ⟨g, 0, none⟩ = some (.int .i64 n.level) := h.cell (ndC_0 ..)
theorem row_keys (h : Row w g T (ndC n A1 c1 A2 c2 A3 c3)) : w.cell? ⟨g, 1, none⟩ = some (.slice A1 n.keys.length c1) := h.cell (ndC_1 ..)
theorem row_vals (h : Row w g T (ndC n A1 c1 A2 c2 A3 c3)) : w.cell? ⟨g, 2, none⟩ = some (.slice A2 n.vals.length c2) := h.cell (ndC_2 ..)
theorem row_kids (h : Row w g T (ndC n A1 c1 A2 c2 A3 c3)) : w.cell? ⟨g, 3, none⟩ = some (.slice A3 n.kids.length c3) := h.cell (ndC_3 ..)
end
end Lf
end Go.Proofs.Ytnoofmdhhlcbkaa

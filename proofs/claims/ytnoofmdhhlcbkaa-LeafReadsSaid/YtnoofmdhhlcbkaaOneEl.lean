/- A slice of one element, made of a value: the array behind 'append(s, x)'. Of whatever types. No conditions but those that stand in each lemma. -/
import Derived.Test.YtnoofmdhhlcbkaaEls
import Derived.Great.BuildSlice
namespace Go.Proofs.Ytnoofmdhhlcbkaa
open Go.RowKit
namespace Els

section
variable {P : Program} {ST T : TypeId} {z : Value} {k by_ : Nat}
theorem run_one_el (hP : ElTypes P ST T z k by_) (hz : z.cells.size = k) (hk : 0 < k) (hs : k ≤ 1000) (w : World) (v : Value) (hv : v.cells.size = k) :
    (Instr.buildSlice ST 1 #[(0, v)]).run P w = .ok (.slice (some ⟨w.heap.size, 0, none⟩) 1 1) (w.alloc (.cells v.cells T)) := by
  obtain ⟨i0, hi, hz0, hz1, _⟩ := info_parts hP.info
  subst hz1
  have hf := Great.fill_whole hk [v] ((Array.range (1 * i0.size)).map (z.cells[· % z.cells.size]!)) (fun u hu => by rw [List.mem_singleton.1 hu]; exact hv) (by simp)
  refine run_buildSlice w ST T 1 #[(0, v)] v.cells i0 z hP.slice hi hz0 (by omega) (by omega) ?_
  simpa using hf
theorem wpList_one_el (hP : ElTypes P ST T z k by_) (hz : z.cells.size = k) (hk : 0 < k) (hs : k ≤ 1000) {ops : Array Oper} {rest : List Oper} {o : Oper} {a : Act} {w : World} {Q : Exit → Act → World → Prop} (hg : o.guard = none) (x : Operand) (ho : o.op = .buildSlice ST 1 #[(0, x)]) (v : Value) (hx : a.eval x = v) (hv : v.cells.size = k)
    (h : ∀ w', Row w' w.heap.size T v.cells → Below w.heap.size w w' → wpList P ops Q rest (a.put o.dst (.slice (some ⟨w.heap.size, 0, none⟩) 1 1)) w') : wpList P ops Q (o :: rest) a w := by
  refine wpList_plain hg fun K hK => ?_
  unfold Oper.wp execOp
  simp only [ho, Sem.run_bind, List.map_toArray, List.map_cons, List.map_nil, hx, run_one_el hP hz hk hs w v hv, Result.andThen_ok, Sem.run_pure]
  exact hK _ _ (h _ (Row.new _ _ _) ((Below.refl _ _).alloc (Nat.le_refl _) _))
theorem wp_one_el (hP : ElTypes P ST T z k by_) (hz : z.cells.size = k) (hk : 0 < k) (hs : k ≤ 1000) {o : Oper} {a : Act} {w : World} {K : Act → World → Prop} {Q : Exit → Act → World → Prop} (x : Operand) (ho : o.op = .buildSlice ST 1 #[(0, x)]) (v : Value) (hx : a.eval x = v) (hv : v.cells.size = k)
    (h : ∀ w', Row w' w.heap.size T v.cells → Below w.heap.size w w' → K (a.put o.dst (.slice (some ⟨w.heap.size, 0, none⟩) 1 1)) w') : o.wp P a w K Q := by
  unfold Oper.wp execOp
  simp only [ho, Sem.run_bind, List.map_toArray, List.map_cons, List.map_nil, hx, run_one_el hP hz hk hs w v hv, Result.andThen_ok, Sem.run_pure]
  exact h _ (Row.new _ _ _) ((Below.refl _ _).alloc (Nat.le_refl _) _)
end
section
variable {P : Program}
theorem run_store_sl {t : TypeId} {w : World} {g j : Nat} {cs : Array Value} (hr : Row w g t cs) (hj : j < cs.size) (ty : TypeId) (hi : (P.info? ty).map (·.size) = some 1) (A : Option Addr) (n c : Nat) : (storeVar ty ⟨g, j, none⟩ (.slice A n c)).run P w = .ok () (w.setCell ⟨g, j, none⟩ (.slice A n c)) := by
  have hc := hr.cell (Array.getElem?_eq_getElem hj)
  have hf := hr.free j
  cases hq : P.info? ty with
  | none => simp [hq] at hi
  | some i =>
    have hs : i.size = 1 := by simpa [hq] using hi
    have h1 : ∀ m, (store ⟨g, j, none⟩ (.slice A n c) m).run P w = .ok () (w.setCell ⟨g, j, none⟩ (.slice A n c)) := fun m => by rw [run_store_slice]; simp [stored, hc, hf]
    simp [storeVar, sizeOf, typeInfo, hq, hs, Value.cells, storeCells, Addr.add, Sem.run_bind, Result.andThen, h1]
theorem wp_store_sl {o : Oper} {a : Act} {w : World} {K : Act → World → Prop} {Q : Exit → Act → World → Prop} (ty : TypeId) (x y : Operand) (ho : o.op = .store ty x y) (g j : Nat) (hx : a.eval x = .pointer (some ⟨g, j, none⟩)) (A : Option Addr) (n c : Nat) (hy : a.eval y = .slice A n c) (hi : (P.info? ty).map (·.size) = some 1)
    {t : TypeId} {cs : Array Value} (hr : Row w g t cs) (hj : j < cs.size) (h : K (a.put o.dst undef) (w.setCell ⟨g, j, none⟩ (.slice A n c))) : o.wp P a w K Q := by
  unfold Oper.wp execOp
  simp only [ho, hx, hy, Instr.storeAt, Instr.sureAddr, Sem.run_bind, Sem.run_pure, Result.andThen_ok, run_store_sl hr hj ty hi]
  exact h
theorem wpList_store_sl {ops : Array Oper} {rest : List Oper} {o : Oper} {a : Act} {w : World} {Q : Exit → Act → World → Prop} (hgd : o.guard = none) (ty : TypeId) (x y : Operand) (ho : o.op = .store ty x y) (g j : Nat) (hx : a.eval x = .pointer (some ⟨g, j, none⟩)) (A : Option Addr) (n c : Nat) (hy : a.eval y = .slice A n c) (hi : (P.info? ty).map (·.size) = some 1)
    {t : TypeId} {cs : Array Value} (hr : Row w g t cs) (hj : j < cs.size) (h : ∀ w', w' = w.setCell ⟨g, j, none⟩ (.slice A n c) → wpList P ops Q rest (a.put o.dst undef) w') : wpList P ops Q (o :: rest) a w :=
  wpList_plain hgd fun _ hK => wp_store_sl ty x y ho g j hx A n c hy hi hr hj (hK _ _ (h _ rfl))
end
end Els
end Go.Proofs.Ytnoofmdhhlcbkaa

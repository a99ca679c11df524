/- A variable that holds a pointer: made, written and read as a whole, behind worlds that are variables. No conditions but those that stand in each lemma. -/
import Derived.Test.YtnoofmdhhlcbkaaPtr
import Derived.Laws.ResultCell
namespace Go.Proofs.Ytnoofmdhhlcbkaa
open Go.RowKit

theorem built_zero : Try.prog.built 43 [] = some (pcells Pt.zero) := by kernel_rfl
/-- A place: a pointer without its sums. -/
def placeP (a b c : Int) : Pt := ⟨a, b, c, 0, List.replicate 32 0⟩
theorem built_place (a b c : Int) : Try.prog.built 43 [(0, .int .i64 a), (1, .int .i64 b), (2, .int .i64 c)] = some (pcells (placeP a b c)) := by kernel_rfl
theorem placeP_sha (a b c : Int) : (placeP a b c).sha.length = 32 := rfl
theorem placeP_ok {a b c : Int} (h1 : -9223372036854775808 ≤ a) (h2 : a ≤ 9223372036854775807) (h3 : -9223372036854775808 ≤ b) (h4 : b ≤ 9223372036854775807) (h5 : -9223372036854775808 ≤ c) (h6 : c ≤ 9223372036854775807) : (placeP a b c).Ok :=
  ⟨h1, h2, h3, h4, h5, h6, Int.le_refl _, by show (0 : Int) < 4294967296; omega, rfl, fun x hx => by rw [(List.mem_replicate.1 hx).2]; omega⟩
theorem placeP_right (a b c d : Int) (s : List Int) : (placeP a b c).right = (Pt.mk a b c d s).right := rfl
/-- But for one block all is as it was. -/
structure Only (g : Nat) (w w' : World) : Prop where
  size : w'.heap.size = w.heap.size
  below : Below g w w'
  block : ∀ b, b ≠ g → w'.heap[b]? = w.heap[b]?
section
variable {g : Nat} {w w' : World}
theorem Only.row {b : Nat} {t : TypeId} {cs : Array Value} (h : Only g w w') (hr : Row w b t cs) (hb : b ≠ g) : Row w' b t cs := (h.block b hb).trans hr
theorem Only.src {k : IntKind} {A : Option Addr} {xs : List Int} (h : Only g w w') (hs : Src k w A xs) (hA : ∀ a, A = some a → a.block ≠ g) : Src k w' A xs := fun hn => by
  obtain ⟨b, o, rfl, hlt, hc⟩ := hs hn
  refine ⟨b, o, rfl, by rw [h.size]; exact hlt, fun i hi => ?_⟩
  rw [← hc i hi]
  unfold World.cell?
  rw [h.block b (hA _ rfl)]
end
theorem results_cell_tmp_row {P : Program} {fn : Func} {p u : Tmp} {ty : TypeId} (h : fn.results = #[.cell p ty, .tmp u]) (tmps : Array Value) (w : World) (g : Nat) (t : TypeId) (cs : Array Value) (fr : Nat × Nat) (d : TypeDesc)
    (hp : tmps.getD p undef = .pointer (some ⟨g, 0, none⟩)) (hg : w.heap[g]? = some (.cells cs t fr))
    (hu : P.underlying ty = some d) (hd : (match d with | .struct _ | .array _ _ => true | _ => false) = true) (hi : (P.info? ty).map (·.size) = some cs.size) :
    (results fn tmps).run P w = .ok (.tuple #[.agg cs, tmps.getD u undef]) w := by
  rw [results_cell_tmp h, hp]
  simp [asAddr, run_loadVar_row w g t ty cs fr d hg hu hd hi, Result.andThen]
theorem wpList_allocP {ops : Array Oper} {rest : List Oper} {o : Oper} {a : Act} {w : World} {Q : Exit → Act → World → Prop} (t : Nat) (_ : o.dst = some t) (hg : o.guard = none) (ho : o.op = .alloc 43)
    (h : ∀ w', Row w' w.heap.size 43 (pcells Pt.zero) → Below w.heap.size w w' → w'.heap.size = w.heap.size + 1 → wpList Try.prog ops Q rest (a.put o.dst (.pointer (some ⟨w.heap.size, 0, none⟩))) w') : wpList Try.prog ops Q (o :: rest) a w := by
  refine wpList_plain hg fun K hK => ?_
  unfold Oper.wp
  have hr : (execOp a.eval o).run Try.prog w = .ok (.value (.pointer (some ⟨w.heap.size, 0, none⟩))) (w.alloc (.cells (pcells Pt.zero) 43)) := by
    unfold execOp
    rw [ho]
    kernel_rfl
  rw [hr, Oper.upon_value]
  exact hK _ _ (h _ (Row.new _ _ _) ((Below.refl _ _).alloc (Nat.le_refl _) _) (by show (w.heap.push _).size = _; rw [Array.size_push]))
theorem wpList_storeP {ops : Array Oper} {rest : List Oper} {o : Oper} {a : Act} {w : World} {Q : Exit → Act → World → Prop} (hg : o.guard = none) (x y : Operand) (ho : o.op = .store 43 x y) (g : Nat) (hx : a.eval x = .pointer (some ⟨g, 0, none⟩)) (q : Pt) (hy : a.eval y = .agg (pcells q)) (hq : q.sha.length = 32)
    (old : Pt) (hold : old.sha.length = 32) (hr : Row w g 43 (pcells old)) (h : ∀ w', Row w' g 43 (pcells q) → Only g w w' → wpList Try.prog ops Q rest (a.put o.dst undef) w') : wpList Try.prog ops Q (o :: rest) a w := by
  refine wpList_store_row hg 43 x y ho g (pcells q) hx hy 43 (pcells old) hr (pt_size hq) (by rw [pcells_size, pcells_size, hq, hold]) (pcells_one q) ?_
  exact h _ (hr.setRow _) ⟨by simp, below_setRow (Below.refl _ _) (Nat.le_refl _) _, fun b hb => setRow_other _ _ _ _ hb⟩
theorem wpList_loadP {ops : Array Oper} {rest : List Oper} {o : Oper} {a : Act} {w : World} {Q : Exit → Act → World → Prop} (x : Operand) (ho : o.op = .load 43 x) (hw : Region.wanted o (yielded ops a.tmps) = true) (g : Nat) (hx : a.eval x = .pointer (some ⟨g, 0, none⟩)) (q : Pt) (hq : q.sha.length = 32) (hr : Row w g 43 (pcells q))
    (h : wpList Try.prog ops Q rest (a.put o.dst (.agg (pcells q))) w) : wpList Try.prog ops Q (o :: rest) a w :=
  wpList_load_cells_w hw 43 x ho g 0 hx (pcells q) _ hr.cells Try.underlying43 rfl (pt_size hq) h
theorem wpList_buildZ {ops : Array Oper} {rest : List Oper} {o : Oper} {a : Act} {w : World} {Q : Exit → Act → World → Prop} (ho : o.op = .build 43 #[]) (hw : Region.wanted o (yielded ops a.tmps) = true)
    (h : wpList Try.prog ops Q rest (a.put o.dst (.agg (pcells Pt.zero))) w) : wpList Try.prog ops Q (o :: rest) a w := by
  have e : ((#[] : Array (Nat × Operand)).map fun (i, x) => (i, a.eval x)).toList = [] := by simp
  exact wpList_wanted hw fun K hK => wp_build 43 #[] ho (by rw [e, built_zero]; rfl) (by rw [e, built_zero]; exact hK _ _ h)
end Go.Proofs.Ytnoofmdhhlcbkaa

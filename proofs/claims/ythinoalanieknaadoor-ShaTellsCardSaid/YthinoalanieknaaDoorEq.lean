/- Two arrays of numbers that hold the same are equal: the operation == in a walk. -/
import Derived.Test.YthinoalanieknaaDoorArr
import Derived.Stop.BytesEq
namespace Go.Proofs.YthinoalanieknaaDoor
open Go.RowKit

/-- Each of the first n cells is a number of kind k. -/
def Ints (k : IntKind) (n : Nat) (cs : Array Value) : Prop := ∀ i, i < n → ∃ x, cs[i]? = some (.int k x)
theorem ints_b (l : List Int) (n : Nat) (h : l.length = n) : Ints .u8 n (bcells l) := fun i hi => ⟨_, bcells_at l i (by omega)⟩
theorem ints_w (l : List Wd) (n : Nat) (h : l.length = n) : Ints .u32 n (wcells l) := fun i hi => ⟨_, wcells_at l i (by omega)⟩
section
variable {P : Program} (w : World)
theorem run_equal_ints (d : Nat) (t e : TypeId) (n : Nat) (k : IntKind) (ht : P.underlying t = some (.array n e)) (he : P.underlying e = some (.int k)) (hsz : ∀ w, (sizeOf e).run P w = .ok 1 w) (cs : Array Value) (hc : Ints k n cs) :
    (Op.equalIn (d + 2) t (.agg cs) (.agg cs)).run P w = .ok true w := by
  rw [Op.equalIn]
  simp only [Sem.run_bind, run_underlying ht, Result.andThen_ok, hsz, Std.Legacy.Range.forIn_eq_forIn_range', Std.Legacy.Range.size, Nat.sub_zero, Nat.add_sub_cancel, Nat.div_one]
  have hl : ∀ i ∈ List.range' 0 n 1, i < n := fun i hi => by simpa using (List.mem_range'_1.1 hi).2
  generalize List.range' 0 n 1 = l at hl ⊢
  induction l with
  | nil => simp
  | cons i l ih =>
    have hi : i < n := hl i (by simp)
    obtain ⟨x, hx⟩ := hc i hi
    have px : (part e cs (i * 1)).run P w = .ok (.int k x) w := by
      simp [part, isAgg, run_underlying he, hx]
    have pe : (Op.equalIn (d + 1) e (.int k x) (.int k x)).run P w = .ok true w := by
      rw [run_equalIn_int w d e k k _ _ he]
      simp
    simp only [List.forIn_cons, Sem.run_bind, px, pe, Result.andThen_ok]
    simp only [Bool.not_true, Bool.false_eq_true, if_false, Sem.run_pure, Result.andThen_ok]
    exact ih fun j hj => hl j (by simp [hj])
theorem run_eql_ints (t e : TypeId) (n : Nat) (k : IntKind) (ht : P.underlying t = some (.array n e)) (he : P.underlying e = some (.int k)) (hsz : ∀ w, (sizeOf e).run P w = .ok 1 w) (cs : Array Value) (hc : Ints k n cs) :
    (binOp .eql t (.agg cs) (.agg cs)).run P w = .ok (.bool true) w := by
  rw [run_eql_struct, run_equal_ints w 9998 t e n k ht he hsz cs hc]
  rfl
end
theorem size_one {P : Program} {e : TypeId} (hz : (P.info? e).map (·.size) = some 1) (w : World) : (sizeOf e).run P w = .ok 1 w := by
  cases hq : P.info? e with
  | none => simp [hq] at hz
  | some i =>
    have hs : i.size = 1 := by simpa [hq] using hz
    simp [sizeOf, typeInfo, hq, hs]
theorem eql_sums (w : World) (l : List Int) (h : l.length = 32) : (binOp .eql 23 (.agg (bcells l)) (.agg (bcells l))).run Tryd.prog w = .ok (.bool true) w :=
  run_eql_ints w 23 5 32 .u8 Tryd.underlying23 Tryd.underlying5 (size_one Tryd.one5) _ (ints_b l 32 h)
/-- An operation that is carried out, guarded or not. -/
theorem wpList_wanted {P : Program} {ops : Array Oper} {rest : List Oper} {o : Oper} {a : Act} {w : World} {Q : Exit → Act → World → Prop} (hw : Region.wanted o (yielded ops a.tmps) = true)
    (h : ∀ K : Act → World → Prop, (∀ a w, wpList P ops Q rest a w → K a w) → o.wp P a w K Q) : wpList P ops Q (o :: rest) a w :=
  wpList_step fun K hK => by simp only [hw, if_true]; exact h K hK
theorem wpList_load_cells_w {P : Program} {ops : Array Oper} {rest : List Oper} {op : Oper} {a : Act} {w : World} {Q : Exit → Act → World → Prop} (hw : Region.wanted op (yielded ops a.tmps) = true) (ty : TypeId) (x : Operand) (ho : op.op = .load ty x)
    (b o : Nat) (hx : a.eval x = .pointer (some ⟨b, o, none⟩)) (cs : Array Value) (d : TypeDesc) (hc : Cells w b o cs)
    (hu : P.underlying ty = some d) (hd : (match d with | .struct _ | .array _ _ => true | _ => false) = true) (hi : (P.info? ty).map (·.size) = some cs.size)
    (h : wpList P ops Q rest (a.put op.dst (.agg cs)) w) : wpList P ops Q (op :: rest) a w := by
  refine wpList_wanted hw fun K hK => ?_
  unfold Oper.wp execOp
  simp only [ho, hx, Instr.loadAt, Instr.sureAddr, Sem.run_bind, Sem.run_pure, Result.andThen_ok, run_loadVar_cells w b o ty cs d hc hu hd hi]
  exact hK _ _ h
end Go.Proofs.YthinoalanieknaaDoor

/- Arrays by value: a load of several cells in a walk and in a region that draws its order; a row that is turned from its beginning on; the program's two tables. No conditions but those that stand in each lemma. -/
import Derived.Test.YtnllladoipcfkaaDoorShaRowsOf
import Derived.Test.YtnllladoipcfkaaDoorDraw
namespace Go.Proofs.YtnllladoipcfkaaDoor.Sha3
open Go.RowKit

section
variable {P : Program}
/-- The cells from offset o of block b on. -/
def Cells (w : World) (b o : Nat) (cs : Array Value) : Prop := ∀ j v, cs[j]? = some v → w.cell? ⟨b, o + j, none⟩ = some v
theorem Row.cells {w : World} {g : Nat} {t : TypeId} {cs : Array Value} (h : Row w g t cs) : Cells w g 0 cs := fun j v hv => by rw [Nat.zero_add]; exact h.cell hv
theorem Cells.keep {w w' : World} {b o B : Nat} {cs : Array Value} (h : Cells w b o cs) (hb : Below B w w') (hlt : b < B) : Cells w' b o cs := fun j v hv => (hb.cell (p := ⟨b, o + j, none⟩) hlt).trans (h j v hv)
theorem run_loadVar_cells (w : World) (b o : Nat) (ty : TypeId) (cs : Array Value) (d : TypeDesc) (hc : Cells w b o cs)
    (hu : P.underlying ty = some d) (hd : (match d with | .struct _ | .array _ _ => true | _ => false) = true) (hi : (P.info? ty).map (·.size) = some cs.size) :
    (loadVar ty ⟨b, o, none⟩).run P w = .ok (.agg cs) w := by
  have hl : (loadCells ⟨b, o, none⟩ cs.toList.length).run P w = .ok cs.toList.toArray w :=
    run_loadCells_list (P := P) w ⟨b, o, none⟩ cs.toList (fun j v hv => by
      have hadd : (⟨b, o, none⟩ : Addr).add j = ⟨b, o + j, none⟩ := by unfold Addr.add; split <;> simp_all
      rw [hadd]
      exact hc j v (by simpa using hv))
  cases hq : P.info? ty with
  | none => simp [hq] at hi
  | some i =>
    have hs : i.size = cs.size := by simpa [hq] using hi
    have hagg : (isAgg ty).run P w = .ok true w := by
      unfold isAgg
      rw [Sem.run_bind, run_underlying hu w]
      cases d <;> simp_all
    simp only [Array.length_toList, Array.toArray_toList] at hl
    simp [loadVar, Sem.run_bind, hagg, sizeOf, typeInfo, hq, hs, hl]
theorem wpList_load_cells {ops : Array Oper} {rest : List Oper} {op : Oper} {a : Act} {w : World} {Q : Exit → Act → World → Prop} (hgd : op.guard = none) (ty : TypeId) (x : Operand) (ho : op.op = .load ty x)
    (b o : Nat) (hx : a.eval x = .pointer (some ⟨b, o, none⟩)) (cs : Array Value) (d : TypeDesc) (hc : Cells w b o cs)
    (hu : P.underlying ty = some d) (hd : (match d with | .struct _ | .array _ _ => true | _ => false) = true) (hi : (P.info? ty).map (·.size) = some cs.size)
    (h : wpList P ops Q rest (a.put op.dst (.agg cs)) w) : wpList P ops Q (op :: rest) a w := by
  refine wpList_plain hgd fun K hK => ?_
  unfold Oper.wp execOp
  simp only [ho, hx, Instr.loadAt, Instr.sureAddr, Sem.run_bind, Sem.run_pure, Result.andThen_ok, run_loadVar_cells w b o ty cs d hc hu hd hi]
  exact hK _ _ h
theorem wpQuiet_load_cells {ops : Array Oper} {rest : List Oper} {op : Oper} {a : Act} {w : World} {K : Act → Prop} (hw : Region.wanted op (yielded ops a.tmps) = true) (ty : TypeId) (x : Operand) (ho : op.op = .load ty x)
    (b o : Nat) (hx : a.eval x = .pointer (some ⟨b, o, none⟩)) (cs : Array Value) (d : TypeDesc) (hc : Cells w b o cs) (hlt : b < w.heap.size)
    (hu : P.underlying ty = some d) (hd : (match d with | .struct _ | .array _ _ => true | _ => false) = true) (hi : (P.info? ty).map (·.size) = some cs.size)
    (h : wpQuiet P ops (Cl w) K rest (a.put op.dst (.agg cs))) : wpQuiet P ops (Cl w) K (op :: rest) a := by
  unfold wpQuiet
  rw [if_pos hw]
  refine ⟨.agg cs, fun w' ⟨g, hg⟩ => ?_, h⟩
  subst hg
  unfold Oper.quietAt execOp
  simp only [ho, hx, Instr.loadAt, Instr.sureAddr, Sem.run_bind, Sem.run_pure, Result.andThen_ok, run_loadVar_cells g.1 b o ty cs d (hc.keep g.2 hlt) hu hd hi]
  exact ⟨rfl, rfl⟩
end

/-- An element of an array that is a value. -/
theorem run_index_array {P : Program} (w : World) (t e : TypeId) (n : Nat) (d : TypeDesc) (cs : Array Value) (k : Nat) (v : Value) (hu : P.underlying t = some (.array n e)) (he : P.underlying e = some d)
    (hd : (match d with | .struct _ | .array _ _ => true | _ => false) = false) (hz : (P.info? e).map (·.size) = some 1) (hk : k < n) (hv : cs[k]? = some v) :
    (Instr.index t (.agg cs) (.int .i64 (k : Int))).run P w = .ok v w := by
  cases hq : P.info? e with
  | none => simp [hq] at hz
  | some i =>
    have hs : i.size = 1 := by simpa [hq] using hz
    have hagg : (isAgg e).run P w = .ok false w := by
      unfold isAgg
      rw [Sem.run_bind, run_underlying he w]
      cases d <;> simp_all
    have hk' : (0 : Int) ≤ (k : Int) ∧ (k : Int) < (n : Int) := by omega
    have ha : (asIntOf (.int .i64 (k : Int))).run P w = .ok (.i64, (k : Int)) w := by simp [asIntOf]
    unfold Instr.index
    simp only [Sem.run_bind, ha, Result.andThen_ok, run_underlying hu w]
    rw [if_pos hk']
    simp [sizeOf, typeInfo, hq, hs, part, hagg, hv]
section
variable {α : Type}
/-- A row that is turned from its beginning on: k of l's, the rest as zs has it. -/
def over (l zs : List α) (k : Nat) : List α := l.take k ++ zs.drop k
theorem over_length (l zs : List α) (k : Nat) (h : zs.length = l.length) : (over l zs k).length = l.length := by
  unfold over
  rw [List.length_append, List.length_take, List.length_drop]
  omega
theorem over_none (l zs : List α) : over l zs 0 = zs := by unfold over; rw [List.take_zero, List.nil_append, List.drop_zero]
theorem over_all (l zs : List α) (k : Nat) (h : zs.length = l.length) (hk : l.length ≤ k) : over l zs k = l := by
  unfold over
  rw [List.take_of_length_le hk, List.drop_eq_nil_of_le (by omega), List.append_nil]
theorem over_getD (l zs : List α) (y : α) (k : Nat) (hk : k < l.length) : (over l zs k).getD k y = zs.getD k y := by
  unfold over
  rw [List.getD_eq_getElem?_getD, List.getElem?_append_right (by rw [List.length_take]; omega), List.length_take, List.getElem?_drop, List.getD_eq_getElem?_getD, show k + (k - min k l.length) = k by omega]
theorem over_set (l zs : List α) (y : α) (k : Nat) (h : zs.length = l.length) (hk : k < l.length) : (over l zs k).set k (l.getD k y) = over l zs (k + 1) := by
  unfold over
  apply List.ext_getElem?
  intro i
  rw [List.getElem?_set]
  have hl : (l.take k ++ zs.drop k).length = l.length := over_length l zs k h
  by_cases hi : k = i
  · subst hi
    rw [if_pos rfl, if_pos (by rw [hl]; exact hk), List.getElem?_append_left (by rw [List.length_take]; omega), List.getElem?_take, if_pos (by omega), List.getD_eq_getElem?_getD, List.getElem?_eq_getElem hk]
    rfl
  · rw [if_neg hi]
    by_cases hlt : i < k
    · rw [List.getElem?_append_left (by rw [List.length_take]; omega), List.getElem?_append_left (by rw [List.length_take]; omega), List.getElem?_take, List.getElem?_take, if_pos hlt, if_pos (by omega)]
    · rw [List.getElem?_append_right (by rw [List.length_take]; omega), List.getElem?_append_right (by rw [List.length_take]; omega), List.length_take, List.length_take, List.getElem?_drop, List.getElem?_drop]
      congr 1
      omega
end
/-- A number of 64 bits as the program's number. -/
def uq (q : Qd) : Int := (q.toNat : Int)
theorem Tryd.one27 : (Tryd.prog.info? 28).map (·.size) = some 1 := by kernel_rfl
theorem Tryd.one5 : (Tryd.prog.info? 5).map (·.size) = some 1 := by kernel_rfl
theorem uq_lo (q : Qd) : 0 ≤ uq q := Int.natCast_nonneg _
theorem uq_add64 (q : Qd) : (uq q + 64) % 18446744073709551616 = uq (q + 64#64) := by
  unfold uq
  rw [BitVec.toNat_add]
  have : (64#64 : Qd).toNat = 64 := rfl
  rw [this]
  omega
theorem scells_cells {w : World} {g : Nat} {t : TypeId} {hs : List Wd} {n : Int} (h : Row w g t (scells hs n)) : Cells w g 0 (wcells hs) := fun j v hv => by
  rw [Nat.zero_add]
  have hj : j < hs.length := by
    rcases Nat.lt_or_ge j hs.length with h' | h'
    · exact h'
    · rw [Array.getElem?_eq_none (by rw [wcells_size]; exact h')] at hv; cases hv
  rw [wcells_at hs j hj] at hv
  exact h.cell ((scells_at hs n j hj).trans hv)

/-- The program's two tables lie where they were laid: the first state's words, and the 64 constants. -/
def Tab (w : World) (h0 ks : List Wd) : Prop := 2 < w.heap.size ∧ Cells w 1 0 (wcells h0) ∧ Cells w 2 0 (wcells ks)
theorem Tab.keepB {B : Nat} {w w' : World} {h0 ks : List Wd} (h : Tab w h0 ks) (hB : 2 < B) (hb : Below B w w') : Tab w' h0 ks :=
  ⟨by have := hb.size; have := h.1; omega, h.2.1.keep hb (by omega), h.2.2.keep hb (by omega)⟩
theorem Tab.keep {w w' : World} {h0 ks : List Wd} (h : Tab w h0 ks) (hb : Below w.heap.size w w') : Tab w' h0 ks := h.keepB h.1 hb
theorem Tab.key {w : World} {h0 ks : List Wd} (h : Tab w h0 ks) (hk : ks.length = 64) (k : Nat) (hlt : k < 64) : w.cell? ⟨2, k, none⟩ = some (.int .u32 (uv (ks.getD k 0#32))) := by
  have := h.2.2 k _ (wcells_at ks k (by omega))
  rw [Nat.zero_add] at this
  exact this
end Go.Proofs.YtnllladoipcfkaaDoor.Sha3

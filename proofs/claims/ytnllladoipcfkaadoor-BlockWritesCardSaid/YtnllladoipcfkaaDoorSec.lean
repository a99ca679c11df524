/- Sectors in a block, one behind the other; a sector as a map's element; a load and a store of several cells. No conditions but those that stand in each lemma. -/
import Derived.Test.YtnllladoipcfkaaDoorDiskRow
import Derived.Maps.RangeWalk
import Derived.Maps.OwnSet
namespace Go.Proofs.YtnllladoipcfkaaDoor
open Go.RowKit Go.Maps

section
variable {P : Program}
/-- A store of several cells into a row, from cell o on. -/
theorem run_storeVar_at (w : World) (g o : Nat) (t ty : TypeId) (old : List Value) (cells : Array Value) (hg : w.heap[g]? = some (.cells old.toArray t (0, 0))) (hi : (P.info? ty).map (·.size) = some cells.size)
    (ho : o + cells.size ≤ old.length) (h1 : cells.all (·.oneCell') = true) :
    (storeVar ty ⟨g, o, none⟩ (.agg cells)).run P w = .ok () (w.setRow g (splice old o cells.toList).toArray) := by
  have := run_storeCells_at (P := P) g o t cells.toList 0 old.toArray w hg (by simp; omega) (fun v hv => (Array.all_eq_true_iff_forall_mem.1 h1) v (by simpa using hv))
  cases hq : P.info? ty with
  | none => simp [hq] at hi
  | some i =>
    have hs : cells.size = i.size := by simp [hq] at hi; omega
    simp [storeVar, sizeOf, typeInfo, hq, Value.cells, hs] at this ⊢
    rw [this]
    simp [splice, hs]
end

/-- Sectors in block B, and behind them whatever lies there. -/
def Secs (w : World) (B : Nat) (ls : List (List Int)) : Prop :=
  (∀ s ∈ ls, s.length = 512) ∧ ∃ zs : List Value, Row w B 62 (cellsOf .u8 ls.flatten ++ zs).toArray
theorem flatten_length {ls : List (List Int)} (h : ∀ s ∈ ls, s.length = 512) : ls.flatten.length = ls.length * 512 := by
  induction ls with
  | nil => rfl
  | cons x r ih =>
    rw [List.flatten_cons, List.length_append, ih (fun s hs => h s (List.mem_cons_of_mem _ hs)), h x (List.mem_cons_self ..), List.length_cons]
    omega
theorem flatten_at {ls : List (List Int)} (h : ∀ s ∈ ls, s.length = 512) : ∀ (i j : Nat), i < ls.length → j < 512 → ls.flatten[i * 512 + j]? = (ls.getD i [])[j]? := by
  induction ls with
  | nil => intro i j hi; cases hi
  | cons x r ih =>
    intro i j hi hj
    have hx := h x (List.mem_cons_self ..)
    rw [List.flatten_cons]
    cases i with
    | zero => rw [List.getElem?_append_left (by omega)]; simp
    | succ i =>
      rw [List.getElem?_append_right (by omega), hx, show (i + 1) * 512 + j - 512 = i * 512 + j by omega, ih (fun s hs => h s (List.mem_cons_of_mem _ hs)) i j (by simpa using hi) hj]
      simp
theorem splice_behind {α : Type} (X L cs : List α) (o : Nat) : splice (X ++ L) (X.length + o) cs = X ++ splice L o cs := by
  unfold splice
  rw [List.take_append, List.drop_append, List.append_assoc]
  have e1 : X.take (X.length + o) = X := List.take_of_length_le (by omega)
  have e2 : X.drop (X.length + o + cs.length) = [] := List.drop_eq_nil_of_le (by omega)
  rw [e1, e2, show X.length + o - X.length = o by omega, show X.length + o + cs.length - X.length = o + cs.length by omega, List.nil_append]
theorem splice_sec (s : List Int) (hs : s.length = 512) (zs : List Value) : ∀ (ls : List (List Int)) (i : Nat), (∀ t ∈ ls, t.length = 512) → i < ls.length →
    splice (cellsOf .u8 ls.flatten ++ zs) (i * 512) (cellsOf .u8 s) = cellsOf .u8 (ls.set i s).flatten ++ zs := by
  intro ls
  induction ls with
  | nil => intro i _ hi; cases hi
  | cons x r ih =>
    intro i h hi
    have hx := h x (List.mem_cons_self ..)
    have hc : (cellsOf .u8 x).length = 512 := by rw [cellsOf_length, hx]
    cases i with
    | zero =>
      have hd : (cellsOf .u8 x ++ (cellsOf .u8 r.flatten ++ zs)).drop 512 = cellsOf .u8 r.flatten ++ zs := by rw [List.drop_append, List.drop_eq_nil_of_le (by omega), hc]; simp
      rw [List.set_cons_zero, List.flatten_cons, List.flatten_cons, cellsOf_append, cellsOf_append, List.append_assoc, List.append_assoc]
      unfold splice
      rw [cellsOf_length, hs, Nat.zero_mul, Nat.zero_add, hd]
      simp
    | succ i =>
      have := ih i (fun t ht => h t (List.mem_cons_of_mem _ ht)) (by simpa using hi)
      rw [List.set_cons_succ, List.flatten_cons, List.flatten_cons, cellsOf_append, cellsOf_append, List.append_assoc, List.append_assoc, show (i + 1) * 512 = (cellsOf .u8 x).length + i * 512 by omega, splice_behind, this]
section
variable {w w' : World} {B : Nat} {ls : List (List Int)}
theorem Secs.lt (h : Secs w B ls) : B < w.heap.size := by obtain ⟨_, zs, hr⟩ := h; exact hr.lt
theorem Secs.keepB {C : Nat} (h : Secs w B ls) (hb : Below C w w') (hg : B < C) : Secs w' B ls := by obtain ⟨h1, zs, hr⟩ := h; exact ⟨h1, zs, hr.keepB hb hg⟩
theorem Secs.keep (h : Secs w B ls) (hb : Below w.heap.size w w') : Secs w' B ls := h.keepB hb h.lt
theorem Secs.block (h : Secs w B ls) (e : w'.heap[B]? = w.heap[B]?) : Secs w' B ls := by obtain ⟨h1, zs, hr⟩ := h; exact ⟨h1, zs, e.trans hr⟩
theorem Secs.at_ (h : Secs w B ls) {i : Nat} (hi : i < ls.length) : (ls.getD i []).length = 512 := by
  rw [List.getD_eq_getElem?_getD, List.getElem?_eq_getElem hi]; exact h.1 _ (List.getElem_mem hi)
theorem Secs.cells (h : Secs w B ls) {i : Nat} (hi : i < ls.length) : Cells w B (i * 512) (bcells (ls.getD i [])) := by
  have hl := h.at_ hi
  obtain ⟨h1, zs, hr⟩ := h
  intro j v hv
  have hj : j < 512 := by
    rcases Nat.lt_or_ge j 512 with h' | h'
    · exact h'
    · rw [Array.getElem?_eq_none (by rw [bcells_size]; omega)] at hv; cases hv
  have hf := flatten_length h1
  refine hr.cell ?_
  have e := flatten_at h1 i j hi hj
  rw [List.getElem?_toArray, List.getElem?_append_left (by rw [cellsOf_length, hf]; omega)]
  unfold cellsOf
  rw [List.getElem?_map, e, ← hv]
  simp [bcells]
theorem Secs.stored (h : Secs w B ls) {i : Nat} (hi : i < ls.length) {s : List Int} (hs : s.length = 512) : ∃ cs, (∀ (P : Program), (P.info? 62).map (·.size) = some 512 → (storeVar 62 ⟨B, i * 512, none⟩ (.agg (bcells s))).run P w = .ok () (w.setRow B cs)) ∧ Secs (w.setRow B cs) B (ls.set i s) := by
  obtain ⟨h1, zs, hr⟩ := h
  have hf := flatten_length h1
  refine ⟨(splice (cellsOf .u8 ls.flatten ++ zs) (i * 512) (cellsOf .u8 s)).toArray, fun P hP => ?_, ?_, zs, ?_⟩
  · have e : (bcells s).toList = cellsOf .u8 s := by simp [bcells, cellsOf]
    rw [← e]
    exact run_storeVar_at w B (i * 512) 62 62 _ (bcells s) hr (by rw [hP, bcells_size, hs]) (by rw [bcells_size, hs, List.length_append, cellsOf_length, hf]; omega) (bcells_one s)
  · intro t ht
    rcases List.mem_or_eq_of_mem_set ht with h' | rfl
    · exact h1 t h'
    · exact hs
  · rw [splice_sec s hs zs ls i h1 hi]
    exact hr.setRow _
end

/-- A sector as a value, and as a map's element reads. -/
def secV (s : List Int) : Value := .agg (bcells s)
def secD (s : List Int) : DataW Unit := .agg (s.map fun x => .lit (.int .u8 x))
def unL (p : DataW Unit) : Int := match p with | .lit (.int _ x) => x | _ => 0
def unD (d : DataW Unit) : List Int := match d with | .agg ps => ps.map unL | _ => []
theorem unD_secD (s : List Int) : unD (secD s) = s := by simp [unD, secD, List.map_map, Function.comp_def, unL]
theorem secV_inj {s t : List Int} (h : secV s = secV t) : s = t := by
  unfold secV at h
  injection h with h
  exact bcells_inj h
open Classical in
noncomputable def secR (v : Value) : Option (DataW Unit × List MemPlace) := if h : ∃ s : List Int, s.length = 512 ∧ v = secV s then some (secD h.choose, []) else none
theorem secR_mk (s : List Int) (hs : s.length = 512) : secR (secV s) = some (secD s, []) := by
  have h : ∃ t : List Int, t.length = 512 ∧ secV s = secV t := ⟨s, hs, rfl⟩
  unfold secR
  rw [dif_pos h]
  rw [← secV_inj h.choose_spec.2]
theorem secR_inv {v : Value} {y : DataW Unit × List MemPlace} (h : secR v = some y) : ∃ s, s.length = 512 ∧ v = secV s ∧ y = (secD s, []) := by
  unfold secR at h
  split at h
  · rename_i hx
    injection h with h
    exact ⟨hx.choose, hx.choose_spec.1, hx.choose_spec.2, h.symm⟩
  · cases h
theorem Tryd.size47 : (Tryd.prog.info? 62).map (·.size) = some 512 := by kernel_rfl
theorem Tryd.size5 : (Tryd.prog.info? 5).map (·.size) = some 1 := by kernel_rfl
theorem Tryd.size27 : (Tryd.prog.info? 45).map (·.size) = some 4 := by kernel_rfl
theorem Tryd.zero47 (w : World) : (zeroValue 62).run Tryd.prog w = .ok (secV (List.replicate 512 0)) w := by kernel_rfl
theorem law3 : Keyed Tryd.prog 3 := int_keyed Tryd.underlying3
end Go.Proofs.YtnllladoipcfkaaDoor

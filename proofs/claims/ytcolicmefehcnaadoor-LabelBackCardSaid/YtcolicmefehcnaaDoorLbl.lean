/- A label as three fields, and as 38 cells; equality of labels; a variable that holds one: made, written and read as a whole, behind worlds that are variables. No conditions but those that stand in each lemma. -/
import Derived.Test.YtcolicmefehcnaaDoorPtrVar
import Derived.Test.YtcolicmefehcnaaDoorPtrOpen
namespace Go.Proofs.YtcolicmefehcnaaDoor
open Go.RowKit

/-- A label. -/
structure Lb where
  epoch : Int
  root : Pt
  next : Int
/-- Its fields are what their types hold. -/
structure Lb.Ok (l : Lb) : Prop where
  epoch1 : -9223372036854775808 ≤ l.epoch
  epoch2 : l.epoch ≤ 9223372036854775807
  root : l.root.Ok
  next1 : -9223372036854775808 ≤ l.next
  next2 : l.next ≤ 9223372036854775807
def Lb.zero : Lb := ⟨0, Pt.zero, 0⟩
theorem Lb.zero_ok : Lb.zero.Ok := ⟨by decide, by decide, Pt.zero_ok, by decide, by decide⟩
/-- All fields are equal. -/
def Lb.same (p q : Lb) : Bool := p.epoch == q.epoch && (Pt.same p.root q.root && p.next == q.next)
theorem Lb.same_iff (p q : Lb) : Lb.same p q = true ↔ p = q := by
  cases p; cases q
  simp [Lb.same, Pt.same_iff]
theorem Lb.same_self (p : Lb) : Lb.same p p = true := (Lb.same_iff p p).2 rfl
theorem Lb.same_not {p q : Lb} (h : p ≠ q) : Lb.same p q = false := by
  cases hs : Lb.same p q with
  | false => rfl
  | true => exact absurd ((Lb.same_iff p q).1 hs) h

/-- As cells. -/
def llist (l : Lb) : List Value := Value.int .i64 l.epoch :: Value.int .i64 l.root.place :: Value.int .i64 l.root.birth :: Value.int .i64 l.root.len :: Value.int .u32 l.root.crc :: (l.root.sha.map (Value.int .u8) ++ [Value.int .i64 l.next])
def lcells (l : Lb) : Array Value := (llist l).toArray
theorem lcells_size (l : Lb) : (lcells l).size = l.root.sha.length + 6 := by simp [lcells, llist]
theorem lcells_0 (l : Lb) : (lcells l)[0]? = some (.int .i64 l.epoch) := rfl
theorem lcells_birth (l : Lb) : (lcells l)[2]? = some (.int .i64 l.root.birth) := rfl
theorem llist_eq (l : Lb) : llist l = Value.int .i64 l.epoch :: ((pcells l.root).toList ++ [Value.int .i64 l.next]) := by simp [llist, pcells]
theorem lcells_root (l : Lb) (j : Nat) (v : Value) (h : (pcells l.root)[j]? = some v) : (lcells l)[1 + j]? = some v := by
  have hj := (Array.getElem?_eq_some_iff.1 h).1
  unfold lcells
  rw [List.getElem?_toArray, llist_eq, Nat.add_comm, List.getElem?_cons_succ, List.getElem?_append_left (by rw [Array.length_toList]; exact hj), Array.getElem?_toList]
  exact h
theorem lcells_37 (l : Lb) (h : l.root.sha.length = 32) : (lcells l)[37]? = some (.int .i64 l.next) := by
  unfold lcells
  rw [List.getElem?_toArray, llist_eq, List.getElem?_cons_succ, List.getElem?_append_right (by rw [Array.length_toList, pcells_size, h]; exact Nat.le_refl _), Array.length_toList, pcells_size, h]
  rfl
theorem lcells_one (l : Lb) : (lcells l).all (·.oneCell') = true := by
  simp [lcells, llist, List.all_map, Value.oneCell']

/-- A type that is laid as a label. -/
structure LT (T : TypeId) : Prop where
  size : (Tryd.prog.info? T).map (·.size) = some 38
  fields : (Tryd.prog.fieldsOf T).toList.map (fun f => (f.name == "_", f.type, f.offset)) = [(false, 3, 0), (false, 25, 1), (false, 3, 37)]
  struct : Tryd.prog.underlying T = some (.struct (Tryd.prog.fieldsOf T))
  held : Tryd.prog.stoodInHeld T = false
  cells : Tryd.prog.cellsOf T = 38
  made : ∀ (ρ : Operand → Value) (o : Oper) (w : World), o.op = .alloc T → (execOp ρ o).run Tryd.prog w = .ok (.value (.pointer (some ⟨w.heap.size, 0, none⟩))) (w.alloc (.cells (lcells Lb.zero) T))
  built0 : Tryd.prog.built T [] = some (lcells Lb.zero)
  built2 : ∀ a b : Int, Tryd.prog.built T [(0, .int .i64 a), (2, .int .i64 b)] = some (lcells ⟨a, Pt.zero, b⟩)
  built3 : ∀ (a : Int) (p : Pt) (b : Int), p.sha.length = 32 → Tryd.prog.built T [(0, .int .i64 a), (1, .agg (pcells p)), (2, .int .i64 b)] = some (lcells ⟨a, p, b⟩)
theorem built3L (e a b c d n : Int) (x0 x1 x2 x3 x4 x5 x6 x7 x8 x9 x10 x11 x12 x13 x14 x15 x16 x17 x18 x19 x20 x21 x22 x23 x24 x25 x26 x27 x28 x29 x30 x31 : Int) : Tryd.prog.built 27 [(0, .int .i64 e), (1, .agg (pcells ⟨a, b, c, d, [x0, x1, x2, x3, x4, x5, x6, x7, x8, x9, x10, x11, x12, x13, x14, x15, x16, x17, x18, x19, x20, x21, x22, x23, x24, x25, x26, x27, x28, x29, x30, x31]⟩)), (2, .int .i64 n)] = some (lcells ⟨e, ⟨a, b, c, d, [x0, x1, x2, x3, x4, x5, x6, x7, x8, x9, x10, x11, x12, x13, x14, x15, x16, x17, x18, x19, x20, x21, x22, x23, x24, x25, x26, x27, x28, x29, x30, x31]⟩, n⟩) := by kernel_rfl
theorem ltL : LT 27 where
  size := by kernel_rfl
  fields := by kernel_rfl
  struct := by kernel_rfl
  held := by kernel_rfl
  cells := by kernel_rfl
  made := fun ρ o w ho => by
    unfold execOp
    rw [ho]
    kernel_rfl
  built0 := by kernel_rfl
  built2 := fun a b => by kernel_rfl
  built3 := fun e p n h => by
    obtain ⟨a, b, c, d, xs⟩ := p
    match xs, h with
    | [x0, x1, x2, x3, x4, x5, x6, x7, x8, x9, x10, x11, x12, x13, x14, x15, x16, x17, x18, x19, x20, x21, x22, x23, x24, x25, x26, x27, x28, x29, x30, x31], _ => exact built3L e a b c d n x0 x1 x2 x3 x4 x5 x6 x7 x8 x9 x10 x11 x12 x13 x14 x15 x16 x17 x18 x19 x20 x21 x22 x23 x24 x25 x26 x27 x28 x29 x30 x31
theorem built3R (e a b c d n : Int) (x0 x1 x2 x3 x4 x5 x6 x7 x8 x9 x10 x11 x12 x13 x14 x15 x16 x17 x18 x19 x20 x21 x22 x23 x24 x25 x26 x27 x28 x29 x30 x31 : Int) : Tryd.prog.built 34 [(0, .int .i64 e), (1, .agg (pcells ⟨a, b, c, d, [x0, x1, x2, x3, x4, x5, x6, x7, x8, x9, x10, x11, x12, x13, x14, x15, x16, x17, x18, x19, x20, x21, x22, x23, x24, x25, x26, x27, x28, x29, x30, x31]⟩)), (2, .int .i64 n)] = some (lcells ⟨e, ⟨a, b, c, d, [x0, x1, x2, x3, x4, x5, x6, x7, x8, x9, x10, x11, x12, x13, x14, x15, x16, x17, x18, x19, x20, x21, x22, x23, x24, x25, x26, x27, x28, x29, x30, x31]⟩, n⟩) := by kernel_rfl
theorem ltR : LT 34 where
  size := by kernel_rfl
  fields := by kernel_rfl
  struct := by kernel_rfl
  held := by kernel_rfl
  cells := by kernel_rfl
  made := fun ρ o w ho => by
    unfold execOp
    rw [ho]
    kernel_rfl
  built0 := by kernel_rfl
  built2 := fun a b => by kernel_rfl
  built3 := fun e p n h => by
    obtain ⟨a, b, c, d, xs⟩ := p
    match xs, h with
    | [x0, x1, x2, x3, x4, x5, x6, x7, x8, x9, x10, x11, x12, x13, x14, x15, x16, x17, x18, x19, x20, x21, x22, x23, x24, x25, x26, x27, x28, x29, x30, x31], _ => exact built3R e a b c d n x0 x1 x2 x3 x4 x5 x6 x7 x8 x9 x10 x11 x12 x13 x14 x15 x16 x17 x18 x19 x20 x21 x22 x23 x24 x25 x26 x27 x28 x29 x30 x31

section
variable {T : TypeId} (hT : LT T)
include hT
theorem lb_size {l : Lb} (h : l.root.sha.length = 32) : (Tryd.prog.info? T).map (·.size) = some (lcells l).size := by rw [hT.size, lcells_size, h]
omit hT in
theorem part_root (w : World) (l : Lb) (h : l.root.sha.length = 32) : (part 25 (lcells l) 1).run Tryd.prog w = .ok (.agg (pcells l.root)) w := by
  have hagg : (isAgg 25).run Tryd.prog w = .ok true w := by
    unfold isAgg
    rw [Sem.run_bind, run_underlying Tryd.structP w]
    simp
  have he : (lcells l).extract 1 37 = pcells l.root := by
    apply Array.ext'
    rw [Array.toList_extract]
    unfold lcells
    rw [llist_eq]
    show ((pcells l.root).toList ++ [Value.int .i64 l.next]).take 36 = (pcells l.root).toList
    have hl : (pcells l.root).toList.length = 36 := by rw [Array.length_toList, pcells_size, h]
    rw [← hl, List.take_left]
  cases hq : Tryd.prog.info? 25 with
  | none => have := Tryd.sizeP; simp [hq] at this
  | some i =>
    have hsz : i.size = 36 := by simpa [hq] using Tryd.sizeP
    simp [part, Sem.run_bind, hagg, sizeOf, typeInfo, hq, hsz, he]
theorem equal_lbs (w : World) (d : Nat) (p q : Lb) (hp : p.root.sha.length = 32) (hq : q.root.sha.length = 32) : (Op.equalIn (d + 4) T (.agg (lcells p)) (.agg (lcells q))).run Tryd.prog w = .ok (Lb.same p q) w := by
  rw [run_equalIn_struct w (d + 3) T _ _ hT.struct hT.held]
  have hf := hT.fields
  generalize (Tryd.prog.fieldsOf T).toList = fs at hf ⊢
  rcases fs with _ | ⟨f0, _ | ⟨f1, _ | ⟨f2, _ | ⟨f3, r⟩⟩⟩⟩ <;> simp only [List.map_cons, List.map_nil, List.cons.injEq, Prod.mk.injEq, and_true, reduceCtorEq, and_false] at hf
  obtain ⟨⟨a0, a1, a2⟩, ⟨b0, b1, b2⟩, c0, c1, c2⟩ := hf
  have hnil : (Op.eqFields (d + 3) (lcells p) (lcells q) []).run Tryd.prog w = .ok true w := by simp [Op.eqFields]
  have i64 := Tryd.underlying3
  have := eq_fields a0 _ a1 _ a2 (part_int w _ _ i64 _ _ _ (lcells_0 p)) (part_int w _ _ i64 _ _ _ (lcells_0 q)) (run_equalIn_int w (d + 2) _ .i64 .i64 p.epoch q.epoch i64)
    (eq_fields b0 _ b1 _ b2 (part_root w p hp) (part_root w q hq) (equal_pts w d p.root q.root hp hq)
    (eq_fields c0 _ c1 _ c2 (part_int w _ _ i64 _ _ _ (lcells_37 p hp)) (part_int w _ _ i64 _ _ _ (lcells_37 q hq)) (run_equalIn_int w (d + 2) _ .i64 .i64 p.next q.next i64) hnil))
  rw [this]
  simp [Lb.same]
theorem eql_lbs (w : World) (p q : Lb) (hp : p.root.sha.length = 32) (hq : q.root.sha.length = 32) : (binOp .eql T (.agg (lcells p)) (.agg (lcells q))).run Tryd.prog w = .ok (.bool (Lb.same p q)) w := by
  rw [run_eql_struct, equal_lbs hT w 9996 p q hp hq]
  rfl
theorem neq_lbs (w : World) (p q : Lb) (hp : p.root.sha.length = 32) (hq : q.root.sha.length = 32) : (binOp .neq T (.agg (lcells p)) (.agg (lcells q))).run Tryd.prog w = .ok (.bool (!Lb.same p q)) w := by
  rw [run_neq_struct, equal_lbs hT w 9996 p q hp hq]
  rfl
omit hT in
theorem lrow_epoch {w : World} {g : Nat} {l : Lb} (h : Row w g T (lcells l)) : w.cell? ⟨g, 0, none⟩ = some (.int .i64 l.epoch) := h.cell (lcells_0 l)
omit hT in
theorem lrow_birth {w : World} {g : Nat} {l : Lb} (h : Row w g T (lcells l)) : w.cell? ⟨g, 2, none⟩ = some (.int .i64 l.root.birth) := h.cell (lcells_birth l)
omit hT in
theorem lrow_next {w : World} {g : Nat} {l : Lb} (h : Row w g T (lcells l)) (hs : l.root.sha.length = 32) : w.cell? ⟨g, 37, none⟩ = some (.int .i64 l.next) := h.cell (lcells_37 l hs)
omit hT in
theorem lrow_root {w : World} {g : Nat} {l : Lb} (h : Row w g T (lcells l)) : Cells w g 1 (pcells l.root) := fun j v hv => h.cell (lcells_root l j v hv)

theorem wpList_allocL {ops : Array Oper} {rest : List Oper} {o : Oper} {a : Act} {w : World} {Q : Exit → Act → World → Prop} (t : Nat) (_ : o.dst = some t) (hg : o.guard = none) (ho : o.op = .alloc T)
    (h : ∀ w', Row w' w.heap.size T (lcells Lb.zero) → Below w.heap.size w w' → w'.heap.size = w.heap.size + 1 → wpList Tryd.prog ops Q rest (a.put o.dst (.pointer (some ⟨w.heap.size, 0, none⟩))) w') : wpList Tryd.prog ops Q (o :: rest) a w := by
  refine wpList_plain hg fun K hK => ?_
  unfold Oper.wp
  rw [hT.made a.eval o w ho, Oper.upon_value]
  exact hK _ _ (h _ (Row.new _ _ _) ((Below.refl _ _).alloc (Nat.le_refl _) _) (by show (w.heap.push _).size = _; rw [Array.size_push]))
theorem wpList_allocLg {ops : Array Oper} {rest : List Oper} {o : Oper} {a : Act} {w : World} {Q : Exit → Act → World → Prop} (t : Nat) (hd : o.dst = some t) (hg : o.guard = none) (ho : o.op = .alloc T) (g : Nat) (e : w.heap.size = g)
    (h : ∀ w', Row w' g T (lcells Lb.zero) → Below g w w' → w'.heap.size = g + 1 → wpList Tryd.prog ops Q rest (a.put o.dst (.pointer (some ⟨g, 0, none⟩))) w') : wpList Tryd.prog ops Q (o :: rest) a w := by
  subst e
  exact wpList_allocL hT t hd hg ho h
theorem wpList_storeL {ops : Array Oper} {rest : List Oper} {o : Oper} {a : Act} {w : World} {Q : Exit → Act → World → Prop} (hg : o.guard = none) (x y : Operand) (ho : o.op = .store T x y) (g : Nat) (hx : a.eval x = .pointer (some ⟨g, 0, none⟩)) (q : Lb) (hy : a.eval y = .agg (lcells q)) (hq : q.root.sha.length = 32)
    (old : Lb) (hold : old.root.sha.length = 32) (hr : Row w g T (lcells old)) (h : ∀ w', Row w' g T (lcells q) → Only g w w' → wpList Tryd.prog ops Q rest (a.put o.dst undef) w') : wpList Tryd.prog ops Q (o :: rest) a w := by
  refine wpList_store_row hg T x y ho g (lcells q) hx hy T (lcells old) hr (lb_size hT hq) (by rw [lcells_size, lcells_size, hq, hold]) (lcells_one q) ?_
  exact h _ (hr.setRow _) ⟨by simp, below_setRow (Below.refl _ _) (Nat.le_refl _) _, fun b hb => setRow_other _ _ _ _ hb⟩
omit hT in
theorem wpList_loadL {ops : Array Oper} {rest : List Oper} {o : Oper} {a : Act} {w : World} {Q : Exit → Act → World → Prop} (x : Operand) (T' : TypeId) (hT' : LT T') (ho : o.op = .load T' x) (hw : Region.wanted o (yielded ops a.tmps) = true) (g : Nat) (hx : a.eval x = .pointer (some ⟨g, 0, none⟩)) (q : Lb) (hq : q.root.sha.length = 32) (hr : Row w g T (lcells q))
    (h : wpList Tryd.prog ops Q rest (a.put o.dst (.agg (lcells q))) w) : wpList Tryd.prog ops Q (o :: rest) a w :=
  wpList_load_cells_w hw T' x ho g 0 hx (lcells q) _ hr.cells hT'.struct rfl (lb_size hT' hq) h
omit hT in
theorem wpList_loadRoot {ops : Array Oper} {rest : List Oper} {o : Oper} {a : Act} {w : World} {Q : Exit → Act → World → Prop} (x : Operand) (ho : o.op = .load 25 x) (hw : Region.wanted o (yielded ops a.tmps) = true) (g : Nat) (hx : a.eval x = .pointer (some ⟨g, 1, none⟩)) (q : Lb) (hq : q.root.sha.length = 32) (hr : Row w g T (lcells q))
    (h : wpList Tryd.prog ops Q rest (a.put o.dst (.agg (pcells q.root))) w) : wpList Tryd.prog ops Q (o :: rest) a w :=
  wpList_load_cells_w hw 25 x ho g 1 hx (pcells q.root) _ (lrow_root hr) Tryd.structP rfl (pt_size hq) h
theorem wpList_build0 {ops : Array Oper} {rest : List Oper} {o : Oper} {a : Act} {w : World} {Q : Exit → Act → World → Prop} (ho : o.op = .build T #[]) (hw : Region.wanted o (yielded ops a.tmps) = true)
    (h : wpList Tryd.prog ops Q rest (a.put o.dst (.agg (lcells Lb.zero))) w) : wpList Tryd.prog ops Q (o :: rest) a w := by
  have e : ((#[] : Array (Nat × Operand)).map fun (i, x) => (i, a.eval x)).toList = [] := by simp
  exact wpList_wanted hw fun K hK => wp_build T #[] ho (by rw [e, hT.built0]; rfl) (by rw [e, hT.built0]; exact hK _ _ h)
theorem wpList_build2 {ops : Array Oper} {rest : List Oper} {o : Oper} {a : Act} {w : World} {Q : Exit → Act → World → Prop} (x y : Operand) (ho : o.op = .build T #[(0, x), (2, y)]) (hw : Region.wanted o (yielded ops a.tmps) = true) (e n : Int) (hx : a.eval x = .int .i64 e) (hy : a.eval y = .int .i64 n)
    (h : wpList Tryd.prog ops Q rest (a.put o.dst (.agg (lcells ⟨e, Pt.zero, n⟩))) w) : wpList Tryd.prog ops Q (o :: rest) a w := by
  have e1 : ((#[(0, x), (2, y)] : Array (Nat × Operand)).map fun (i, x) => (i, a.eval x)).toList = [(0, .int .i64 e), (2, .int .i64 n)] := by simp [hx, hy]
  exact wpList_wanted hw fun K hK => wp_build T #[(0, x), (2, y)] ho (by rw [e1, hT.built2]; rfl) (by rw [e1, hT.built2]; exact hK _ _ h)
theorem wp_build3 {o : Oper} {a : Act} {w : World} {K : Act → World → Prop} {Q : Exit → Act → World → Prop} (x y z : Operand) (ho : o.op = .build T #[(0, x), (1, y), (2, z)]) (e n : Int) (p : Pt) (hp : p.sha.length = 32) (hx : a.eval x = .int .i64 e) (hy : a.eval y = .agg (pcells p)) (hz : a.eval z = .int .i64 n)
    (h : K (a.put o.dst (.agg (lcells ⟨e, p, n⟩))) w) : Oper.wp Tryd.prog o a w K Q := by
  have e1 : ((#[(0, x), (1, y), (2, z)] : Array (Nat × Operand)).map fun (i, x) => (i, a.eval x)).toList = [(0, .int .i64 e), (1, .agg (pcells p)), (2, .int .i64 n)] := by simp [hx, hy, hz]
  exact wp_build T #[(0, x), (1, y), (2, z)] ho (by rw [e1, hT.built3 e p n hp]; rfl) (by rw [e1, hT.built3 e p n hp]; exact h)
theorem wpList_build3 {ops : Array Oper} {rest : List Oper} {o : Oper} {a : Act} {w : World} {Q : Exit → Act → World → Prop} (x y z : Operand) (ho : o.op = .build T #[(0, x), (1, y), (2, z)]) (hw : Region.wanted o (yielded ops a.tmps) = true) (e n : Int) (p : Pt) (hp : p.sha.length = 32) (hx : a.eval x = .int .i64 e) (hy : a.eval y = .agg (pcells p)) (hz : a.eval z = .int .i64 n)
    (h : wpList Tryd.prog ops Q rest (a.put o.dst (.agg (lcells ⟨e, p, n⟩))) w) : wpList Tryd.prog ops Q (o :: rest) a w :=
  wpList_wanted hw fun _ hK => wp_build3 hT x y z ho e n p hp hx hy hz (hK _ _ h)
end
end Go.Proofs.YtcolicmefehcnaaDoor

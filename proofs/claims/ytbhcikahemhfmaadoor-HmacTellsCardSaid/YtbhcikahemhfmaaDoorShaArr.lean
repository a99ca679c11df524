/- Arrays by value: a load of several cells in a walk and in a region that draws its order; a row that is turned from its beginning on; the program's two tables. No conditions but those that stand in each lemma. | The last blocks of a sum: their lengths, bytes, and how they are filled. No conditions but those that stand in each lemma. -/
import Derived.Test.YtbhcikahemhfmaaDoorShaWords
import Derived.Test.YtbhcikahemhfmaaDoorDraw
import Derived.Laws.CopyOwn
import Derived.Laws.Bits64

namespace Go.Proofs.YtbhcikahemhfmaaDoor.Sha3
open Go.RowKit

section
variable {P : Program}
/-- The cells from offset o of block b on. -/
def Cells (w : World) (b o : Nat) (cs : Array Value) : Prop := ∀ j v, cs[j]? = some v → w.cell? ⟨b, o + j, none⟩ = some v
theorem Row.cells {w : World} {g : Nat} {t : TypeId} {cs : Array Value} (h : Row w g t cs) : Cells w g 0 cs := fun j v hv => by rw [Nat.zero_add]; exact h.cell hv
theorem Cells.keep {w w' : World} {b o B : Nat} {cs : Array Value} (h : Cells w b o cs) (hb : Below B w w') (hlt : b < B) : Cells w' b o cs := fun j v hv => (hb.cell (p := ⟨b, o + j, none⟩) hlt).trans (h j v hv)
theorem run_loadVar_cells (w : World) (b o : Nat) (ty : TypeId) (cs : Array Value) (d : TypeDesc) (hc : Cells w b o cs)
    (hu : P.underlying ty = some d) (hd : (match d with | .struct _ | .array _ _ => true | _ => false) = true) (hi : (P.info? ty).map (·.size) = some cs.size) :
    (loadVar ty ⟨b, o, none⟩).run P w = .ok (.agg cs) w := by
  have hl : (loadCells ⟨b, o, none⟩ cs.toList.length).run P w = .ok cs.toList.toArray w :=
    run_loadCells_list (P := P) w ⟨b, o, none⟩ cs.toList (fun j v hv => by
      have hadd : (⟨b, o, none⟩ : Addr).add j = ⟨b, o + j, none⟩ := by unfold Addr.add; split <;> simp_all
      rw [hadd]
      exact hc j v (by simpa using hv))
  cases hq : P.info? ty with
  | none => simp [hq] at hi
  | some i =>
    have hs : i.size = cs.size := by simpa [hq] using hi
    have hagg : (isAgg ty).run P w = .ok true w := by
      unfold isAgg
      rw [Sem.run_bind, run_underlying hu w]
      cases d <;> simp_all
    simp only [Array.length_toList, Array.toArray_toList] at hl
    simp [loadVar, Sem.run_bind, hagg, sizeOf, typeInfo, hq, hs, hl]
theorem wpList_load_cells {ops : Array Oper} {rest : List Oper} {op : Oper} {a : Act} {w : World} {Q : Exit → Act → World → Prop} (hgd : op.guard = none) (ty : TypeId) (x : Operand) (ho : op.op = .load ty x)
    (b o : Nat) (hx : a.eval x = .pointer (some ⟨b, o, none⟩)) (cs : Array Value) (d : TypeDesc) (hc : Cells w b o cs)
    (hu : P.underlying ty = some d) (hd : (match d with | .struct _ | .array _ _ => true | _ => false) = true) (hi : (P.info? ty).map (·.size) = some cs.size)
    (h : wpList P ops Q rest (a.put op.dst (.agg cs)) w) : wpList P ops Q (op :: rest) a w := by
  refine wpList_plain hgd fun K hK => ?_
  unfold Oper.wp execOp
  simp only [ho, hx, Instr.loadAt, Instr.sureAddr, Sem.run_bind, Sem.run_pure, Result.andThen_ok, run_loadVar_cells w b o ty cs d hc hu hd hi]
  exact hK _ _ h
theorem wpQuiet_load_cells {ops : Array Oper} {rest : List Oper} {op : Oper} {a : Act} {w : World} {K : Act → Prop} (hw : Region.wanted op (yielded ops a.tmps) = true) (ty : TypeId) (x : Operand) (ho : op.op = .load ty x)
    (b o : Nat) (hx : a.eval x = .pointer (some ⟨b, o, none⟩)) (cs : Array Value) (d : TypeDesc) (hc : Cells w b o cs) (hlt : b < w.heap.size)
    (hu : P.underlying ty = some d) (hd : (match d with | .struct _ | .array _ _ => true | _ => false) = true) (hi : (P.info? ty).map (·.size) = some cs.size)
    (h : wpQuiet P ops (Cl w) K rest (a.put op.dst (.agg cs))) : wpQuiet P ops (Cl w) K (op :: rest) a := by
  unfold wpQuiet
  rw [if_pos hw]
  refine ⟨.agg cs, fun w' ⟨g, hg⟩ => ?_, h⟩
  subst hg
  unfold Oper.quietAt execOp
  simp only [ho, hx, Instr.loadAt, Instr.sureAddr, Sem.run_bind, Sem.run_pure, Result.andThen_ok, run_loadVar_cells g.1 b o ty cs d (hc.keep g.2 hlt) hu hd hi]
  exact ⟨rfl, rfl⟩
end

/-- An element of an array that is a value. -/
theorem run_index_array {P : Program} (w : World) (t e : TypeId) (n : Nat) (d : TypeDesc) (cs : Array Value) (k : Nat) (v : Value) (hu : P.underlying t = some (.array n e)) (he : P.underlying e = some d)
    (hd : (match d with | .struct _ | .array _ _ => true | _ => false) = false) (hz : (P.info? e).map (·.size) = some 1) (hk : k < n) (hv : cs[k]? = some v) :
    (Instr.index t (.agg cs) (.int .i64 (k : Int))).run P w = .ok v w := by
  cases hq : P.info? e with
  | none => simp [hq] at hz
  | some i =>
    have hs : i.size = 1 := by simpa [hq] using hz
    have hagg : (isAgg e).run P w = .ok false w := by
      unfold isAgg
      rw [Sem.run_bind, run_underlying he w]
      cases d <;> simp_all
    have hk' : (0 : Int) ≤ (k : Int) ∧ (k : Int) < (n : Int) := by omega
    have ha : (asIntOf (.int .i64 (k : Int))).run P w = .ok (.i64, (k : Int)) w := by simp [asIntOf]
    unfold Instr.index
    simp only [Sem.run_bind, ha, Result.andThen_ok, run_underlying hu w]
    rw [if_pos hk']
    simp [sizeOf, typeInfo, hq, hs, part, hagg, hv]
section
variable {α : Type}
/-- A row that is turned from its beginning on: k of l's, the rest as zs has it. -/
def over (l zs : List α) (k : Nat) : List α := l.take k ++ zs.drop k
theorem over_length (l zs : List α) (k : Nat) (h : zs.length = l.length) : (over l zs k).length = l.length := by
  unfold over
  rw [List.length_append, List.length_take, List.length_drop]
  omega
theorem over_none (l zs : List α) : over l zs 0 = zs := by unfold over; rw [List.take_zero, List.nil_append, List.drop_zero]
theorem over_all (l zs : List α) (k : Nat) (h : zs.length = l.length) (hk : l.length ≤ k) : over l zs k = l := by
  unfold over
  rw [List.take_of_length_le hk, List.drop_eq_nil_of_le (by omega), List.append_nil]
theorem over_getD (l zs : List α) (y : α) (k : Nat) (hk : k < l.length) : (over l zs k).getD k y = zs.getD k y := by
  unfold over
  rw [List.getD_eq_getElem?_getD, List.getElem?_append_right (by rw [List.length_take]; omega), List.length_take, List.getElem?_drop, List.getD_eq_getElem?_getD, show k + (k - min k l.length) = k by omega]
theorem over_set (l zs : List α) (y : α) (k : Nat) (h : zs.length = l.length) (hk : k < l.length) : (over l zs k).set k (l.getD k y) = over l zs (k + 1) := by
  unfold over
  apply List.ext_getElem?
  intro i
  rw [List.getElem?_set]
  have hl : (l.take k ++ zs.drop k).length = l.length := over_length l zs k h
  by_cases hi : k = i
  · subst hi
    rw [if_pos rfl, if_pos (by rw [hl]; exact hk), List.getElem?_append_left (by rw [List.length_take]; omega), List.getElem?_take, if_pos (by omega), List.getD_eq_getElem?_getD, List.getElem?_eq_getElem hk]
    rfl
  · rw [if_neg hi]
    by_cases hlt : i < k
    · rw [List.getElem?_append_left (by rw [List.length_take]; omega), List.getElem?_append_left (by rw [List.length_take]; omega), List.getElem?_take, List.getElem?_take, if_pos hlt, if_pos (by omega)]
    · rw [List.getElem?_append_right (by rw [List.length_take]; omega), List.getElem?_append_right (by rw [List.length_take]; omega), List.length_take, List.length_take, List.getElem?_drop, List.getElem?_drop]
      congr 1
      omega
end
/-- A number of 64 bits as the program's number. -/
def uq (q : Qd) : Int := (q.toNat : Int)
theorem Tryd.one27 : (Tryd.prog.info? 37).map (·.size) = some 1 := by kernel_rfl
theorem Tryd.one5 : (Tryd.prog.info? 5).map (·.size) = some 1 := by kernel_rfl
theorem uq_lo (q : Qd) : 0 ≤ uq q := Int.natCast_nonneg _
theorem uq_add64 (q : Qd) : (uq q + 64) % 18446744073709551616 = uq (q + 64#64) := by
  unfold uq
  rw [BitVec.toNat_add]
  have : (64#64 : Qd).toNat = 64 := rfl
  rw [this]
  omega
theorem scells_cells {w : World} {g : Nat} {t : TypeId} {hs : List Wd} {n : Int} (h : Row w g t (scells hs n)) : Cells w g 0 (wcells hs) := fun j v hv => by
  rw [Nat.zero_add]
  have hj : j < hs.length := by
    rcases Nat.lt_or_ge j hs.length with h' | h'
    · exact h'
    · rw [Array.getElem?_eq_none (by rw [wcells_size]; exact h')] at hv; cases hv
  rw [wcells_at hs j hj] at hv
  exact h.cell ((scells_at hs n j hj).trans hv)

/-- The program's two tables lie where they were laid: the first state's words, and the 64 constants. -/
def Tab (w : World) (h0 ks : List Wd) : Prop := 1 < w.heap.size ∧ Cells w 0 0 (wcells h0) ∧ Cells w 1 0 (wcells ks)
theorem Tab.keepB {B : Nat} {w w' : World} {h0 ks : List Wd} (h : Tab w h0 ks) (hB : 1 < B) (hb : Below B w w') : Tab w' h0 ks :=
  ⟨by have := hb.size; have := h.1; omega, h.2.1.keep hb (by omega), h.2.2.keep hb (by omega)⟩
theorem Tab.keep {w w' : World} {h0 ks : List Wd} (h : Tab w h0 ks) (hb : Below w.heap.size w w') : Tab w' h0 ks := h.keepB h.1 hb
theorem Tab.key {w : World} {h0 ks : List Wd} (h : Tab w h0 ks) (hk : ks.length = 64) (k : Nat) (hlt : k < 64) : w.cell? ⟨1, k, none⟩ = some (.int .u32 (uv (ks.getD k 0#32))) := by
  have := h.2.2 k _ (wcells_at ks k (by omega))
  rw [Nat.zero_add] at this
  exact this
end Go.Proofs.YtbhcikahemhfmaaDoor.Sha3

namespace Go.Proofs.YtbhcikahemhfmaaDoor.Sha3
open Go.RowKit

theorem zerosI_length (n : Nat) : (zerosI n).length = n := List.length_replicate
theorem bytes_zeros (n : Nat) : IsBytes (zerosI n) := fun x hx => by
  obtain ⟨_, rfl⟩ := List.mem_replicate.1 hx
  omega
theorem bytes_len (q : Qd) : IsBytes (lenW q) := fun x hx => by
  obtain ⟨i, _, rfl⟩ := List.mem_map.1 hx
  unfold lenAt
  omega
theorem twoB_length (xs : List Int) (h : xs.length ≤ 63) : (twoB xs).length = 64 := by
  unfold twoB
  rw [List.length_append, List.length_cons, zerosI_length]
  omega
theorem oneB_length (xs : List Int) (q : Qd) (h : xs.length < 56) : (oneB xs q).length = 64 := by
  unfold oneB
  rw [List.length_append, List.length_append, List.length_cons, zerosI_length, lenW_length]
  omega
theorem lastB_length (q : Qd) : (lastB q).length = 64 := by
  unfold lastB
  rw [List.length_append, zerosI_length, lenW_length]
theorem bytes_two {xs : List Int} (h : IsBytes xs) : IsBytes (twoB xs) := h.append (IsBytes.cons (by omega) (bytes_zeros _))
theorem bytes_one {xs : List Int} (h : IsBytes xs) (q : Qd) : IsBytes (oneB xs q) := (h.append (IsBytes.cons (by omega) (bytes_zeros _))).append (bytes_len q)
theorem bytes_last (q : Qd) : IsBytes (lastB q) := (bytes_zeros _).append (bytes_len q)
theorem over_same {α : Type} (l zs : List α) (k : Nat) (h : l.take k = zs.take k) : over l zs k = zs := by
  unfold over
  rw [h, List.take_append_drop]
theorem over_one (xs : List Int) (q : Qd) (h : xs.length < 56) : over (oneB xs q) (twoB xs) 56 = twoB xs := by
  apply over_same
  have hl : (xs ++ 128 :: zerosI (55 - xs.length)).length = 56 := by rw [List.length_append, List.length_cons, zerosI_length]; omega
  have e1 : (oneB xs q).take 56 = xs ++ 128 :: zerosI (55 - xs.length) := by
    unfold oneB
    rw [List.take_append_of_le_length (by rw [hl]; exact Nat.le_refl _), List.take_of_length_le (by rw [hl]; exact Nat.le_refl _)]
  have e2 : twoB xs = (xs ++ 128 :: zerosI (55 - xs.length)) ++ zerosI 8 := by
    unfold twoB zerosI
    rw [List.append_assoc, List.cons_append, List.replicate_append_replicate, show 55 - xs.length + 8 = 63 - xs.length by omega]
  rw [e1, e2, List.take_append_of_le_length (by rw [hl]; exact Nat.le_refl _), List.take_of_length_le (by rw [hl]; exact Nat.le_refl _)]
theorem over_last (q : Qd) : over (lastB q) (zerosI 64) 56 = zerosI 64 := by
  apply over_same
  have hl : (zerosI 56).length = 56 := zerosI_length 56
  have e2 : zerosI 64 = zerosI 56 ++ zerosI 8 := by unfold zerosI; rw [List.replicate_append_replicate]
  unfold lastB
  rw [e2, List.take_append_of_le_length (by rw [hl]; exact Nat.le_refl _), List.take_append_of_le_length (by rw [hl]; exact Nat.le_refl _)]
theorem tail_getD (p : List Int) (q : Qd) (i : Nat) (hp : p.length = 56) (hi : i < 8) : (p ++ lenW q).getD (56 + i) 0 = lenAt q i := by
  rw [List.getD_eq_getElem?_getD, List.getElem?_append_right (by omega), hp, show 56 + i - 56 = i by omega, ← List.getD_eq_getElem?_getD]
  exact lenW_getD q i hi
theorem one_getD (xs : List Int) (q : Qd) (h : xs.length < 56) (i : Nat) (hi : i < 8) : (oneB xs q).getD (56 + i) 0 = lenAt q i :=
  tail_getD _ q i (by rw [List.length_append, List.length_cons, zerosI_length]; omega) hi
theorem last_getD (q : Qd) (i : Nat) (hi : i < 8) : (lastB q).getD (56 + i) 0 = lenAt q i := tail_getD _ q i (zerosI_length 56) hi
theorem lenAt_uq (q : Qd) (i j : Nat) (h : 56 - 8 * i = j) : lenAt q i = uq q / 2 ^ j % 256 := by
  unfold lenAt uq
  rw [h, BitVec.toNat_ushiftRight, Nat.shiftRight_eq_div_pow]
  rw [Int.natCast_emod, Int.natCast_ediv]
  simp
theorem splice_zeros (xs : List Int) : (splice ((List.replicate 64 (0 : Int)).map (Value.int .u8)) 0 (cellsOf .u8 xs)).toArray = bcells (xs ++ zerosI (64 - xs.length)) := by
  unfold splice bcells cellsOf zerosI
  rw [List.take_zero, List.nil_append, Nat.zero_add, List.length_map, ← List.map_drop, List.drop_replicate, List.map_append]
theorem mark_set (xs : List Int) (h : xs.length ≤ 63) : (xs ++ zerosI (64 - xs.length)).set xs.length 128 = twoB xs := by
  rw [List.set_append_right xs.length _ (Nat.le_refl _), Nat.sub_self]
  unfold twoB zerosI
  rw [show 64 - xs.length = (63 - xs.length) + 1 by omega, List.replicate_succ, List.set_cons_zero]
theorem mark_row {n : Nat} {xs : List Int} (hn : n = xs.length) (h : xs.length ≤ 63) : (bcells (xs ++ zerosI (64 - xs.length))).setIfInBounds n (.int .u8 128) = bcells (twoB xs) := by
  subst hn
  rw [bcells_set, mark_set xs h]
theorem src_copy {w : World} {A : Option Addr} {xs : List Int} (h : Src .u8 w A xs) (hp : 0 < (cellsOf .u8 xs).length) : ∃ ad, A = some ad ∧ ∀ j v, (cellsOf .u8 xs)[j]? = some v → w.cell? (ad.add j) = some v := by
  rw [cellsOf_length] at hp
  obtain ⟨b, o, rfl, _, hc⟩ := h hp
  refine ⟨_, rfl, fun j v hv => ?_⟩
  obtain ⟨hj, rfl⟩ := cellsOf_inv .u8 xs j v hv
  have hadd : (⟨b, o, none⟩ : Addr).add j = ⟨b, o + j, none⟩ := by unfold Addr.add; split <;> simp_all
  rw [hadd]
  exact hc j hj
theorem run_field_H {P : Program} (w : World) (t : TypeId) (f0 f1 : Field) (n : Nat) (e : TypeId) (hs : List Wd) (m : Int) (hu : P.underlying t = some (.struct #[f0, f1])) (ho : f0.offset = 0) (ha : P.underlying f0.type = some (.array n e)) (hz : (P.info? f0.type).map (·.size) = some hs.length) :
    (Instr.field t (.agg (scells hs m)) 0).run P w = .ok (.agg (wcells hs)) w := by
  cases hq : P.info? f0.type with
  | none => simp [hq] at hz
  | some i =>
    have hsz : i.size = hs.length := by simpa [hq] using hz
    have hagg : (isAgg f0.type).run P w = .ok true w := by
      unfold isAgg
      rw [Sem.run_bind, run_underlying ha w]
      simp
    have he : (scells hs m).extract 0 hs.length = wcells hs := by
      apply Array.ext'
      simp [scells, wcells]
    unfold Instr.field
    simp [Sem.run_bind, run_underlying hu w, asAgg, part, hagg, sizeOf, typeInfo, hq, hsz, ho, he]
theorem bits_uq (q : Qd) (n : Nat) : IntKind.u64.wrap (8 * IntKind.u64.wrap (uq q + (n : Int))) = uq (bitsQ q n) := by
  rw [IntKind.wrap_u64, IntKind.wrap_u64]
  unfold uq bitsQ
  rw [BitVec.toNat_mul, BitVec.toNat_add, show (8#64 : Qd).toNat = 8 from rfl, show (BitVec.ofNat 64 n).toNat = n % 2 ^ 64 from BitVec.toNat_ofNat _ _]
  omega
end Go.Proofs.YtbhcikahemhfmaaDoor.Sha3

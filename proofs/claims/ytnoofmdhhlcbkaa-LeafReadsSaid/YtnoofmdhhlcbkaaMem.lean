/- Words for byte slices in memory and the laws that the walks over codec need: a slice that reads as a list of numbers, a row of the call's own, append of one onto the other, and the conversion of bytes to a text. No conditions but those that stand in each lemma. -/
import Derived.Test.YtnoofmdhhlcbkaaRows
import Derived.WalkKit
import Derived.ProofKit
import Derived.OpenShut
import Derived.ShutString
import Derived.Below
import Derived.Lib.Hide
import Derived.Lib.AppendStr
import Derived.Laws.AppendOwnNone
import Derived.Laws.BytesArg
import Derived.Maps.AppendAt
import Derived.Deep.AppendLies
import Derived.OwnWalk
namespace Go.Proofs.Ytnoofmdhhlcbkaa
open Go.RowKit

/-- Each number is a byte's. -/
def IsBytes (xs : List Int) : Prop := ∀ x ∈ xs, 0 ≤ x ∧ x < 256
theorem IsBytes.nil : IsBytes [] := fun _ h => by cases h
theorem IsBytes.append {xs ys : List Int} (h : IsBytes xs) (k : IsBytes ys) : IsBytes (xs ++ ys) := fun x hx => (List.mem_append.1 hx).elim (h x) (k x)
theorem IsBytes.cons {x : Int} {xs : List Int} (h : 0 ≤ x ∧ x < 256) (k : IsBytes xs) : IsBytes (x :: xs) := fun y hy => by
  rcases List.mem_cons.1 hy with rfl | hy
  · exact h
  · exact k y hy
theorem IsBytes.take {xs : List Int} (h : IsBytes xs) (k : Nat) : IsBytes (xs.take k) := fun x hx => h x (List.mem_of_mem_take hx)
theorem IsBytes.drop {xs : List Int} (h : IsBytes xs) (k : Nat) : IsBytes (xs.drop k) := fun x hx => h x (List.mem_of_mem_drop hx)
theorem IsBytes.at_ {xs : List Int} (h : IsBytes xs) (k : Nat) : 0 ≤ xs.getD k 0 ∧ xs.getD k 0 < 256 := by
  by_cases hk : k < xs.length
  · rw [List.getD_eq_getElem?_getD, List.getElem?_eq_getElem hk]; exact h _ (List.getElem_mem hk)
  · rw [List.getD_eq_getElem?_getD, List.getElem?_eq_none (by omega)]; exact ⟨by decide, by decide⟩

/-- The numbers as cells. -/
def cellsOf (k : IntKind) (xs : List Int) : List Value := xs.map (Value.int k)
theorem cellsOf_length (k : IntKind) (xs : List Int) : (cellsOf k xs).length = xs.length := by simp [cellsOf]
theorem cellsOf_append (k : IntKind) (xs ys : List Int) : cellsOf k (xs ++ ys) = cellsOf k xs ++ cellsOf k ys := by simp [cellsOf]
theorem cellsOf_at (k : IntKind) (xs : List Int) (j : Nat) (hj : j < xs.length) : (cellsOf k xs)[j]? = some (.int k (xs.getD j 0)) := by
  simp [cellsOf, List.getD_eq_getElem?_getD, List.getElem?_eq_getElem hj]
theorem cellsOf_inv (k : IntKind) (xs : List Int) (j : Nat) (u : Value) (h : (cellsOf k xs)[j]? = some u) : j < xs.length ∧ u = .int k (xs.getD j 0) := by
  by_cases hj : j < xs.length
  · rw [cellsOf_at k xs j hj] at h; injection h with h; exact ⟨hj, h.symm⟩
  · rw [List.getElem?_eq_none (by rw [cellsOf_length]; omega)] at h; cases h
theorem cellsOf_one (k : IntKind) (xs : List Int) : ∀ u ∈ cellsOf k xs, u.oneCell' = true := by
  intro u hu
  obtain ⟨x, _, rfl⟩ := List.mem_map.1 hu
  rfl

/-- The slice with address A holds the numbers xs (of kind k); where there are none, nothing is said of A. -/
def Src (k : IntKind) (w : World) (A : Option Addr) (xs : List Int) : Prop :=
  0 < xs.length → ∃ b o, A = some ⟨b, o, none⟩ ∧ b < w.heap.size ∧ ∀ i, i < xs.length → w.cell? ⟨b, o + i, none⟩ = some (.int k (xs.getD i 0))

/-- A slice of the call's own, from block B on, that holds the bytes xs. -/
def Own (w : World) (B : Nat) (A : Option Addr) (c : Nat) (xs : List Int) : Prop := w.ownsRow B 5 1 (.slice A xs.length c) xs.length (cellsOf .u8 xs)

section
variable {k : IntKind} {w w' : World} {A : Option Addr} {xs : List Int}
theorem Src.none_ : Src k w A [] := fun h => absurd h (by simp)
theorem Src.keep (h : Src k w A xs) (hb : Below w.heap.size w w') : Src k w' A xs := fun hn => by
  obtain ⟨b, o, rfl, hlt, hc⟩ := h hn
  exact ⟨b, o, rfl, by have := hb.size; omega, fun i hi => (hb.cell (p := ⟨b, o + i, none⟩) hlt).trans (hc i hi)⟩
theorem Src.take (h : Src k w A xs) (j : Nat) : Src k w A (xs.take j) := fun hn => by
  obtain ⟨b, o, rfl, hlt, hc⟩ := h (by rw [List.length_take] at hn; omega)
  refine ⟨b, o, rfl, hlt, fun i hi => ?_⟩
  rw [List.length_take] at hi
  rw [hc i (by omega), List.getD_eq_getElem?_getD, List.getD_eq_getElem?_getD, List.getElem?_take, if_pos (by omega)]
theorem Src.drop (h : Src k w A xs) (j c : Nat) (hj : j ≤ xs.length) (hc : xs.length ≤ c) : Src k w (if c = j then A else A.map (·.add j)) (xs.drop j) := fun hn => by
  rw [List.length_drop] at hn
  obtain ⟨b, o, rfl, hlt, hcell⟩ := h (by omega)
  rw [if_neg (by omega)]
  have hadd : (⟨b, o, none⟩ : Addr).add j = ⟨b, o + j, none⟩ := by unfold Addr.add; split <;> simp_all
  refine ⟨b, o + j, by simp [hadd], hlt, fun i hi => ?_⟩
  rw [List.length_drop] at hi
  rw [Nat.add_assoc, hcell (j + i) (by omega), List.getD_eq_getElem?_getD, List.getD_eq_getElem?_getD, List.getElem?_drop]
theorem Own.src {B c : Nat} (h : Own w B A c xs) : Src .u8 w A xs := fun hn => by
  obtain ⟨g, cap, hv, _, hlt⟩ := World.ownsRow.form h hn
  have hA : A = some ⟨g, 0, none⟩ := by injection hv
  subst hA
  refine ⟨g, 0, rfl, hlt, fun i hi => ?_⟩
  have hadd : (⟨g, 0, none⟩ : Addr).add i = ⟨g, 0 + i, none⟩ := by unfold Addr.add; split <;> simp_all
  rw [← hadd]
  exact World.ownsRow.cells h (g := g) rfl i _ (cellsOf_at .u8 xs i hi)
theorem Own.keep {B c : Nat} (h : Own w B A c xs) (hb : Below w.heap.size w w') : Own w' B A c xs := by
  refine World.ownsRow.kept (row := none) h ⟨hb.os, hb.tape, hb.output, hb.size, fun i hi _ => hb.block i hi⟩ ?_
  cases Value.ownBlock (.slice A xs.length c) <;> simp
theorem Own.more {B B' c : Nat} (h : Own w B A c xs) (hB : B' ≤ B) : Own w B' A c xs := by
  refine ⟨h.1, ?_⟩
  rcases h.2 with h2 | ⟨g, cap, cur, hv, hg, r⟩
  · exact .inl h2
  · exact .inr ⟨g, cap, cur, hv, by omega, r⟩
theorem Own.cap {B c : Nat} (h : Own w B A c xs) : xs.length ≤ c ∧ c ≤ maxLen := by
  rcases h.2 with ⟨hv, h0⟩ | ⟨g, cap, cur, hv, _, _, h1, h2, _⟩
  · injection hv with _ _ hc; exact ⟨by omega, by unfold maxLen; omega⟩
  · injection hv with _ _ hc; subst hc; exact ⟨h1, h2⟩
theorem Own.row {B c : Nat} (h : Own w B A c xs) (i : Nat) (hi : (Value.slice A xs.length c).ownBlock = some i) : B ≤ i := (World.ownsRow.lt h i hi).1
end

theorem Try.info5 : (Try.prog.info? 5).map (fun i => (i.zero, i.size, i.bytes)) = some (some (.int .u8 0), 1, 1) := by kernel_rfl

/-- A slice of the call's own with the bytes xs, from block B on; below B nothing has turned. -/
def Grew (w : World) (B : Nat) (xs : List Int) (v : Value) (w' : World) : Prop :=
  ∃ A n c, v = .slice A n c ∧ n = xs.length ∧ Own w' B A c xs ∧ Below B w w'
/-- What a function answers that makes a slice of its own. -/
def Gives (w : World) (xs : List Int) (e : Ending) (w' : World) : Prop := ∃ v, e = .returned v ∧ Grew w w.heap.size xs v w'

set_option maxRecDepth 20000 in
theorem run_append_src (w : World) (ty : TypeId) (B : Nat) (A : Option Addr) (c : Nat) (xs : List Int) (hown : Own w B A c xs)
    (S : Option Addr) (d : Nat) (ys : List Int) (hs : Src .u8 w S ys) (hlen : xs.length + ys.length ≤ 1000000) (hB : B ≤ w.heap.size) :
    ∃ v' w', (Builtin.append_ #[22, 22] ty #[.slice A xs.length c, .slice S ys.length d]).run Try.prog w = .ok v' w' ∧ Grew w B (xs ++ ys) v' w' := by
  obtain ⟨i0, hi, hz0, hz1, hz2⟩ := info_parts Try.info5
  by_cases hy : ys = []
  · subst hy
    have hnone : ∀ S : Option Addr, (Builtin.firstCells 1 0 (.slice S 0 d)).run Try.prog w = .ok #[] w := by
      intro S
      cases S <;> simp [Builtin.firstCells, loadCells, loadCellsFrom]
    refine ⟨.slice A xs.length c, w, ?_, A, _, c, rfl, by simp, by simpa using hown, Below.refl _ _⟩
    rcases hown.2 with ⟨hv, h0⟩ | ⟨g, cap, cur, hv, _, _, hnc, _⟩
    · injection hv with h1 h2 h3
      subst h1; subst h3
      rw [h2]
      simp [Builtin.append_, run_underlying Try.underlying22, sizeOf, typeInfo, hi, hz1, Builtin.lenOf, hnone]
    · injection hv with h1 h2 h3
      subst h1; subst h3
      simp [Builtin.append_, run_underlying Try.underlying22, sizeOf, typeInfo, hi, hz1, Builtin.lenOf, hnone, hnc, storeCells]
  · have hpos : 0 < ys.length := List.length_pos_iff.2 hy
    obtain ⟨b, o, rfl, hlt, hc⟩ := hs hpos
    obtain ⟨v', w', hrun, h2, h3, _, _⟩ := run_append_own_at (P := Try.prog) w B 22 ty 5 i0 (.int .u8 0) 1 1 Try.underlying22 hi hz0 hz1 hz2 rfl (by decide) _ _ _ hown ⟨b, o, none⟩ ys.length d (cellsOf .u8 ys) (by rw [cellsOf_length]; omega)
      (fun j u hu => by
        obtain ⟨hj, rfl⟩ := cellsOf_inv _ _ _ _ hu
        have hadd : (⟨b, o, none⟩ : Addr).add j = ⟨b, o + j, none⟩ := by unfold Addr.add; split <;> simp_all
        rw [hadd]; exact hc j hj)
      (cellsOf_one _ _) (by unfold maxLen; omega) (by omega) hB
    obtain ⟨g, cap, hv, _, _⟩ := World.ownsRow.form h2 (by omega)
    subst hv
    refine ⟨_, w', hrun, some ⟨g, 0, none⟩, _, cap, rfl, by simp, ?_, (Below.refl B w).grown h3 hB (fun k hk => hown.row k hk)⟩
    unfold Own
    rw [cellsOf_append, List.length_append]
    exact h2

theorem wpList_append_src {w : World} {ops : Array Oper} {rest : List Oper} {o : Oper} {a : Act} {Q : Exit → Act → World → Prop} (hgd : o.guard = none) (s x : Operand)
    (ho : o.op = .call { callee := .builtin .append, args := #[s, x], argTypes := #[22, 22] })
    (B : Nat) (A : Option Addr) (n c : Nat) (xs : List Int) (ea : a.eval s = .slice A n c) (hn : n = xs.length) (hown : Own w B A c xs)
    (S : Option Addr) (m d : Nat) (ys : List Int) (ex : a.eval x = .slice S m d) (hm : m = ys.length) (hs : Src .u8 w S ys) (hlen : n + m ≤ 1000000) (hB : B ≤ w.heap.size)
    (h : ∀ v' w', Grew w B (xs ++ ys) v' w' → wpList Try.prog ops Q rest (a.put o.dst v') w') : wpList Try.prog ops Q (o :: rest) a w := by
  subst hn; subst hm
  refine wpList_plain hgd fun K hK => ?_
  obtain ⟨v', w', hr, hg⟩ := run_append_src w o.type B A c xs hown S d ys hs hlen hB
  unfold Oper.wp execOp
  simp only [ho, resolve, invoke, builtin, Sem.run_bind, Sem.run_pure, Result.andThen_ok, List.map_toArray, List.map_cons, List.map_nil, ea, ex, hr]
  exact hK _ _ (h v' w' hg)

/-- The text's bytes as numbers. -/
def numsOf (s : ByteArray) : List Int := s.data.toList.map fun b => (b.toNat : Int)
theorem numsOf_length (s : ByteArray) : (numsOf s).length = s.size := by
  unfold numsOf
  rw [List.length_map]
  rfl
theorem numsOf_bytes (s : ByteArray) : IsBytes (numsOf s) := fun x hx => by
  obtain ⟨b, _, rfl⟩ := List.mem_map.1 hx
  have := b.toNat_lt
  omega
theorem strOfNums_numsOf (s : ByteArray) : strOfNums (numsOf s) = s := by
  have : ((numsOf s).map fun n => UInt8.ofNat n.toNat) = s.data.toList := by
    unfold numsOf
    rw [List.map_map]
    conv => rhs; rw [← List.map_id s.data.toList]
    exact List.map_congr_left fun b _ => by simp
  unfold strOfNums
  rw [this]
theorem numsOf_strOfNums (xs : List Int) (h : IsBytes xs) : numsOf (strOfNums xs) = xs := by
  have e : numsOf (strOfNums xs) = xs.map fun n => ((UInt8.ofNat n.toNat).toNat : Int) := by simp [numsOf, strOfNums]
  rw [e]
  conv => rhs; rw [← List.map_id xs]
  exact List.map_congr_left fun x hx => by
    have := h x hx
    simp only [UInt8.toNat_ofNat', id]
    omega

theorem wpList_append_text {w : World} {ops : Array Oper} {rest : List Oper} {o : Oper} {a : Act} {Q : Exit → Act → World → Prop} (hgd : o.guard = none) (s x : Operand)
    (ho : o.op = .call { callee := .builtin .append, args := #[s, x], argTypes := #[22, 9] })
    (B : Nat) (A : Option Addr) (n c : Nat) (xs : List Int) (ea : a.eval s = .slice A n c) (hn : n = xs.length) (hown : Own w B A c xs) (hpos : 0 < n)
    (t : ByteArray) (ex : a.eval x = .string t) (hlen : n + t.size ≤ 1000000) (hB : B ≤ w.heap.size)
    (h : ∀ v' w', Grew w B (xs ++ numsOf t) v' w' → wpList Try.prog ops Q rest (a.put o.dst v') w') : wpList Try.prog ops Q (o :: rest) a w := by
  subst hn
  obtain ⟨i0, hi, hz0, hz1, hz2⟩ := info_parts Try.info5
  refine Lib.wpList_append_own_string w hgd s x 22 9 ho B 5 i0 Try.underlying22 Try.underlying9 hi hz0 hz1 hz2 _ _ _ ea hown t ex (by unfold maxLen; omega) (by omega) hB ?_
  intro v' w' h2 h3 _
  obtain ⟨g, cap, hv, _, _⟩ := World.ownsRow.form h2 (by omega)
  subst hv
  refine h _ _ ⟨some ⟨g, 0, none⟩, _, cap, rfl, by rw [List.length_append, numsOf_length], ?_, (Below.refl B w).grown h3 hB (fun k hk => hown.row k hk)⟩
  unfold Own
  rw [cellsOf_append, List.length_append, numsOf_length]
  have e : cellsOf .u8 (numsOf t) = Lib.strCells t := by simp [cellsOf, numsOf, Lib.strCells]
  rw [e]
  exact h2

/-- One byte in a block of its own reads as a list of one. -/
theorem src_new (w : World) (x : Int) : Src .u8 (w.alloc (.cells #[.int .u8 x] 5)) (some ⟨w.heap.size, 0, none⟩) [x] := fun _ => by
  refine ⟨w.heap.size, 0, rfl, by simp, fun i hi => ?_⟩
  have : i = 0 := by simpa using hi
  subst this
  exact cell_one_new w (.int .u8 x) 5 0 _ rfl
/-- An empty slice that was just made is the call's own. -/
theorem own_made (w : World) (B : Nat) (hB : B ≤ w.heap.size) : Own (w.alloc (.cells #[] 5)) B (some ⟨w.heap.size, 0, none⟩) 0 [] :=
  World.ownsRow_made w #[] 0 hB (by unfold maxLen; omega) rfl
theorem own_nil (w : World) (B : Nat) : Own w B none 0 [] := World.ownsRow_nil w B 5 1

/-- Bytes as a text. -/
theorem run_text (w : World) (A : Option Addr) (n c : Nat) (xs : List Int) (hn : n = xs.length) (h : Src .u8 w A xs) : (convert 22 9 (.slice A n c)).run Try.prog w = .ok (.string (strOfNums xs)) w := by
  subst hn
  by_cases hx : xs = []
  · subst hx
    rw [run_convert_bytes_string w 22 9 5 _ _ c Try.underlying22 Try.underlying5 Try.underlying9]
    cases A with
    | none => simp [Conv.bytesToString, strOfNums]; rfl
    | some a =>
      have := run_bytesToString (P := Try.prog) w a 0 c [] (by simp [loadCells, loadCellsFrom])
      exact this
  · obtain ⟨b, o, rfl, _, hc⟩ := h (List.length_pos_iff.2 hx)
    exact run_convert_bytes_arg w 22 5 Try.underlying22 Try.underlying5 b o xs.length c xs rfl hc 9 Try.underlying9

/-- What the row's own words on a slice that came in are worth: its elements as a list. -/
theorem row_src {w : World} {a : Option Addr} {len cap : Nat} {zs : List Int}
    (h : (a = none ∧ len = 0 ∧ cap = 0 ∧ zs = []) ∨ ∃ x, a = some x ∧ len ≤ cap ∧ cap ≤ maxLen ∧ zs.length = cap ∧ (∀ i, i < zs.length → w.cell? (x.add i) = some (.int .u8 (zs.getD i 0))) ∧ ∀ n ∈ zs, (Lit.int .u8 n).wf = true) :
    ∃ xs, len = xs.length ∧ Src .u8 w a xs ∧ IsBytes xs ∧ len ≤ cap ∧ cap ≤ maxLen := by
  rcases h with ⟨rfl, rfl, rfl, rfl⟩ | ⟨x, rfl, hl, hm, hz, hcell, hwz⟩
  · exact ⟨[], rfl, Src.none_, IsBytes.nil, Nat.le_refl _, by unfold maxLen; omega⟩
  · refine ⟨zs.take len, by rw [List.length_take]; omega, fun hn => ?_, fun y hy => ?_, hl, hm⟩
    · rw [List.length_take] at hn
      obtain ⟨b, off, spot⟩ := x
      have hc := hcell 0 (by omega)
      have hspot : spot = none := by simpa [Addr.add] using World.cell?_spot hc
      subst hspot
      refine ⟨b, off, rfl, by simpa [Addr.add] using World.block_lt_of_cell? w _ hc, fun i hi => ?_⟩
      rw [List.length_take] at hi
      have hadd : (⟨b, off, none⟩ : Addr).add i = ⟨b, off + i, none⟩ := by unfold Addr.add; split <;> simp_all
      rw [← hadd, hcell i (by omega), List.getD_eq_getElem?_getD, List.getD_eq_getElem?_getD, List.getElem?_take, if_pos (by omega)]
    · have := bounds_u8 (hwz y (List.mem_of_mem_take hy))
      omega
end Go.Proofs.Ytnoofmdhhlcbkaa

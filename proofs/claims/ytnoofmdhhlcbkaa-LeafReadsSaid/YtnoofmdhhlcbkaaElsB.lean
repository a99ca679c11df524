/- append of bytes onto a row of the call's own, that tells that all other blocks are as they were. No conditions but those that stand in each lemma. | A call that may write into one block: all others are as they were. No conditions but those that stand in each lemma. | Operations of a region that draws its order and turns something: a read whose answer is known; append onto a row of the call's own, of any bytes or none. No conditions but those that stand in each lemma. -/
import Derived.Test.YtnoofmdhhlcbkaaEls
import Derived.Test.YtnoofmdhhlcbkaaDraw
import Derived.Test.YtnoofmdhhlcbkaaDrawT

namespace Go.Proofs.Ytnoofmdhhlcbkaa
open Go.RowKit
namespace Els

theorem elB : ElTypes Try.prog 22 5 (.int .u8 0) 1 1 := ⟨Try.underlying22, by kernel_rfl⟩
theorem GrewC.row {w w' : World} {B : Nat} {T U : TypeId} {k n' c' n c : Nat} {A A' : Option Addr} {cs cs' : List Value} {g : Nat} {rs : Array Value} (h : GrewC w B T k A n' cs' A' c' w') (ho : COwn w B T k A c n cs) (hr : Row w g U rs) (ht : T ≠ U) : Row w' g U rs :=
  (h.but g hr.lt fun a ha e => (InT.own ho a ha).ne (InT.row hr) ht e).trans hr
theorem own_c {w : World} {B c : Nat} {A : Option Addr} {xs : List Int} (h : Own w B A c xs) : COwn w B 5 1 A c xs.length (cellsOf .u8 xs) := h
theorem c_own {w : World} {B c n : Nat} {A : Option Addr} {xs : List Int} (hn : n = xs.length) (h : COwn w B 5 1 A c n (cellsOf .u8 xs)) : Own w B A c xs := by subst hn; exact h
theorem src_c {w : World} {A : Option Addr} {xs : List Int} (h : Src .u8 w A xs) : CSrc w A (cellsOf .u8 xs) := fun hn => by
  rw [cellsOf_length] at hn
  obtain ⟨b, o, hA, hlt, hc⟩ := h hn
  refine ⟨b, o, hA, hlt, fun j u hu => ?_⟩
  obtain ⟨hj, rfl⟩ := cellsOf_inv _ _ _ _ hu
  exact hc j hj
theorem wpList_append_b {w : World} {ops : Array Oper} {rest : List Oper} {o : Oper} {a : Act} {Q : Exit → Act → World → Prop} (hgd : o.guard = none) (s x : Operand)
    (ho : o.op = .call { callee := .builtin .append, args := #[s, x], argTypes := #[22, 22] })
    (B : Nat) (A : Option Addr) (n c : Nat) (xs : List Int) (ea : a.eval s = .slice A n c) (hn : n = xs.length) (hown : Own w B A c xs)
    (S : Option Addr) (m d : Nat) (ys : List Int) (ex : a.eval x = .slice S m d) (hm : m = ys.length) (hs : Src .u8 w S ys) (hpos : 0 < m) (hlen : n + m ≤ 1000000) (hB : B ≤ w.heap.size)
    (h : ∀ A' c' w', Own w' B A' c' (xs ++ ys) → GrewC w B 5 1 A (n + m) (cellsOf .u8 (xs ++ ys)) A' c' w' → wpList Try.prog ops Q rest (a.put o.dst (.slice A' (n + m) c')) w') : wpList Try.prog ops Q (o :: rest) a w := by
  subst hn
  refine wpList_append_cells elB rfl (by decide) (by decide) hgd s x ho B A xs.length c (cellsOf .u8 xs) ea hown S m d (cellsOf .u8 ys) ex (by rw [cellsOf_length, hm, Nat.mul_one]) (src_c hs) (cellsOf_one _ _) hpos hlen hB (fun A' c' w' g => ?_)
  rw [← cellsOf_append] at g
  exact h A' c' w' (c_own (by rw [List.length_append, hm]) g.own) g
end Els
end Go.Proofs.Ytnoofmdhhlcbkaa

namespace Go.Proofs.Ytnoofmdhhlcbkaa
open Go.RowKit
namespace Els

/-- All blocks but g are as they were; there may be more. -/
structure But (g : Nat) (w w' : World) : Prop where
  os : w'.os = w.os
  tape : w'.tape = w.tape
  output : w'.output = w.output
  size : w.heap.size ≤ w'.heap.size
  block : ∀ k, k < w.heap.size → k ≠ g → w'.heap[k]? = w.heap[k]?
section
variable {g : Nat} {a b c : World}
theorem But.refl (g : Nat) (w : World) : But g w w := ⟨rfl, rfl, rfl, Nat.le_refl _, fun _ _ _ => rfl⟩
theorem But.trans (h : But g a b) (k : But g b c) : But g a c :=
  ⟨k.os.trans h.os, k.tape.trans h.tape, k.output.trans h.output, Nat.le_trans h.size k.size, fun i hi h1 => (k.block i (Nat.lt_of_lt_of_le hi h.size) h1).trans (h.block i hi h1)⟩
theorem But.grow (h : Below a.heap.size a b) : But g a b := ⟨h.os, h.tape, h.output, h.size, fun i hi _ => h.block i hi⟩
theorem But.then (h : But g a b) (k : Below b.heap.size b c) : But g a c := h.trans (.grow k)
theorem But.below {B : Nat} (h : But g a b) (h1 : B ≤ g) (h2 : B ≤ a.heap.size) : Below B a b := ⟨h.os, h.tape, h.output, h.size, fun i hi => h.block i (by omega) (by omega)⟩
theorem But.set (j : Nat) (v : Value) : But g a (a.setCell ⟨g, j, none⟩ v) := ⟨rfl, rfl, rfl, by simp, fun i _ h1 => heap_setCell_other a ⟨g, j, none⟩ i v h1⟩
theorem But.drew (a : World) : But g a a.drew := .grow (Below.refl _ _).drew
theorem But.row {k : Nat} {t : TypeId} {cs : Array Value} (h : But g a b) (hr : Row a k t cs) (hk : k ≠ g) : Row b k t cs := (h.block k hr.lt hk).trans hr
theorem But.keepT {T U : TypeId} {cs : Array Value} (h : But g a b) (hr : Row a g T cs) (ht : U ≠ T) : KeepT U a b := KeepT.one h.size (fun k hk hne => h.block k hk hne) (InT.row hr) ht
theorem But.src {k : IntKind} {A : Option Addr} {xs : List Int} (h : But g a b) (hs : Src k a A xs) (hA : 0 < xs.length → ∀ x, A = some x → x.block ≠ g) : Src k b A xs := fun hn => by
  obtain ⟨j, o, rfl, hlt, hc⟩ := hs hn
  refine ⟨j, o, rfl, Nat.lt_of_lt_of_le hlt h.size, fun i hi => ?_⟩
  exact (World.cell?_of_block (a := ⟨j, o + i, none⟩) (h.block j hlt (hA hn _ rfl))).trans (hc i hi)
theorem But.cell {p : Addr} (h : But g a b) (hp : p.block < a.heap.size) (hne : p.block ≠ g) : b.cell? p = a.cell? p := World.cell?_of_block (h.block p.block hp hne)
end
end Els
end Go.Proofs.Ytnoofmdhhlcbkaa

namespace Go.Proofs.Ytnoofmdhhlcbkaa
open Go.RowKit
namespace Els

instance (B : Nat) : Turns (Below B) := ⟨Below.refl B, Below.trans⟩
section
variable {P : Program} {ops : Array Oper} {rest : List Oper} {o : Oper} {a : Act} {w : World} {R : World → World → Prop}
theorem wpQuiet_runR {K : Act → Prop} (hw : Region.wanted o (yielded ops a.tmps) = true) (v : Value) (hv : ∀ g : AboveR R w, (execOp a.eval o).run P g.1 = .ok (.value v) g.1) (h : wpQuiet P ops (ClR R w) K rest (a.put o.dst v)) : wpQuiet P ops (ClR R w) K (o :: rest) a := by
  unfold wpQuiet
  rw [if_pos hw]
  refine ⟨v, fun w' ⟨g, hg⟩ => ?_, h⟩
  subst hg
  unfold Oper.quietAt
  rw [hv g]
  exact ⟨rfl, rfl⟩
theorem exec_load_row {ρ : Operand → Value} {ty t : TypeId} {x : Operand} (ho : o.op = .load ty x) {g : Nat} (hx : ρ x = .pointer (some ⟨g, 0, none⟩)) {cs : Array Value} {d : TypeDesc} {w : World} (hr : Row w g t cs)
    (hu : P.underlying ty = some d) (hd : (match d with | .struct _ | .array _ _ => true | _ => false) = true) (hi : (P.info? ty).map (·.size) = some cs.size) : (execOp ρ o).run P w = .ok (.value (.agg cs)) w := by
  unfold execOp
  simp only [ho, hx, Instr.loadAt, Instr.sureAddr, Sem.run_bind, Sem.run_pure, Result.andThen_ok, run_loadVar_cells w g 0 ty cs d hr.cells hu hd hi]
end
set_option maxRecDepth 20000 in
theorem run_append_no (w : World) (ty : TypeId) (B : Nat) (A : Option Addr) (c : Nat) (xs : List Int) (hown : Own w B A c xs) (S : Option Addr) (d : Nat) :
    (Builtin.append_ #[22, 22] ty #[.slice A xs.length c, .slice S 0 d]).run Try.prog w = .ok (.slice A xs.length c) w := by
  obtain ⟨i0, hi, hz0, hz1, hz2⟩ := info_parts Try.info5
  have hnone : ∀ S : Option Addr, (Builtin.firstCells 1 0 (.slice S 0 d)).run Try.prog w = .ok #[] w := by
    intro S
    cases S <;> simp [Builtin.firstCells, loadCells, loadCellsFrom]
  rcases hown.2 with ⟨hv, h0⟩ | ⟨g, cap, cur, hv, _, _, hnc, _⟩
  · injection hv with h1 h2 h3
    subst h1; subst h3
    rw [h2]
    simp [Builtin.append_, run_underlying Try.underlying22, sizeOf, typeInfo, hi, hz1, Builtin.lenOf, hnone]
  · injection hv with h1 h2 h3
    subst h1; subst h3
    simp [Builtin.append_, run_underlying Try.underlying22, sizeOf, typeInfo, hi, hz1, Builtin.lenOf, hnone, hnc, storeCells]
theorem wp_append_q {w : World} {o : Oper} {a : Act} {Q : Exit → Act → World → Prop} {K : Act → World → Prop} (s x : Operand)
    (ho : o.op = .call { callee := .builtin .append, args := #[s, x], argTypes := #[22, 22] })
    (B : Nat) (A : Option Addr) (n c : Nat) (xs : List Int) (ea : a.eval s = .slice A n c) (hn : n = xs.length) (hown : Own w B A c xs)
    (S : Option Addr) (m d : Nat) (ys : List Int) (ex : a.eval x = .slice S m d) (hm : m = ys.length) (hs : Src .u8 w S ys) (hlen : n + m ≤ 1000000) (hB : B ≤ w.heap.size)
    (h : ∀ A' n' c' w', n' = (xs ++ ys).length → Own w' B A' c' (xs ++ ys) → Below B w w' → ButOf w w' A → w.heap.size ≤ w'.heap.size → K (a.put o.dst (.slice A' n' c')) w') : o.wp Try.prog a w K Q := by
  subst hn
  by_cases h0 : ys = []
  · subst h0
    have hm' : m = 0 := hm
    subst hm'
    have hr := run_append_no w o.type B A c xs hown S d
    unfold Oper.wp execOp
    simp only [ho, resolve, invoke, builtin, Sem.run_bind, Sem.run_pure, Result.andThen_ok, List.map_toArray, List.map_cons, List.map_nil, ea, ex, hr]
    exact h A _ c w (by rw [List.append_nil]) (by rw [List.append_nil]; exact hown) (Below.refl _ _) (fun _ _ _ => rfl) (Nat.le_refl _)
  · have hpos : 0 < m := by rw [hm]; exact List.length_pos_iff.2 h0
    refine wp_append_cells elB rfl (by decide) (by decide) s x ho B A xs.length c (cellsOf .u8 xs) ea hown S m d (cellsOf .u8 ys) ex (by rw [cellsOf_length, hm, Nat.mul_one]) (src_c hs) (cellsOf_one _ _) hpos hlen hB (fun A' c' w' g => ?_)
    rw [← cellsOf_append] at g
    exact h A' _ c' w' (by rw [List.length_append, hm]) (c_own (by rw [List.length_append, hm]) g.own) g.below g.but g.size
theorem run_made (w : World) : (Instr.buildSlice 22 0 #[]).run Try.prog w = .ok (.slice (some ⟨w.heap.size, 0, none⟩) 0 0) (w.alloc (.cells #[] 5)) := by
  obtain ⟨i0, hi, hz0, hz1, _⟩ := info_parts elB.info
  simp [Instr.buildSlice, run_underlying elB.slice, sizeOf, typeInfo, hi, newRow, Instr.fill]
  rw [show Array.range 0 = #[] by simp, Array.map_empty]
/-- An empty slice is made. -/
theorem wp_made {w : World} {o : Oper} {a : Act} {K : Act → World → Prop} {Q : Exit → Act → World → Prop} (ho : o.op = .buildSlice 22 0 #[]) (h : K (a.put o.dst (.slice (some ⟨w.heap.size, 0, none⟩) 0 0)) (w.alloc (.cells #[] 5))) : o.wp Try.prog a w K Q := by
  unfold Oper.wp execOp
  simp only [ho, Sem.run_bind, List.map_toArray, List.map_nil, run_made, Result.andThen_ok, Sem.run_pure]
  exact h
theorem ButOf.src {k : IntKind} {w w' : World} {A S : Option Addr} {xs : List Int} (h : ButOf w w' A) (hsz : w.heap.size ≤ w'.heap.size) (hs : Src k w S xs) (hne : 0 < xs.length → ∀ s, S = some s → ∀ a, A = some a → a.block ≠ s.block) : Src k w' S xs := fun hn => by
  obtain ⟨b, o, rfl, hlt, hc⟩ := hs hn
  refine ⟨b, o, rfl, Nat.lt_of_lt_of_le hlt hsz, fun i hi => ?_⟩
  exact (World.cell?_of_block (a := ⟨b, o + i, none⟩) (h b hlt (hne hn _ rfl))).trans (hc i hi)
end Els
end Go.Proofs.Ytnoofmdhhlcbkaa

/- Slices of elements of k cells each, in memory: one that reads as a list of cells, one of the call's own, append of one onto the other; typed blocks. Of whatever types. No conditions but those that stand in each lemma. -/
import Derived.Test.YtejcpfplmlpilaaBase
import Derived.Deep.AppendLies
namespace Go.Proofs.Ytejcpfplmlpilaa
open Go.RowKit
namespace Els

theorem add_addr (b o i : Nat) : (⟨b, o, none⟩ : Addr).add i = ⟨b, o + i, none⟩ := by unfold Addr.add; split <;> simp_all
/-- The slice with address A holds these cells. -/
def CSrc (w : World) (A : Option Addr) (cs : List Value) : Prop := 0 < cs.length → ∃ b o, A = some ⟨b, o, none⟩ ∧ b < w.heap.size ∧ ∀ j u, cs[j]? = some u → w.cell? ⟨b, o + j, none⟩ = some u
/-- .. and is the call's own, from block B on: n elements of type T, of k cells each. -/
def COwn (w : World) (B : Nat) (T : TypeId) (k : Nat) (A : Option Addr) (c n : Nat) (cs : List Value) : Prop := w.ownsRow B T k (.slice A n c) n cs
section
variable {w w' : World} {A : Option Addr} {cs : List Value} {B : Nat} {T : TypeId} {k c n : Nat}
theorem CSrc.none_ : CSrc w A [] := fun h => absurd h (by simp)
theorem CSrc.keep (h : CSrc w A cs) (hb : Below w.heap.size w w') : CSrc w' A cs := fun hn => by
  obtain ⟨b, o, hA, hlt, hc⟩ := h hn
  exact ⟨b, o, hA, Nat.lt_of_lt_of_le hlt hb.size, fun j u hu => (hb.cell (p := ⟨b, o + j, none⟩) hlt).trans (hc j u hu)⟩
theorem CSrc.take (h : CSrc w A cs) (j : Nat) : CSrc w A (cs.take j) := fun hn => by
  obtain ⟨b, o, hA, hlt, hc⟩ := h (by rw [List.length_take] at hn; omega)
  refine ⟨b, o, hA, hlt, fun i u hu => hc i u ?_⟩
  rw [List.getElem?_take] at hu
  split at hu
  · exact hu
  · cases hu
theorem COwn.src (h : COwn w B T k A c n cs) (hn : 0 < n) : CSrc w A cs := fun _ => by
  obtain ⟨g, cap, hv, _, hlt⟩ := World.ownsRow.form h hn
  have hA : A = some ⟨g, 0, none⟩ := by injection hv
  subst hA
  refine ⟨g, 0, rfl, hlt, fun j u hu => ?_⟩
  rw [← add_addr]
  exact World.ownsRow.cells h (g := g) rfl _ _ hu
theorem COwn.keep (h : COwn w B T k A c n cs) (hb : Below w.heap.size w w') : COwn w' B T k A c n cs := by
  refine World.ownsRow.kept (row := none) h ⟨hb.os, hb.tape, hb.output, hb.size, fun i hi _ => hb.block i hi⟩ ?_
  cases Value.ownBlock (.slice A n c) <;> simp
theorem COwn.more {B' : Nat} (h : COwn w B T k A c n cs) (hB : B' ≤ B) : COwn w B' T k A c n cs := by
  refine ⟨h.1, ?_⟩
  rcases h.2 with h2 | ⟨g, cap, cur, hv, hg, r⟩
  · exact .inl h2
  · exact .inr ⟨g, cap, cur, hv, by omega, r⟩
theorem COwn.cap (h : COwn w B T k A c n cs) : n ≤ c ∧ c ≤ maxLen := by
  rcases h.2 with ⟨hv, h0⟩ | ⟨g, cap, cur, hv, _, _, h1, h2, _⟩
  · injection hv with _ _ hc; exact ⟨by omega, by unfold maxLen; omega⟩
  · injection hv with _ _ hc; subst hc; exact ⟨h1, h2⟩
theorem COwn.row (h : COwn w B T k A c n cs) (i : Nat) (hi : (Value.slice A n c).ownBlock = some i) : B ≤ i := (World.ownsRow.lt h i hi).1
theorem COwn.ltBlock (h : COwn w B T k A c n cs) : ∀ a, A = some a → a.block < w.heap.size := fun a ha => by
  subst ha
  exact (World.ownsRow.lt h a.block rfl).2
theorem COwn.cells (h : COwn w B T k A c n cs) : cs.length = n * k := h.1
end
/-- What the laws ask of a type of elements, and of its slices: k cells, 'by_' bytes. -/
structure ElTypes (P : Program) (ST T : TypeId) (z : Value) (k by_ : Nat) : Prop where
  slice : P.underlying ST = some (.slice T)
  info : (P.info? T).map (fun i => (i.zero, i.size, i.bytes)) = some (some z, k, by_)
/-- All blocks but that of the slice with address A are as they were. -/
def ButOf (w w' : World) (A : Option Addr) : Prop := ∀ k, k < w.heap.size → (∀ a, A = some a → a.block ≠ k) → w'.heap[k]? = w.heap[k]?
theorem Row.butOf {w w' : World} {A : Option Addr} {g : Nat} {t : TypeId} {cs : Array Value} (h : Row w g t cs) (hk : ButOf w w' A) (hne : ∀ a, A = some a → a.block < g) : Row w' g t cs :=
  (hk g h.lt (fun a ha => Nat.ne_of_lt (hne a ha))).trans h
/-- A slice of the call's own has grown: it has these cells now, in its old block or in a new one; no other block has turned. -/
structure GrewC (w : World) (B : Nat) (T : TypeId) (k : Nat) (A : Option Addr) (n : Nat) (cs : List Value) (A' : Option Addr) (c' : Nat) (w' : World) : Prop where
  own : COwn w' B T k A' c' n cs
  below : Below B w w'
  but : ButOf w w' A
  size : w.heap.size ≤ w'.heap.size
  place : ∀ a', A' = some a' → (∃ a, A = some a ∧ a.block = a'.block) ∨ a'.block = w.heap.size
section
variable {P : Program} {ST T : TypeId} {z : Value} {k by_ : Nat}
set_option maxRecDepth 20000 in
theorem run_append_cells (hP : ElTypes P ST T z k by_) (hz : z.cells.size = k) (hk : 0 < k) (hby : by_ ≤ 1000) (w : World) (ty : TypeId) (B : Nat) (A : Option Addr) (c n : Nat) (cs : List Value) (hown : COwn w B T k A c n cs)
    (S : Option Addr) (d m : Nat) (ds : List Value) (hm : ds.length = m * k) (hs : CSrc w S ds) (h1 : ∀ u ∈ ds, u.oneCell' = true) (hpos : 0 < m) (hlen : n + m ≤ 1000000) (hB : B ≤ w.heap.size) :
    ∃ A' c' w', (Builtin.append_ #[ST, ST] ty #[.slice A n c, .slice S m d]).run P w = .ok (.slice A' (n + m) c') w' ∧ GrewC w B T k A (n + m) (cs ++ ds) A' c' w' := by
  obtain ⟨i0, hi, hz0, hz1, hz2⟩ := info_parts hP.info
  have hu := hP.slice
  obtain ⟨b, o, rfl, hlt, hc⟩ := hs (by rw [hm]; exact Nat.mul_pos hpos hk)
  obtain ⟨v', w', hrun, h2, h3, _, h5⟩ := run_append_own_at (P := P) w B ST ty T i0 z k by_ hu hi hz0 hz1 hz2 hz hk _ _ _ hown ⟨b, o, none⟩ m d ds hm
    (fun j u hu => by rw [add_addr]; exact hc j u hu) h1 (by unfold maxLen; omega) (by
      have : (n + m) * by_ ≤ 1000000 * 1000 := Nat.mul_le_mul hlen hby
      omega) hB
  obtain ⟨g, cap, hv, _, _⟩ := World.ownsRow.form h2 (by omega)
  subst hv
  refine ⟨_, _, w', hrun, ⟨h2, (Below.refl B w).grown h3 hB (fun k hk => hown.row k hk), fun k hk hne => h3.block k hk ?_, h3.size, fun a' ha' => ?_⟩⟩
  · intro e
    cases hA : A with
    | none => rw [hA] at e; cases e
    | some a =>
      rw [hA] at e
      have : a.block = k := by simpa [Value.ownBlock] using e.symm
      exact hne a hA this
  · injection ha' with ha'
    subst ha'
    rcases h5 with h5 | h5
    · left
      cases hA : A with
      | none => rw [hA] at h5; cases h5
      | some a =>
        rw [hA] at h5
        exact ⟨a, rfl, by simpa [Value.ownBlock] using h5.symm⟩
    · right
      simpa [Value.ownBlock] using h5
theorem wpList_append_cells (hP : ElTypes P ST T z k by_) (hz : z.cells.size = k) (hk : 0 < k) (hby : by_ ≤ 1000) {w : World} {ops : Array Oper} {rest : List Oper} {o : Oper} {a : Act} {Q : Exit → Act → World → Prop} (hgd : o.guard = none) (s x : Operand)
    (ho : o.op = .call { callee := .builtin .append, args := #[s, x], argTypes := #[ST, ST] })
    (B : Nat) (A : Option Addr) (n c : Nat) (cs : List Value) (ea : a.eval s = .slice A n c) (hown : COwn w B T k A c n cs)
    (S : Option Addr) (m d : Nat) (ds : List Value) (ex : a.eval x = .slice S m d) (hm : ds.length = m * k) (hs : CSrc w S ds) (h1 : ∀ u ∈ ds, u.oneCell' = true) (hpos : 0 < m) (hlen : n + m ≤ 1000000) (hB : B ≤ w.heap.size)
    (h : ∀ A' c' w', GrewC w B T k A (n + m) (cs ++ ds) A' c' w' → wpList P ops Q rest (a.put o.dst (.slice A' (n + m) c')) w') : wpList P ops Q (o :: rest) a w := by
  refine wpList_plain hgd fun K hK => ?_
  obtain ⟨A', c', w', hr, hg⟩ := run_append_cells hP hz hk hby w o.type B A c n cs hown S d m ds hm hs h1 hpos hlen hB
  unfold Oper.wp execOp
  simp only [ho, resolve, invoke, builtin, Sem.run_bind, Sem.run_pure, Result.andThen_ok, List.map_toArray, List.map_cons, List.map_nil, ea, ex, hr]
  exact hK _ _ (h A' c' w' hg)
theorem wp_append_cells (hP : ElTypes P ST T z k by_) (hz : z.cells.size = k) (hk : 0 < k) (hby : by_ ≤ 1000) {w : World} {o : Oper} {a : Act} {Q : Exit → Act → World → Prop} {K : Act → World → Prop} (s x : Operand)
    (ho : o.op = .call { callee := .builtin .append, args := #[s, x], argTypes := #[ST, ST] })
    (B : Nat) (A : Option Addr) (n c : Nat) (cs : List Value) (ea : a.eval s = .slice A n c) (hown : COwn w B T k A c n cs)
    (S : Option Addr) (m d : Nat) (ds : List Value) (ex : a.eval x = .slice S m d) (hm : ds.length = m * k) (hs : CSrc w S ds) (h1 : ∀ u ∈ ds, u.oneCell' = true) (hpos : 0 < m) (hlen : n + m ≤ 1000000) (hB : B ≤ w.heap.size)
    (h : ∀ A' c' w', GrewC w B T k A (n + m) (cs ++ ds) A' c' w' → K (a.put o.dst (.slice A' (n + m) c')) w') : o.wp P a w K Q := by
  obtain ⟨A', c', w', hr, hg⟩ := run_append_cells hP hz hk hby w o.type B A c n cs hown S d m ds hm hs h1 hpos hlen hB
  unfold Oper.wp execOp
  simp only [ho, resolve, invoke, builtin, Sem.run_bind, Sem.run_pure, Result.andThen_ok, List.map_toArray, List.map_cons, List.map_nil, ea, ex, hr]
  exact h A' c' w' hg
end
theorem cown_made (w : World) (B : Nat) (T : TypeId) (k : Nat) (hB : B ≤ w.heap.size) : COwn (w.alloc (.cells #[] T)) B T k (some ⟨w.heap.size, 0, none⟩) 0 0 [] :=
  World.ownsRow_made w #[] 0 hB (by unfold maxLen; omega) (by simp)
theorem cown_nil (w : World) (B : Nat) (T : TypeId) (k : Nat) : COwn w B T k none 0 0 [] := World.ownsRow_nil w B T k

/-- One cell, or a block's cells, as what is laid onto a slice. -/
theorem csrc_one {w : World} {g o : Nat} {v : Value} (h : w.cell? ⟨g, o, none⟩ = some v) (hg : g < w.heap.size) : CSrc w (some ⟨g, o, none⟩) [v] := fun _ => ⟨g, o, rfl, hg, fun j u hu => by
  cases j with
  | zero => simp only [List.getElem?_cons_zero, Option.some.injEq] at hu; rw [← hu]; exact h
  | succ j => simp at hu⟩
theorem csrc_row {w : World} {g : Nat} {T : TypeId} {cs : Array Value} (h : Row w g T cs) : CSrc w (some ⟨g, 0, none⟩) cs.toList := fun _ => ⟨g, 0, rfl, h.lt, fun j u hu => by
  rw [Nat.zero_add]
  exact h.cell (by rw [Array.getElem?_toList] at hu; exact hu)⟩
/-- Block b is one of cells of type T. -/
def InT (w : World) (T : TypeId) (b : Nat) : Prop := ∃ cs mk, w.heap[b]? = some (.cells cs T mk)
theorem InT.ne {w : World} {T U : TypeId} {b g : Nat} (h : InT w T b) (hg : InT w U g) (ht : T ≠ U) : b ≠ g := fun e => by
  subst e
  obtain ⟨cs, mk, h1⟩ := h
  obtain ⟨ds, mk2, h2⟩ := hg
  rw [h1] at h2
  injection h2 with h2
  injection h2 with _ h2 _
  exact ht h2
theorem InT.lt {w : World} {T : TypeId} {b : Nat} (h : InT w T b) : b < w.heap.size := by
  obtain ⟨cs, mk, h1⟩ := h
  rcases Nat.lt_or_ge b w.heap.size with h' | h'
  · exact h'
  · rw [Array.getElem?_eq_none h'] at h1; cases h1
theorem InT.row {w : World} {T : TypeId} {g : Nat} {cs : Array Value} (h : Row w g T cs) : InT w T g := ⟨cs, (0, 0), h⟩
theorem InT.own {w : World} {B : Nat} {T : TypeId} {k c n : Nat} {A : Option Addr} {cs : List Value} (h : COwn w B T k A c n cs) : ∀ a, A = some a → InT w T a.block := fun a ha => by
  rcases h.2 with ⟨hv, _⟩ | ⟨g, cap, cur, hv, _, hg, _⟩
  · injection hv with hA; rw [hA] at ha; cases ha
  · injection hv with hA; rw [hA] at ha; injection ha with ha; subst ha; exact ⟨cur, (0, 0), hg⟩
/-- All blocks of cells of type U are as they were. -/
structure KeepT (U : TypeId) (w w' : World) : Prop where
  size : w.heap.size ≤ w'.heap.size
  block : ∀ b, InT w U b → w'.heap[b]? = w.heap[b]?
theorem KeepT.refl (U : TypeId) (w : World) : KeepT U w w := ⟨Nat.le_refl _, fun _ _ => rfl⟩
theorem KeepT.inT {U : TypeId} {w w' : World} (h : KeepT U w w') {b : Nat} (hb : InT w U b) : InT w' U b := by
  have := h.block b hb
  obtain ⟨cs, mk, e⟩ := hb
  exact ⟨cs, mk, this.trans e⟩
theorem KeepT.trans {U : TypeId} {w w' w'' : World} (h : KeepT U w w') (k : KeepT U w' w'') : KeepT U w w'' := ⟨Nat.le_trans h.size k.size, fun b hb => (k.block b (h.inT hb)).trans (h.block b hb)⟩
theorem KeepT.below {U : TypeId} {w w' : World} (h : Below w.heap.size w w') : KeepT U w w' := ⟨h.size, fun b hb => h.block b hb.lt⟩
/-- A block of another type has turned. -/
theorem KeepT.one {U T : TypeId} {w w' : World} {g : Nat} (hs : w.heap.size ≤ w'.heap.size) (hb : ∀ b, b < w.heap.size → b ≠ g → w'.heap[b]? = w.heap[b]?) (hg : InT w T g) (ht : U ≠ T) : KeepT U w w' := ⟨hs, fun b h => hb b h.lt (h.ne hg ht)⟩
/-- A slice of another type has grown. -/
theorem GrewC.keepT {U T : TypeId} {w w' : World} {B k n c c' n' : Nat} {A A' : Option Addr} {cs cs' : List Value} (h : GrewC w B T k A n' cs' A' c' w') (ho : COwn w B T k A c n cs) (ht : U ≠ T) : KeepT U w w' := ⟨h.size, fun b hb => h.but b hb.lt fun a ha => ((hb.ne (InT.own ho a ha) ht).symm)⟩
/-- A slice of the call's own whose block is as it was. -/
theorem COwn.same {w w' : World} {A : Option Addr} {cs : List Value} {B : Nat} {T : TypeId} {k c n : Nat} (h : COwn w B T k A c n cs) (hb : ∀ a, A = some a → w'.heap[a.block]? = w.heap[a.block]?) : COwn w' B T k A c n cs := by
  refine ⟨h.1, ?_⟩
  rcases h.2 with h2 | ⟨g, cap, cur, hv, hB, hg, r⟩
  · exact .inl h2
  · refine .inr ⟨g, cap, cur, hv, hB, ?_, r⟩
    injection hv with hA
    exact (hb ⟨g, 0, none⟩ hA).trans hg
theorem COwn.keepT {w w' : World} {A : Option Addr} {cs : List Value} {B : Nat} {T : TypeId} {k c n : Nat} (h : COwn w B T k A c n cs) (hk : KeepT T w w') : COwn w' B T k A c n cs := h.same fun a ha => hk.block _ (InT.own h a ha)
/-- No block of one lies in the other's. -/
def Apart (A A' : Option Addr) : Prop := ∀ a a', A = some a → A' = some a' → a.block ≠ a'.block
theorem Apart.symm {A A' : Option Addr} (h : Apart A A') : Apart A' A := fun a a' h1 h2 e => h a' a h2 h1 e.symm
theorem Apart.none_ (A : Option Addr) : Apart none A := fun _ _ h _ _ => by cases h
/-- What is apart from a slice stays as it was when that grows, and apart from it. -/
theorem GrewC.apart {w w' : World} {B : Nat} {T U : TypeId} {k j n' c' n c : Nat} {A A' S : Option Addr} {cs cs' : List Value} (h : GrewC w B T k A n' cs' A' c' w') (ho : COwn w B U j S c n cs) (ha : Apart A S) : COwn w' B U j S c n cs ∧ Apart A' S := by
  refine ⟨ho.same fun a e => h.but _ (InT.own ho a e).lt fun a0 e0 => ha a0 a e0 e, fun a' s h1 h2 e => ?_⟩
  rcases h.place a' h1 with ⟨a, e1, e2⟩ | e1
  · exact ha a s e1 h2 (e2.trans e)
  · have := (InT.own ho s h2).lt
    omega
end Els
end Go.Proofs.Ytejcpfplmlpilaa

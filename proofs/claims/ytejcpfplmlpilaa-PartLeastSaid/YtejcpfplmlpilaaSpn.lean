/- Words for slices of spans (structs of two numbers) in memory: a slice that reads as a list of spans, a row of the call's own, append of one onto the other. Of whatever slice and element type. No conditions but those that stand in each lemma. -/
import Derived.Test.YtejcpfplmlpilaaBase
import Derived.Deep.AppendLies
namespace Go.Proofs.Ytejcpfplmlpilaa
open Go.RowKit

theorem ret_bool {a b : Bool} (h : a = b) : Ending.returned (.bool a) = .returned (.bool b) := by rw [h]
theorem ret_i64 {a b : Int} (h : a = b) : Ending.returned (.int .i64 a) = .returned (.int .i64 b) := by rw [h]
/-- A span: its first number, and the one behind its last. -/
abbrev Sp := Int × Int
def spZ : Sp := (0, 0)
/-- Each number is one of 64 bits. -/
def spOk (s : Sp) : Prop := (Lit.int .i64 s.1).wf = true ∧ (Lit.int .i64 s.2).wf = true
/-- A span as a value. -/
def spV (s : Sp) : Value := .agg #[.int .i64 s.1, .int .i64 s.2]
/-- Spans as cells. -/
def spCells (l : List Sp) : List Value := l.flatMap fun s => [.int .i64 s.1, .int .i64 s.2]
theorem spCells_length (l : List Sp) : (spCells l).length = l.length * 2 := by
  induction l with
  | nil => rfl
  | cons s l ih =>
    have : spCells (s :: l) = .int .i64 s.1 :: .int .i64 s.2 :: spCells l := rfl
    rw [this, List.length_cons, List.length_cons, List.length_cons, ih]
    omega
theorem spCells_append (l m : List Sp) : spCells (l ++ m) = spCells l ++ spCells m := by simp [spCells, List.flatMap_append]
theorem spCells_fst : ∀ (l : List Sp) (j : Nat), j < l.length → (spCells l)[j * 2]? = some (.int .i64 (l.getD j spZ).1)
  | [], j, h => absurd h (by simp)
  | s :: l, 0, _ => rfl
  | s :: l, j + 1, h => by
    have e : spCells (s :: l) = .int .i64 s.1 :: .int .i64 s.2 :: spCells l := rfl
    have := spCells_fst l j (by simpa using h)
    rw [e, show (j + 1) * 2 = j * 2 + 1 + 1 by omega, List.getElem?_cons_succ, List.getElem?_cons_succ, this]
    rfl
theorem spCells_snd : ∀ (l : List Sp) (j : Nat), j < l.length → (spCells l)[j * 2 + 1]? = some (.int .i64 (l.getD j spZ).2)
  | [], j, h => absurd h (by simp)
  | s :: l, 0, _ => rfl
  | s :: l, j + 1, h => by
    have e : spCells (s :: l) = .int .i64 s.1 :: .int .i64 s.2 :: spCells l := rfl
    have := spCells_snd l j (by simpa using h)
    rw [e, show (j + 1) * 2 + 1 = j * 2 + 1 + 1 + 1 by omega, List.getElem?_cons_succ, List.getElem?_cons_succ, this]
    rfl
theorem spCells_inv (l : List Sp) (j : Nat) (u : Value) (h : (spCells l)[j]? = some u) : ∃ i, i < l.length ∧ ((j = i * 2 ∧ u = .int .i64 (l.getD i spZ).1) ∨ (j = i * 2 + 1 ∧ u = .int .i64 (l.getD i spZ).2)) := by
  have hj : j < l.length * 2 := by
    rw [← spCells_length]
    rcases Nat.lt_or_ge j (spCells l).length with h' | h'
    · exact h'
    · rw [List.getElem?_eq_none h'] at h; cases h
  refine ⟨j / 2, by omega, ?_⟩
  rcases Nat.mod_two_eq_zero_or_one j with hm | hm
  · have e : j = j / 2 * 2 := by omega
    have := spCells_fst l (j / 2) (by omega)
    rw [← e, h] at this
    exact .inl ⟨e, by injection this⟩
  · have e : j = j / 2 * 2 + 1 := by omega
    have := spCells_snd l (j / 2) (by omega)
    rw [← e, h] at this
    exact .inr ⟨e, by injection this⟩
theorem spCells_one (l : List Sp) : ∀ u ∈ spCells l, u.oneCell' = true := by
  intro u hu
  obtain ⟨s, _, hs⟩ := List.mem_flatMap.1 hu
  rcases List.mem_cons.1 hs with rfl | hs
  · rfl
  · obtain rfl := List.mem_singleton.1 hs
    rfl

/-- The slice with address A holds the spans l; where there are none, nothing is said of A. -/
def SpSrc (w : World) (A : Option Addr) (l : List Sp) : Prop :=
  0 < l.length → ∃ b o, A = some ⟨b, o, none⟩ ∧ b < w.heap.size ∧ ∀ i, i < l.length → w.cell? ⟨b, o + i * 2, none⟩ = some (.int .i64 (l.getD i spZ).1) ∧ w.cell? ⟨b, o + i * 2 + 1, none⟩ = some (.int .i64 (l.getD i spZ).2)
/-- A slice of the call's own (its elements of type T), from block B on, that holds the spans l. -/
def SpOwn (w : World) (B : Nat) (T : TypeId) (A : Option Addr) (c : Nat) (l : List Sp) : Prop := w.ownsRow B T 2 (.slice A l.length c) l.length (spCells l)

theorem add_addr (b o i : Nat) : (⟨b, o, none⟩ : Addr).add i = ⟨b, o + i, none⟩ := by unfold Addr.add; split <;> simp_all

section
variable {w w' : World} {A : Option Addr} {l : List Sp} {T : TypeId}
theorem SpSrc.none_ : SpSrc w A [] := fun h => absurd h (by simp)
theorem SpSrc.keep (h : SpSrc w A l) (hb : Below w.heap.size w w') : SpSrc w' A l := fun hn => by
  obtain ⟨b, o, rfl, hlt, hc⟩ := h hn
  exact ⟨b, o, rfl, by have := hb.size; omega, fun i hi => ⟨(hb.cell (p := ⟨b, o + i * 2, none⟩) hlt).trans (hc i hi).1, (hb.cell (p := ⟨b, o + i * 2 + 1, none⟩) hlt).trans (hc i hi).2⟩⟩
theorem SpSrc.take (h : SpSrc w A l) (j : Nat) : SpSrc w A (l.take j) := fun hn => by
  obtain ⟨b, o, rfl, hlt, hc⟩ := h (by rw [List.length_take] at hn; omega)
  refine ⟨b, o, rfl, hlt, fun i hi => ?_⟩
  rw [List.length_take] at hi
  have e : (l.take j).getD i spZ = l.getD i spZ := by rw [List.getD_eq_getElem?_getD, List.getD_eq_getElem?_getD, List.getElem?_take, if_pos (by omega)]
  rw [e]
  exact hc i (by omega)
theorem SpSrc.drop (h : SpSrc w A l) (j c : Nat) (hj : j ≤ l.length) (hc : l.length ≤ c) : SpSrc w (if c = j then A else A.map (·.add (j * 2))) (l.drop j) := fun hn => by
  rw [List.length_drop] at hn
  obtain ⟨b, o, rfl, hlt, hcell⟩ := h (by omega)
  rw [if_neg (by omega)]
  refine ⟨b, o + j * 2, by simp [add_addr], hlt, fun i hi => ?_⟩
  rw [List.length_drop] at hi
  have e : (l.drop j).getD i spZ = l.getD (j + i) spZ := by rw [List.getD_eq_getElem?_getD, List.getD_eq_getElem?_getD, List.getElem?_drop]
  rw [e, show o + j * 2 + i * 2 = o + (j + i) * 2 by omega]
  exact hcell (j + i) (by omega)
theorem SpOwn.src {B c : Nat} (h : SpOwn w B T A c l) : SpSrc w A l := fun hn => by
  obtain ⟨g, cap, hv, _, hlt⟩ := World.ownsRow.form h hn
  have hA : A = some ⟨g, 0, none⟩ := by injection hv
  subst hA
  refine ⟨g, 0, rfl, hlt, fun i hi => ⟨?_, ?_⟩⟩
  · rw [← add_addr]
    exact World.ownsRow.cells h (g := g) rfl _ _ (spCells_fst l i hi)
  · rw [Nat.add_assoc, ← add_addr]
    exact World.ownsRow.cells h (g := g) rfl _ _ (spCells_snd l i hi)
theorem SpOwn.keep {B c : Nat} (h : SpOwn w B T A c l) (hb : Below w.heap.size w w') : SpOwn w' B T A c l := by
  refine World.ownsRow.kept (row := none) h ⟨hb.os, hb.tape, hb.output, hb.size, fun i hi _ => hb.block i hi⟩ ?_
  cases Value.ownBlock (.slice A l.length c) <;> simp
theorem SpOwn.more {B B' c : Nat} (h : SpOwn w B T A c l) (hB : B' ≤ B) : SpOwn w B' T A c l := by
  refine ⟨h.1, ?_⟩
  rcases h.2 with h2 | ⟨g, cap, cur, hv, hg, r⟩
  · exact .inl h2
  · exact .inr ⟨g, cap, cur, hv, by omega, r⟩
theorem SpOwn.cap {B c : Nat} (h : SpOwn w B T A c l) : l.length ≤ c ∧ c ≤ maxLen := by
  rcases h.2 with ⟨hv, h0⟩ | ⟨g, cap, cur, hv, _, _, h1, h2, _⟩
  · injection hv with _ _ hc; exact ⟨by omega, by unfold maxLen; omega⟩
  · injection hv with _ _ hc; subst hc; exact ⟨h1, h2⟩
theorem SpOwn.row {B c : Nat} (h : SpOwn w B T A c l) (i : Nat) (hi : (Value.slice A l.length c).ownBlock = some i) : B ≤ i := (World.ownsRow.lt h i hi).1
end

/-- A slice of the call's own with the spans l, from block B on; below B nothing has turned. -/
def GrewS (w : World) (B : Nat) (T : TypeId) (l : List Sp) (v : Value) (w' : World) : Prop :=
  ∃ A n c, v = .slice A n c ∧ n = l.length ∧ SpOwn w' B T A c l ∧ Below B w w'
/-- What a function answers that makes a slice of its own. -/
def GivesS (w : World) (T : TypeId) (l : List Sp) (e : Ending) (w' : World) : Prop := ∃ v, e = .returned v ∧ GrewS w w.heap.size T l v w'

/-- What the laws ask of a type of spans, and of its slices. -/
structure SpTypes (P : Program) (ST T : TypeId) : Prop where
  slice : P.underlying ST = some (.slice T)
  info : (P.info? T).map (fun i => (i.zero, i.size, i.bytes)) = some (some (.agg #[.int .i64 0, .int .i64 0]), 2, 16)

/-- All blocks but that of the slice with address A are as they were. -/
def KeptBut (w w' : World) (A : Option Addr) : Prop := ∀ k, k < w.heap.size → (∀ a, A = some a → a.block ≠ k) → w'.heap[k]? = w.heap[k]?
theorem Row.keptBut {w w' : World} {A : Option Addr} {g : Nat} {t : TypeId} {cs : Array Value} (h : Row w g t cs) (hk : KeptBut w w' A) (hne : ∀ a, A = some a → a.block < g) : Row w' g t cs :=
  (hk g h.lt (fun a ha => Nat.ne_of_lt (hne a ha))).trans h
theorem SpOwn.ltBlock {w : World} {B : Nat} {T : TypeId} {A : Option Addr} {c : Nat} {l : List Sp} (h : SpOwn w B T A c l) : ∀ a, A = some a → a.block < w.heap.size := fun a ha => by
  subst ha
  exact (World.ownsRow.lt h a.block rfl).2

section
variable {P : Program} {ST T : TypeId}
set_option maxRecDepth 20000 in
theorem run_append_spK (hP : SpTypes P ST T) (w : World) (ty : TypeId) (B : Nat) (A : Option Addr) (c : Nat) (l : List Sp) (hown : SpOwn w B T A c l)
    (S : Option Addr) (d : Nat) (m : List Sp) (hs : SpSrc w S m) (hlen : l.length + m.length ≤ 1000000) (hB : B ≤ w.heap.size) :
    ∃ v' w', (Builtin.append_ #[ST, ST] ty #[.slice A l.length c, .slice S m.length d]).run P w = .ok v' w' ∧ GrewS w B T (l ++ m) v' w' ∧ KeptBut w w' A := by
  obtain ⟨i0, hi, hz0, hz1, hz2⟩ := info_parts hP.info
  have hu := hP.slice
  by_cases hy : m = []
  · subst hy
    have hnone : ∀ S : Option Addr, (Builtin.firstCells 2 0 (.slice S 0 d)).run P w = .ok #[] w := by
      intro S
      cases S <;> simp [Builtin.firstCells, loadCells, loadCellsFrom]
    refine ⟨.slice A l.length c, w, ?_, ⟨A, _, c, rfl, by simp, by simpa using hown, Below.refl _ _⟩, fun _ _ _ => rfl⟩
    rcases hown.2 with ⟨hv, h0⟩ | ⟨g, cap, cur, hv, _, _, hnc, _⟩
    · injection hv with h1 h2 h3
      subst h1; subst h3
      rw [h2]
      simp [Builtin.append_, run_underlying hu, sizeOf, typeInfo, hi, hz1, Builtin.lenOf, hnone]
    · injection hv with h1 h2 h3
      subst h1; subst h3
      simp [Builtin.append_, run_underlying hu, sizeOf, typeInfo, hi, hz1, Builtin.lenOf, hnone, hnc, storeCells]
  · have hpos : 0 < m.length := List.length_pos_iff.2 hy
    obtain ⟨b, o, rfl, hlt, hc⟩ := hs hpos
    obtain ⟨v', w', hrun, h2, h3, _, _⟩ := run_append_own_at (P := P) w B ST ty T i0 (.agg #[.int .i64 0, .int .i64 0]) 2 16 hu hi hz0 hz1 hz2 rfl (by decide) _ _ _ hown ⟨b, o, none⟩ m.length d (spCells m) (by rw [spCells_length])
      (fun j u hu => by
        obtain ⟨i, hi, ⟨rfl, rfl⟩ | ⟨rfl, rfl⟩⟩ := spCells_inv _ _ _ hu
        · rw [add_addr]; exact (hc i hi).1
        · rw [add_addr, ← Nat.add_assoc]; exact (hc i hi).2)
      (spCells_one _) (by unfold maxLen; omega) (by omega) hB
    obtain ⟨g, cap, hv, _, _⟩ := World.ownsRow.form h2 (by omega)
    subst hv
    refine ⟨_, w', hrun, ⟨some ⟨g, 0, none⟩, _, cap, rfl, by simp, ?_, (Below.refl B w).grown h3 hB (fun k hk => hown.row k hk)⟩, fun k hk hne => h3.block k hk ?_⟩
    · unfold SpOwn
      rw [spCells_append, List.length_append]
      exact h2
    · intro e
      cases hA : A with
      | none => rw [hA] at e; cases e
      | some a =>
        rw [hA] at e
        have : a.block = k := by simpa [Value.ownBlock] using e.symm
        exact hne a hA this
theorem run_append_sp (hP : SpTypes P ST T) (w : World) (ty : TypeId) (B : Nat) (A : Option Addr) (c : Nat) (l : List Sp) (hown : SpOwn w B T A c l)
    (S : Option Addr) (d : Nat) (m : List Sp) (hs : SpSrc w S m) (hlen : l.length + m.length ≤ 1000000) (hB : B ≤ w.heap.size) :
    ∃ v' w', (Builtin.append_ #[ST, ST] ty #[.slice A l.length c, .slice S m.length d]).run P w = .ok v' w' ∧ GrewS w B T (l ++ m) v' w' := by
  obtain ⟨v', w', h1, h2, _⟩ := run_append_spK hP w ty B A c l hown S d m hs hlen hB
  exact ⟨v', w', h1, h2⟩

theorem wpList_append_spK (hP : SpTypes P ST T) {w : World} {ops : Array Oper} {rest : List Oper} {o : Oper} {a : Act} {Q : Exit → Act → World → Prop} (hgd : o.guard = none) (s x : Operand)
    (ho : o.op = .call { callee := .builtin .append, args := #[s, x], argTypes := #[ST, ST] })
    (B : Nat) (A : Option Addr) (n c : Nat) (l : List Sp) (ea : a.eval s = .slice A n c) (hn : n = l.length) (hown : SpOwn w B T A c l)
    (S : Option Addr) (k d : Nat) (m : List Sp) (ex : a.eval x = .slice S k d) (hm : k = m.length) (hs : SpSrc w S m) (hlen : n + k ≤ 1000000) (hB : B ≤ w.heap.size)
    (h : ∀ v' w', GrewS w B T (l ++ m) v' w' → KeptBut w w' A → wpList P ops Q rest (a.put o.dst v') w') : wpList P ops Q (o :: rest) a w := by
  subst hn; subst hm
  refine wpList_plain hgd fun K hK => ?_
  obtain ⟨v', w', hr, hg, hk⟩ := run_append_spK hP w o.type B A c l hown S d m hs hlen hB
  unfold Oper.wp execOp
  simp only [ho, resolve, invoke, builtin, Sem.run_bind, Sem.run_pure, Result.andThen_ok, List.map_toArray, List.map_cons, List.map_nil, ea, ex, hr]
  exact hK _ _ (h v' w' hg hk)
theorem wpList_append_sp (hP : SpTypes P ST T) {w : World} {ops : Array Oper} {rest : List Oper} {o : Oper} {a : Act} {Q : Exit → Act → World → Prop} (hgd : o.guard = none) (s x : Operand)
    (ho : o.op = .call { callee := .builtin .append, args := #[s, x], argTypes := #[ST, ST] })
    (B : Nat) (A : Option Addr) (n c : Nat) (l : List Sp) (ea : a.eval s = .slice A n c) (hn : n = l.length) (hown : SpOwn w B T A c l)
    (S : Option Addr) (k d : Nat) (m : List Sp) (ex : a.eval x = .slice S k d) (hm : k = m.length) (hs : SpSrc w S m) (hlen : n + k ≤ 1000000) (hB : B ≤ w.heap.size)
    (h : ∀ v' w', GrewS w B T (l ++ m) v' w' → wpList P ops Q rest (a.put o.dst v') w') : wpList P ops Q (o :: rest) a w := by
  subst hn; subst hm
  refine wpList_plain hgd fun K hK => ?_
  obtain ⟨v', w', hr, hg⟩ := run_append_sp hP w o.type B A c l hown S d m hs hlen hB
  unfold Oper.wp execOp
  simp only [ho, resolve, invoke, builtin, Sem.run_bind, Sem.run_pure, Result.andThen_ok, List.map_toArray, List.map_cons, List.map_nil, ea, ex, hr]
  exact hK _ _ (h v' w' hg)
end

/-- One span in a block of its own reads as a list of one. -/
theorem spsrc_one (w : World) (g : Nat) (hg : w.heap.size = g) (x y : Int) (T : TypeId) : SpSrc (w.alloc (.cells #[.int .i64 x, .int .i64 y] T)) (some ⟨g, 0, none⟩) [(x, y)] := fun _ => by
  subst hg
  refine ⟨w.heap.size, 0, rfl, by simp, fun i hi => ?_⟩
  obtain rfl : i = 0 := by simpa using hi
  exact ⟨(Row.new w T #[.int .i64 x, .int .i64 y]).cell (j := 0) rfl, (Row.new w T #[.int .i64 x, .int .i64 y]).cell (j := 1) rfl⟩
/-- Two. -/
theorem spsrc_two (w : World) (g : Nat) (hg : w.heap.size = g) (x y u v : Int) (T : TypeId) : SpSrc (w.alloc (.cells #[.int .i64 x, .int .i64 y, .int .i64 u, .int .i64 v] T)) (some ⟨g, 0, none⟩) [(x, y), (u, v)] := fun _ => by
  subst hg
  have hr := Row.new w T #[.int .i64 x, .int .i64 y, .int .i64 u, .int .i64 v]
  refine ⟨w.heap.size, 0, rfl, by simp, fun i hi => ?_⟩
  match i, hi with
  | 0, _ => exact ⟨hr.cell (j := 0) rfl, hr.cell (j := 1) rfl⟩
  | 1, _ => exact ⟨hr.cell (j := 2) rfl, hr.cell (j := 3) rfl⟩
/-- An empty slice that was just made is the call's own. -/
theorem spown_made (w : World) (B : Nat) (T : TypeId) (hB : B ≤ w.heap.size) : SpOwn (w.alloc (.cells #[] T)) B T (some ⟨w.heap.size, 0, none⟩) 0 [] :=
  World.ownsRow_made w #[] 0 hB (by unfold maxLen; omega) rfl
theorem spown_nil (w : World) (B : Nat) (T : TypeId) : SpOwn w B T none 0 [] := World.ownsRow_nil w B T 2
/-- What a block of a span's own holds, behind what lets memory grow. -/
theorem sp_new {w w1 : World} {x y : Int} {T : TypeId} (hb : Below (w.alloc (.cells #[.int .i64 x, .int .i64 y] T)).heap.size (w.alloc (.cells #[.int .i64 x, .int .i64 y] T)) w1) :
    w1.cell? ⟨w.heap.size, 0, none⟩ = some (.int .i64 x) ∧ w1.cell? ⟨w.heap.size, 1, none⟩ = some (.int .i64 y) ∧ Below w.heap.size w w1 :=
  have hr := (Row.new w T #[.int .i64 x, .int .i64 y]).keep hb
  ⟨hr.cell (j := 0) rfl, hr.cell (j := 1) rfl, ((Below.refl w.heap.size w).alloc (Nat.le_refl _) _).trans (hb.mono (by simp))⟩
end Go.Proofs.Ytejcpfplmlpilaa

/- The words for an alloc in memory: its block, its map of what waits, the slices of spans. No conditions but those that stand in each lemma. -/
import Derived.Test.YtnlkljmboifnkaaSpRemove
import Derived.Test.YtnlkljmboifnkaaSpBackNums
import Derived.Maps.RangeWalk
import Derived.Maps.OwnSet
import Derived.WalkSpells
namespace Go.Proofs.Ytnlkljmboifnkaa
open Go.RowKit Go.Maps

/-- All blocks but p and m are as they were. -/
structure AlOth (p m : Nat) (w w' : World) : Prop where
  os : w'.os = w.os
  tape : w'.tape = w.tape
  output : w'.output = w.output
  size : w.heap.size ≤ w'.heap.size
  block : ∀ k, k < w.heap.size → k ≠ p → k ≠ m → w'.heap[k]? = w.heap[k]?
section
variable {p m : Nat} {a b c : World}
theorem AlOth.refl (p m : Nat) (w : World) : AlOth p m w w := ⟨rfl, rfl, rfl, Nat.le_refl _, fun _ _ _ _ => rfl⟩
theorem AlOth.trans (h : AlOth p m a b) (k : AlOth p m b c) : AlOth p m a c :=
  ⟨k.os.trans h.os, k.tape.trans h.tape, k.output.trans h.output, Nat.le_trans h.size k.size, fun i hi h1 h2 => (k.block i (Nat.lt_of_lt_of_le hi h.size) h1 h2).trans (h.block i hi h1 h2)⟩
theorem AlOth.grow (h : Below a.heap.size a b) : AlOth p m a b := ⟨h.os, h.tape, h.output, h.size, fun i hi _ _ => h.block i hi⟩
theorem AlOth.then (h : AlOth p m a b) (k : Below b.heap.size b c) : AlOth p m a c := h.trans (.grow k)
theorem AlOth.grown {j : Nat} (h : a.grownBy b (some j)) (hj : j = p ∨ j = m) : AlOth p m a b :=
  ⟨h.os, h.tape, h.output, h.size, fun i hi h1 h2 => h.block i hi (by intro e; injection e with e; subst e; rcases hj with rfl | rfl; exact h1 rfl; exact h2 rfl)⟩
theorem AlOth.below {B : Nat} (h : AlOth p m a b) (h1 : B ≤ p) (h2 : B ≤ m) (h3 : B ≤ a.heap.size) : Below B a b :=
  ⟨h.os, h.tape, h.output, h.size, fun i hi => h.block i (by omega) (by omega) (by omega)⟩
/-- A cell of p is written. -/
theorem AlOth.set (j : Nat) (v : Value) : AlOth p m a (a.setCell ⟨p, j, none⟩ v) :=
  ⟨rfl, rfl, rfl, by simp, fun i _ h1 _ => heap_setCell_other a ⟨p, j, none⟩ i v h1⟩
theorem AlOth.drew (a : World) : AlOth p m a a.drew := .grow (Below.refl _ _).drew
end

/-- A block of elements of type T. -/
def CellsT (w : World) (T : TypeId) (b : Nat) : Prop := ∃ cs mk, w.heap[b]? = some (.cells cs T mk)
/-- The slice with address A holds the spans l, in a block of elements of type T. -/
def SpAt (w : World) (T : TypeId) (A : Option Addr) (l : List Sp) : Prop :=
  0 < l.length → ∃ b o, A = some ⟨b, o, none⟩ ∧ b < w.heap.size ∧ CellsT w T b ∧ ∀ i, i < l.length → w.cell? ⟨b, o + i * 2, none⟩ = some (.int .i64 (l.getD i spZ).1) ∧ w.cell? ⟨b, o + i * 2 + 1, none⟩ = some (.int .i64 (l.getD i spZ).2)
section
variable {w w' : World} {T : TypeId} {A : Option Addr} {l : List Sp}
theorem SpAt.src (h : SpAt w T A l) : SpSrc w A l := fun hn => by
  obtain ⟨b, o, h1, h2, _, h3⟩ := h hn
  exact ⟨b, o, h1, h2, h3⟩
theorem SpAt.none_ : SpAt w T A [] := fun h => absurd h (by simp)
theorem SpOwn.at_ {B c : Nat} (h : SpOwn w B T A c l) : SpAt w T A l := fun hn => by
  obtain ⟨b, o, h1, h2, h3⟩ := h.src hn
  refine ⟨b, o, h1, h2, ?_, h3⟩
  subst h1
  rcases h.2 with ⟨hv, _⟩ | ⟨g, cap, cur, hv, _, hg, _⟩
  · injection hv with hv; cases hv
  · injection hv with hv
    injection hv with hv
    injection hv with hv
    subst hv
    exact ⟨_, _, hg⟩
theorem SpAt.keepIf (h : SpAt w T A l) (hs : w.heap.size ≤ w'.heap.size) (hk : ∀ b, b < w.heap.size → CellsT w T b → w'.heap[b]? = w.heap[b]?) : SpAt w' T A l := fun hn => by
  obtain ⟨b, o, h1, h2, h3, h4⟩ := h hn
  have e := hk b h2 h3
  refine ⟨b, o, h1, by omega, ?_, fun i hi => ⟨(World.cell?_of_block (a := ⟨b, o + i * 2, none⟩) e).trans (h4 i hi).1, (World.cell?_of_block (a := ⟨b, o + i * 2 + 1, none⟩) e).trans (h4 i hi).2⟩⟩
  obtain ⟨cs, mk, h5⟩ := h3
  exact ⟨cs, mk, e.trans h5⟩
theorem SpAt.keep (h : SpAt w T A l) (hb : Below w.heap.size w w') : SpAt w' T A l := h.keepIf hb.size (fun b hl _ => hb.block b hl)
/-- A row of another type is another block; so is a map. -/
theorem CellsT.ne {b g t : Nat} {cs : Array Value} (h : CellsT w T b) (hr : Row w g t cs) (ht : T ≠ t) : b ≠ g := by
  rintro rfl
  obtain ⟨_, _, hb⟩ := h
  unfold Row at hr
  rw [hb] at hr
  injection hr with hr
  injection hr with _ e
  exact ht e
theorem CellsT.neMap {b g : Nat} {es : Array MapEntry} {clock : Nat} (h : CellsT w T b) (hm : w.heap[g]? = some (.map es clock)) : b ≠ g := by
  rintro rfl
  obtain ⟨_, _, hb⟩ := h
  rw [hb] at hm
  cases hm
end

/-- A slice as a value: its address, length and capacity. -/
abbrev SlV := Option Addr × Nat × Nat
def slV (x : SlV) : Value := .slice x.1 x.2.1 x.2.2
/-- A slice as a map's element: itself. -/
def slR : Value → Option (DataW SlV × List MemPlace)
  | .slice A n c => some (.held (A, n, c), [])
  | _ => none
theorem slR_mk (x : SlV) : slR (slV x) = some (.held x, []) := rfl
theorem slR_inv {v : Value} {y : DataW SlV × List MemPlace} (h : slR v = some y) : ∃ x, v = slV x ∧ y = (.held x, []) := by
  cases v <;> simp [slR] at h
  exact ⟨(_, _, _), rfl, h.symm⟩
theorem alKeyed : Keyed Try.prog 3 := int_keyed Try.underlying3
/-- The slice x holds the spans l. -/
structure SpX (w : World) (x : SlV) (l : List Sp) : Prop where
  len : x.2.1 = l.length
  cap : x.2.1 ≤ x.2.2
  most : x.2.2 ≤ maxLen
  at_ : SpAt w 23 x.1 l
theorem SpX.keep {w w' : World} {x : SlV} {l : List Sp} (h : SpX w x l) (hb : Below w.heap.size w w') : SpX w' x l := ⟨h.len, h.cap, h.most, h.at_.keep hb⟩
theorem SpX.nil (w : World) : SpX w (none, 0, 0) [] := ⟨rfl, Nat.le_refl _, Nat.zero_le _, .none_⟩
/-- What a function gives that makes a slice of its own: it lies in a block that was not there. -/
theorem spx_of_gives {w : World} {l : List Sp} {e : Ending} {w' : World} (h : GivesS w 23 l e w') : ∃ x : SlV, e = .returned (.slice x.1 x.2.1 x.2.2) ∧ SpX w' x l ∧ Below w.heap.size w w' ∧ ∀ a, x.1 = some a → w.heap.size ≤ a.block := by
  obtain ⟨v, rfl, A, n, c, rfl, hn, ho, hb⟩ := h
  have hc := ho.cap
  refine ⟨(A, n, c), rfl, ⟨hn, by show n ≤ c; omega, hc.2, ho.at_⟩, hb, fun a ha => ho.row a.block ?_⟩
  have ha : A = some a := ha
  rw [ha]
  rfl
/-- The slice x does not lie in a block of V, if there is anything in it. -/
def Away (x : SlV) (l : List Sp) (V : Nat → Prop) : Prop := 0 < l.length → ∀ a, x.1 = some a → ¬ V a.block
theorem Away.nil {x : SlV} {V : Nat → Prop} : Away x [] V := fun h => absurd h (by simp)
theorem Away.fresh {x : SlV} {l : List Sp} {V : Nat → Prop} {n : Nat} (h : ∀ a, x.1 = some a → n ≤ a.block) (hV : ∀ b, V b → b < n) : Away x l V := fun _ a ha hv => by
  have := h a ha
  have := hV _ hv
  omega

/-- What an alloc knows: its bounds, what it keeps back, its epoch; what is free, what was free at the last Commit, what waits; and blocks in which none of its slices lies. -/
structure AlS where
  av : Nat → Prop
  lo : Int
  hi : Int
  res : Int
  ep : Int
  free : List Sp
  settled : List Sp
  waits : List Sp
/-- Its numbers are such as New lets them be, the lists are no longer than contracts serve. -/
structure AlOk (s : AlS) : Prop where
  lo0 : 0 ≤ s.lo
  lohi : s.lo ≤ s.hi
  hi1 : s.hi ≤ 8192
  res0 : 0 ≤ s.res
  res1 : s.res ≤ 8192
  ep0 : 0 ≤ s.ep
  ep1 : s.ep ≤ 1000000000
  nf : s.free.length ≤ 40000
  nset : s.settled.length ≤ 40000
  nw : s.waits.length ≤ 40000
def alCells (s : AlS) (F S : SlV) (m : Nat) : Array Value := #[.int .i64 s.lo, .int .i64 s.hi, .int .i64 s.res, .int .i64 s.ep, slV F, slV S, .map (some m)]
/-- The map of what waits: nothing, or one slice at the epoch. -/
def alD (ep : Int) : Option SlV → DataW SlV
  | none => .map []
  | some x => .map [(.int .i64 ep, .held x)]
def alW (w : World) (o : Option SlV) (l : List Sp) : Prop := match o with
  | none => l = []
  | some x => SpX w x l
/-- The slice that waits; a nil slice where there is none. -/
def alX : Option SlV → SlV
  | none => (none, 0, 0)
  | some x => x
theorem alW_x {w : World} {o : Option SlV} {l : List Sp} (h : alW w o l) : SpX w (alX o) l := by
  cases o with
  | none => obtain rfl : l = [] := h; exact SpX.nil w
  | some x => exact h
structure AlAt (w : World) (p m k : Nat) (s : AlS) (F S : SlV) (o : Option SlV) : Prop where
  obj : Row w p 28 (alCells s F S m)
  map : w.ownsMap Try.prog 3 slR m k (alD s.ep o)
  free : SpX w F s.free
  settled : SpX w S s.settled
  waits : alW w o s.waits
  away : (∀ b, s.av b → b < w.heap.size) ∧ Away F s.free s.av ∧ Away S s.settled s.av ∧ Away (alX o) s.waits s.av
/-- The alloc at block p, its map in block m, with at most k entries ever. -/
def Al (w : World) (p m k : Nat) (s : AlS) : Prop := ∃ F S o, AlAt w p m k s F S o

section
variable {w w' : World} {p m k p' m' k' : Nat} {s s' : AlS} {F S F' S' : SlV} {o o' : Option SlV}
theorem alW.keepIf {l : List Sp} (h : alW w o l) (hk : ∀ x, SpX w x l → SpX w' x l) : alW w' o l := by
  cases o with
  | none => exact h
  | some x => exact hk x h
theorem AlAt.keep (h : AlAt w p m k s F S o) (hb : Below w.heap.size w w') : AlAt w' p m k s F S o :=
  ⟨h.obj.keep hb, h.map.kept (row := none) ⟨hb.os, hb.tape, hb.output, hb.size, fun i hi _ => hb.block i hi⟩ (by simp), h.free.keep hb, h.settled.keep hb, h.waits.keepIf fun _ hx => hx.keep hb, fun b hv => Nat.lt_of_lt_of_le (h.away.1 b hv) hb.size, h.away.2⟩
theorem Al.keep (h : Al w p m k s) (hb : Below w.heap.size w w') : Al w' p m k s := by obtain ⟨F, S, o, h⟩ := h; exact ⟨F, S, o, h.keep hb⟩
theorem alMap_ne {g t : Nat} {cs : Array Value} {R : Value → Option (DataW SlV × List MemPlace)} {D : DataW SlV} (h : w.ownsMap Try.prog 3 R m k D) (hr : Row w g t cs) : g ≠ m := by
  rintro rfl
  obtain ⟨es, clock, hb, _⟩ := h
  unfold Row at hr
  rw [hb] at hr
  cases hr
theorem AlAt.pm (h : AlAt w p m k s F S o) : p ≠ m := alMap_ne h.map h.obj
theorem AlAt.ltM (h : AlAt w p m k s F S o) : m < w.heap.size := h.map.lt
theorem AlAt.ltP (h : AlAt w p m k s F S o) : p < w.heap.size := h.obj.lt
theorem AlAt.kept2 (h : AlAt w p m k s F S o) (ho : AlOth p m w w') : ∀ b, b < w.heap.size → CellsT w 23 b → w'.heap[b]? = w.heap[b]? := fun b hb hc => by
  obtain ⟨es, clock, hm, _⟩ := h.map
  exact ho.block b hb (hc.ne h.obj (by decide)) (hc.neMap hm)
theorem SpX.oth {x : SlV} {l : List Sp} (hx : SpX w x l) (h : AlAt w p m k s F S o) (ho : AlOth p m w w') : SpX w' x l := ⟨hx.len, hx.cap, hx.most, hx.at_.keepIf ho.size (h.kept2 ho)⟩
/-- Another alloc stays as it was. -/
theorem AlAt.other (h : AlAt w p' m' k' s' F' S' o') (hme : AlAt w p m k s F S o) (ho : AlOth p m w w') (hp : p' ≠ p) (hm : m' ≠ m) : AlAt w' p' m' k' s' F' S' o' := by
  have e1 : w'.heap[p']? = w.heap[p']? := ho.block p' h.ltP hp (alMap_ne hme.map h.obj)
  have e2 : w'.heap[m']? = w.heap[m']? := ho.block m' h.ltM (fun e => (alMap_ne h.map hme.obj) e.symm) hm
  refine ⟨e1.trans h.obj, ?_, h.free.oth hme ho, h.settled.oth hme ho, h.waits.keepIf fun _ hx => hx.oth hme ho, fun b hv => Nat.lt_of_lt_of_le (h.away.1 b hv) ho.size, h.away.2⟩
  obtain ⟨es, clock, hb, r⟩ := h.map
  exact ⟨es, clock, e2.trans hb, r⟩
theorem Al.other (h : Al w p' m' k' s') (hme : Al w p m k s) (ho : AlOth p m w w') (hp : p' ≠ p) (hm : m' ≠ m) : Al w' p' m' k' s' := by
  obtain ⟨F', S', o', h⟩ := h
  obtain ⟨F, S, o, hme⟩ := hme
  exact ⟨F', S', o', h.other hme ho hp hm⟩
theorem AlAt.more (h : AlAt w p m k s F S o) (hk : k ≤ k') : AlAt w p m k' s F S o := by
  refine ⟨h.obj, ?_, h.free, h.settled, h.waits, h.away⟩
  obtain ⟨es, clock, hb, f, hs, r⟩ := h.map
  exact ⟨es, clock, hb, f, Nat.le_trans hs hk, r⟩
theorem Al.more (h : Al w p m k s) (hk : k ≤ k') : Al w p m k' s := by obtain ⟨F, S, o, h⟩ := h; exact ⟨F, S, o, h.more hk⟩
theorem AlAt.c0 (h : AlAt w p m k s F S o) : w.cell? ⟨p, 0, none⟩ = some (.int .i64 s.lo) := h.obj.cell (j := 0) rfl
theorem AlAt.c1 (h : AlAt w p m k s F S o) : w.cell? ⟨p, 1, none⟩ = some (.int .i64 s.hi) := h.obj.cell (j := 1) rfl
theorem AlAt.c2 (h : AlAt w p m k s F S o) : w.cell? ⟨p, 2, none⟩ = some (.int .i64 s.res) := h.obj.cell (j := 2) rfl
theorem AlAt.c3 (h : AlAt w p m k s F S o) : w.cell? ⟨p, 3, none⟩ = some (.int .i64 s.ep) := h.obj.cell (j := 3) rfl
theorem AlAt.c4 (h : AlAt w p m k s F S o) : w.cell? ⟨p, 4, none⟩ = some (.slice F.1 F.2.1 F.2.2) := h.obj.cell (j := 4) rfl
theorem AlAt.c5 (h : AlAt w p m k s F S o) : w.cell? ⟨p, 5, none⟩ = some (.slice S.1 S.2.1 S.2.2) := h.obj.cell (j := 5) rfl
theorem AlAt.c6 (h : AlAt w p m k s F S o) : w.cell? ⟨p, 6, none⟩ = some (.map (some m)) := h.obj.cell (j := 6) rfl
/-- A slice of the world of now takes the place of what was free. -/
theorem AlAt.setFree (h : AlAt w p m k s F S o) {x : SlV} {l : List Sp} (hx : SpX w x l) (hv : Away x l s.av) : AlAt (w.setCell ⟨p, 4, none⟩ (.slice x.1 x.2.1 x.2.2)) p m k { s with free := l } x S o := by
  have ho : AlOth p m w (w.setCell ⟨p, 4, none⟩ (.slice x.1 x.2.1 x.2.2)) := .set 4 _
  exact ⟨h.obj.set 4 _, h.map.setCell (a := ⟨p, 4, none⟩) (fun e => h.pm e.symm) _, hx.oth h ho, h.settled.oth h ho, h.waits.keepIf fun _ hy => hy.oth h ho, fun b hb => Nat.lt_of_lt_of_le (h.away.1 b hb) ho.size, hv, h.away.2.2⟩
theorem AlAt.setSettled (h : AlAt w p m k s F S o) {x : SlV} {l : List Sp} (hx : SpX w x l) (hv : Away x l s.av) : AlAt (w.setCell ⟨p, 5, none⟩ (.slice x.1 x.2.1 x.2.2)) p m k { s with settled := l } F x o := by
  have ho : AlOth p m w (w.setCell ⟨p, 5, none⟩ (.slice x.1 x.2.1 x.2.2)) := .set 5 _
  exact ⟨h.obj.set 5 _, h.map.setCell (a := ⟨p, 5, none⟩) (fun e => h.pm e.symm) _, h.free.oth h ho, hx.oth h ho, h.waits.keepIf fun _ hy => hy.oth h ho, fun b hb => Nat.lt_of_lt_of_le (h.away.1 b hb) ho.size, h.away.2.1, hv, h.away.2.2.2⟩
end

/-- An alloc that no call made. -/
def noCells : Array Value := #[.int .i64 0, .int .i64 0, .int .i64 0, .int .i64 0, .slice none 0 0, .slice none 0 0, .map none]
def NoAlloc (w : World) (v : Value) : Prop := v = .pointer none ∨ ∃ g, v = .pointer (some ⟨g, 0, none⟩) ∧ Row w g 28 noCells
theorem NoAlloc.keep {w w' : World} {v : Value} (h : NoAlloc w v) (hb : Below w.heap.size w w') : NoAlloc w' v := by
  rcases h with rfl | ⟨g, rfl, hr⟩
  · exact .inl rfl
  · exact .inr ⟨g, rfl, hr.keep hb⟩
/-- 'm != nil'. -/
theorem al_neq : ∀ (w : World) (r : Option Nat), (binOp .neq 26 (.map r) (.map none)).run Try.prog w = .ok (.bool (!r.isNone)) w := fun w r => run_neq_map_nil w _ 3 25 r Try.underlying26
theorem noalloc_made (w : World) (d : Value) (h : NoAlloc w d) : Calls Try.prog 21 #[d] w fun e w' => e = .returned (.bool false) ∧ w' = w := by
  have qm := al_neq
  rcases h with rfl | ⟨g, rfl, hr⟩
  · go_enter Try.func21, Try.ntmps21
    go_wp2_with fail
    go_ret
    exact ⟨rfl, rfl⟩
  · have c6 : w.cell? ⟨g, 6, none⟩ = some (.map none) := hr.cell (j := 6) rfl
    go_enter Try.func21, Try.ntmps21
    go_wp2_with fail
    go_ret
    exact ⟨rfl, rfl⟩
theorem alloc_made {w : World} {p m k : Nat} {s : AlS} {F S : SlV} {o : Option SlV} (h : AlAt w p m k s F S o) :
    Calls Try.prog 21 #[.pointer (some ⟨p, 0, none⟩)] w fun e w' => e = .returned (.bool true) ∧ w' = w := by
  have c6 := h.c6
  have qm := al_neq
  go_enter Try.func21, Try.ntmps21
  go_wp2_with fail
  go_ret
  exact ⟨rfl, rfl⟩
end Go.Proofs.Ytnlkljmboifnkaa

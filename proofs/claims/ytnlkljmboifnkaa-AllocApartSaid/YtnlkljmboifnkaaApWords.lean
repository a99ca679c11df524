/- AllocApart: its memory: the alloc, the table, the slice of what is held. No conditions but those that stand in each lemma. -/
import Derived.Test.YtnlkljmboifnkaaAlApart
import Derived.Laws.MakeOwn
namespace Go.Proofs.Ytnlkljmboifnkaa
open Go.RowKit Go.Maps

/-- A goal at which the walk is to stop. -/
def HeldG (p : Prop) : Prop := p
theorem heldG {p : Prop} (h : HeldG p) : p := h
structure ApW (w0 w : World) (p m G k : Nat) (s : AlS) (st : List Int) (hl : List Sp) (A : Option Addr) (nh ch : Nat) : Prop where
  al : Al w p m k s
  tab : Row w G 3 (nCells st)
  q : QOwn w w0.heap.size 23 A nh ch hl
  av : s.av = fun b => ∃ y, A = some y ∧ y.block = b
  kept : Below w0.heap.size w0 w
  q1 : w0.heap.size ≤ p
  q2 : w0.heap.size ≤ m
  q3 : w0.heap.size ≤ G
theorem rows_apart {w : World} {g1 g2 t1 t2 : Nat} {c1 c2 : Array Value} (h1 : Row w g1 t1 c1) (h2 : Row w g2 t2 c2) (h : t1 ≠ t2) : g1 ≠ g2 := by
  rintro rfl
  unfold Row at h1 h2
  rw [h1] at h2
  injection h2 with h2
  injection h2 with _ e
  exact h e
section
variable {w0 w w' : World} {p m G k k' : Nat} {s s' : AlS} {st : List Int} {hl : List Sp} {A : Option Addr} {nh ch : Nat}
theorem ApW.grow (h : ApW w0 w p m G k s st hl A nh ch) (hb : Below w.heap.size w w') : ApW w0 w' p m G k s st hl A nh ch :=
  ⟨h.al.keep hb, h.tab.keep hb, h.q.keep hb, h.av, h.kept.trans (hb.mono h.kept.size), h.q1, h.q2, h.q3⟩
theorem ApW.more (h : ApW w0 w p m G k s st hl A nh ch) (hk : k ≤ k') : ApW w0 w p m G k' s st hl A nh ch :=
  ⟨h.al.more hk, h.tab, h.q, h.av, h.kept, h.q1, h.q2, h.q3⟩
/-- A call on the alloc. -/
theorem ApW.call (h : ApW w0 w p m G k s st hl A nh ch) (ho : AlOth p m w w') (hA : Al w' p m k' s') (hav : s'.av = s.av) : ApW w0 w' p m G k' s' st hl A nh ch := by
  obtain ⟨F, S, o, ha⟩ := h.al
  refine ⟨hA, (ho.block G h.tab.lt (rows_apart h.tab ha.obj (by decide)) (alMap_ne ha.map h.tab)).trans h.tab, h.q.keepIf fun a e => ?_, hav.trans h.av, h.kept.trans (ho.below h.q1 h.q2 h.kept.size), h.q1, h.q2, h.q3⟩
  obtain ⟨cur, hr⟩ := h.q.row a e
  exact ho.block a.block hr.lt (rows_apart hr ha.obj (by decide)) (alMap_ne ha.map hr)
/-- A cell of the table is written. -/
theorem ApW.setTab (h : ApW w0 w p m G k s st hl A nh ch) (j : Nat) (v : Int) : ApW w0 (w.setCell ⟨G, j, none⟩ (.int .i64 v)) p m G k s (st.set j v) hl A nh ch := by
  obtain ⟨F, S, o, ha⟩ := h.al
  have hk : ∀ b, b ≠ G → (w.setCell ⟨G, j, none⟩ (.int .i64 v)).heap[b]? = w.heap[b]? := fun b hb => heap_setCell_other w ⟨G, j, none⟩ b _ hb
  have h1 := ha.butBlock (g := G) hk (by simp) (rows_apart ha.obj h.tab (by decide)) (fun e => (alMap_ne ha.map h.tab) e.symm) (.inl fun b hc => hc.ne h.tab (by decide))
  have h2 := h.tab.set j (.int .i64 v)
  rw [nCells_set] at h2
  refine ⟨⟨F, S, o, h1⟩, h2, h.q.keepIf fun a e => ?_, h.av, h.kept.setCell (by have := h.q3; exact this) _, h.q1, h.q2, h.q3⟩
  obtain ⟨cur, hr⟩ := h.q.row a e
  exact hk _ (rows_apart hr h.tab (by decide))
/-- One is held more. -/
theorem ApW.append (h : ApW w0 w p m G k s st hl A nh ch) {A' : Option Addr} {n' c' : Nat} {hl' : List Sp} (hq : QOwn w' w0.heap.size 23 A' n' c' hl') (hg : QGrew w A A' w') : ∃ V, ApW w0 w' p m G k { s with av := V } st hl' A' n' c' := by
  rcases hg with ⟨a, rfl, rfl, hs, h1, h2, h3, hk⟩ | ⟨rfl, hb, hlt⟩
  · obtain ⟨F, S, o, ha⟩ := h.al
    obtain ⟨cur, hr⟩ := h.q.row a rfl
    have hB := (h.q.lt a rfl).2
    refine ⟨s.av, ⟨F, S, o, ha.butBlock (g := a.block) hk hs (rows_apart ha.obj hr (by decide)) (fun e => (alMap_ne ha.map hr) e.symm) (.inr (by rw [h.av]; exact ⟨a, rfl, rfl⟩))⟩, (hk G (rows_apart h.tab hr (by decide))).trans h.tab, hq, h.av, h.kept.trans ⟨h1, h2, h3, by omega, fun b hb => hk b (by omega)⟩, h.q1, h.q2, h.q3⟩
  · refine ⟨fun b => ∃ y : Addr, some (⟨w.heap.size, 0, none⟩ : Addr) = some y ∧ y.block = b, h.al.avoid hb _ ?_, h.tab.keep hb, hq, rfl, h.kept.trans (hb.mono h.kept.size), h.q1, h.q2, h.q3⟩
    rintro b ⟨y, hy, rfl⟩
    injection hy with hy
    subst hy
    exact ⟨Nat.le_refl _, hlt⟩
/-- The first one is held no more. -/
theorem ApW.tail {t : Sp} (h : ApW w0 w p m G k s st (t :: hl) A nh ch) {A' : Option Addr} {n' c' : Nat} (hq : QOwn w w0.heap.size 23 A' n' c' hl) (hb : ∀ b, (∃ y, A' = some y ∧ y.block = b) ↔ (∃ y, A = some y ∧ y.block = b)) : ApW w0 w p m G k s st hl A' n' c' :=
  ⟨h.al, h.tab, hq, by rw [h.av]; funext b; exact propext (hb b).symm, h.kept, h.q1, h.q2, h.q3⟩
theorem ApW.cell (h : ApW w0 w p m G k s st hl A nh ch) (j : Nat) (hj : j < st.length) : w.cell? ⟨G, j, none⟩ = some (.int .i64 (st.getD j 0)) := h.tab.cell (nCells_at st j hj)
theorem ApW.free (h : ApW w0 w p m G k s st hl A nh ch) (j : Nat) : w.frozen? ⟨G, j, none⟩ = false := h.tab.free j
end
/-- A row of zeros that was just made. -/
theorem made_zeros {w : World} {B g n : Nat} {xs : List Value} (h : w.ownsRow B 3 1 (.slice (some ⟨g, 0, none⟩) n n) n xs) (hx : xs = (madeCells #[.int .i64 0] (n * 1)).toList) : Row w g 3 (nCells (List.replicate n 0)) := by
  rcases h.2 with ⟨hv, _⟩ | ⟨g', cap, cur, hv, _, hr, _, _, hsz, ht⟩
  · injection hv with hv; cases hv
  · injection hv with hv _ hc
    injection hv with hv
    injection hv with hv
    subst hv; subst hc
    have e : cur = nCells (List.replicate n 0) := by
      apply Array.ext'
      rw [List.take_of_length_le (by rw [Array.length_toList]; omega)] at ht
      rw [ht, hx]
      unfold madeCells nCells
      rw [Array.toList_map, Array.toList_range, List.toList_toArray, List.map_replicate]
      refine List.eq_replicate_iff.2 ⟨by simp, fun b hb => ?_⟩
      obtain ⟨x, _, rfl⟩ := List.mem_map.1 hb
      simp [Nat.mod_one]
    rw [e] at hr
    exact hr
/-- How many are free, wait, are in use, whichever world it is asked in. -/
theorem all_sums {w : World} {p m k N : Nat} {s : AlS} (_h : Al w p m k s) (hok : AlOk s) (hlo : s.lo = 2) (hhi : s.hi = ((2 + N : Nat) : Int)) :
    (∀ (wx : World) (p m k : Nat), Al wx p m k s → Calls Try.prog 13 #[.pointer (some ⟨p, 0, none⟩)] wx fun e w' => e = .returned (.int .i64 (Spans.totalL s.free)) ∧ Below wx.heap.size wx w') ∧
    (∀ (wx : World) (p m k : Nat), Al wx p m k s → Calls Try.prog 14 #[.pointer (some ⟨p, 0, none⟩)] wx fun e w' => e = .returned (.int .i64 (Spans.totalL s.waits)) ∧ Below wx.heap.size wx w') ∧
    (∀ (wx : World) (p m k : Nat), Al wx p m k s → Calls Try.prog 15 #[.pointer (some ⟨p, 0, none⟩)] wx fun e w' => e = .returned (.int .i64 (((2 + N : Nat) : Int) - 2 - Spans.totalL s.free - Spans.totalL s.waits)) ∧ Below wx.heap.size wx w') := by
  refine ⟨fun wx p m k ⟨F, S, o, h⟩ => alloc_free h hok, fun wx p m k ⟨F, S, o, h⟩ => alloc_waiting h hok, fun wx p m k ⟨F, S, o, h⟩ => ?_⟩
  have h6 := alloc_used h hok
  rw [hlo, hhi] at h6
  exact h6
end Go.Proofs.Ytnlkljmboifnkaa

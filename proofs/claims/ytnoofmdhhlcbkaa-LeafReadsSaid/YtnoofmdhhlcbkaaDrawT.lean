/- A region that draws its order, some of whose operations are in no order to each other though each turns something: the orders as a tree. What an operation turns on the way is told by a relation between worlds that the prover names. No conditions but those that stand in each lemma. -/
import Derived.Test.YtnoofmdhhlcbkaaDraw
namespace Go.Proofs.Ytnoofmdhhlcbkaa
open Go.RowKit

/-- What may be turned on the way: a relation between worlds. -/
class Turns (R : World → World → Prop) : Prop where
  refl : ∀ w, R w w
  trans : ∀ {a b c}, R a b → R b c → R a c
instance : Turns Ext := ⟨Ext.refl, Ext.trans⟩
def AboveR (R : World → World → Prop) (w : World) : Type := { w' : World // R w w' }
instance {R : World → World → Prop} [Turns R] (w : World) : Nonempty (AboveR R w) := ⟨⟨w, Turns.refl w⟩⟩
def ClR (R : World → World → Prop) (w : World) (w' : World) : Prop := ∃ g : AboveR R w, w' = g.1
attribute [go_sem] ClR

section
variable {P : Program} {ops : Array Oper} {Q : Exit → Act → World → Prop} {md : Region.Mode} {R : World → World → Prop}

def wpAnyG (R : World → World → Prop) (P : Program) (md : Region.Mode) (ops : Array Oper) (n : Nat) (Q : Exit → Act → World → Prop) : Nat → Array Bool → Act → World → Prop
  | 0, listed, a, w => Region.ready md ops listed = [] ∧ Q .normal a w
  | fuel + 1, listed, a, w =>
    (Region.ready md ops listed = [] → Q .normal a w) ∧
    ∀ i ∈ Region.ready md ops listed, wpOp P ops Q i (fun a' w' => (R w w' ∨ n ≤ i) ∧ wpAnyG R P md ops n Q fuel (listed.setIfInBounds i true) a' w') a w
theorem wpAny_of_G {n : Nat} : ∀ (fuel : Nat) (listed : Array Bool) (a : Act) (w : World), wpAnyG R P md ops n Q fuel listed a w → wpAny P md ops Q fuel listed a w
  | 0, _, _, _, h => h
  | fuel + 1, _, _, _, h => ⟨h.1, fun i hi => wpOp_mono (fun a' w' h' => wpAny_of_G fuel _ a' w' h'.2) (h.2 i hi)⟩

theorem wpAnyG_first [Turns R] {n i : Nat} {oi : Oper} {v : Value} (hi : ops[i]? = some oi) (hsel : ∀ (j : Nat) (o : Oper) cs b, ops[j]? = some o → o.op ≠ .select cs b) (hW : Waits md ops n) (hin : i < n)
    (hQ : ∀ c a d u w, Q (.panic c) (Act.put a d u) w → Q (.panic c) a w) (fuel : Nat) : ∀ (listed : Array Bool) (a : Act) (w : World), HeadInv md ops n listed → Alone md ops i oi listed →
      i ∈ Region.ready md ops listed → YieldsIf P ops (R w) oi v a →
      wpAnyG R P md ops n Q fuel (listed.setIfInBounds i true) (a.put oi.dst v) w → wpAnyG R P md ops n Q (fuel + 1) listed a w := by
  induction fuel with
  | zero =>
    intro listed a w _ _ hr hy H
    refine ⟨fun h => absurd hr (by rw [h]; exact List.not_mem_nil), fun j hj => ?_⟩
    rcases Nat.decEq j i with hji | hji
    · exact absurd (ready_mono hj hji) (by rw [H.1]; exact List.not_mem_nil)
    · subst hji
      exact hy.wpOp hi (Turns.refl w) ⟨.inl (Turns.refl w), H⟩
  | succ fuel ih =>
    intro listed a w inv hfree hr hy H
    refine ⟨fun h => absurd hr (by rw [h]; exact List.not_mem_nil), fun j hj => ?_⟩
    rcases Nat.decEq j i with hji | hji
    · obtain ⟨hun, oj, hoj, _⟩ := mem_ready.1 hj
      have hjn := hW listed i inv hin hr j hj
      have hap := hfree j oj hoj hji hun (ready_apart hr hj hoj)
      have later := wpOp_putIf hoj hap (fun cs b => hsel i oi cs b hi) (fun cs b => hsel j oj cs b hoj) (fun c a w => hQ c a _ _ w) hy (H.2 j (ready_mono hj hji))
      refine wpOp_mono (fun a' w' ⟨hy', hw0, H'⟩ => ?_) later
      have hw' : R w w' := hw0.resolve_right (by omega)
      refine ⟨.inl hw', ih _ a' w' (inv.set hj hjn) (hfree.mark hun) (ready_mono hr (Ne.symm hji)) ?_ ?_⟩
      · exact hy'.imp (fun ⟨x, y⟩ => ⟨x, fun w'' hw'' => y w'' (Turns.trans hw' hw'')⟩) id
      · rw [Array.setIfInBounds_comm _ _ hji]
        exact H'
    · subst hji
      exact hy.wpOp hi (Turns.refl w) ⟨.inl (Turns.refl w), H⟩

theorem wpAnyG_quiet [Turns R] {n : Nat} (hs : Region.noSelect ops = true) (hW : Waits md ops n) (hQ : ∀ c a d u w, Q (.panic c) (Act.put a d u) w → Q (.panic c) a w) {K : Act → Prop} {w : World} (fuel : Nat) : ∀ (qs : List Nat) (listed : Array Bool) (a : Act), HeadInv md ops n listed →
    quietB md ops n qs listed = true → (∀ a', K a' → wpAnyG R P md ops n Q fuel (markAll listed qs) a' w) → wpQuiet P ops (ClR R w) K (pickOps ops qs) a → wpAnyG R P md ops n Q (qs.length + fuel) listed a w
  | [], listed, a, _, _, hK, h => by rw [List.length_nil, Nat.zero_add]; exact hK a h
  | i :: r, listed, a, inv, hB, hK, h => by
    simp only [quietB, Bool.and_eq_true, decide_eq_true_eq] at hB
    obtain ⟨⟨⟨⟨hin, hr⟩, hf⟩, hk⟩, hB'⟩ := hB
    cases ho : ops[i]? with
    | none => rw [ho] at hk; cases hk
    | some o =>
      rw [ho] at hk
      have hk' : onlyReads o.op = true := hk
      have hp : pickOps ops (i :: r) = o :: pickOps ops r := by simp [pickOps, ho]
      rw [hp] at h
      rw [List.length_cons, Nat.add_right_comm]
      have hrd : i ∈ Region.ready md ops listed := by simpa using hr
      have go : ∀ v, YieldsIf P ops (R w) o v a → wpQuiet P ops (ClR R w) K (pickOps ops r) (a.put o.dst v) → wpAnyG R P md ops n Q (r.length + fuel + 1) listed a w := fun v hy hn =>
        wpAnyG_first ho (Region.noSelect_spec hs) hW hin hQ _ listed a w inv (Region.free_spec ho hf) hrd hy (wpAnyG_quiet hs hW hQ fuel r _ _ (inv.set hrd hin) hB' hK hn)
      unfold wpQuiet at h
      split at h
      · rename_i hw
        obtain ⟨v, hv, hn⟩ := h
        exact go v (.inl ⟨hw, fun w' hw' => value_of_quiet hk' (hv w' ⟨⟨w', hw'⟩, rfl⟩)⟩) hn
      · rename_i hw
        exact go undef (.inr ⟨by simpa using hw, rfl⟩) h

/-- The orders as a tree: some that only read; then one that is alone, or two of which either may come first; at the end some that only read, or behind them one that waits for all others. -/
inductive Tr where
  | last (qs : List Nat)
  | tail (qs : List Nat) (c : Nat)
  | one (qs : List Nat) (c : Nat) (t : Tr)
  | two (qs : List Nat) (c d : Nat) (t u : Tr)
def treeB (md : Region.Mode) (ops : Array Oper) (n : Nat) : Tr → Nat → Array Bool → Bool
  | .last qs, fuel, listed => quietB md ops n qs listed && (qs.length == fuel) && (Region.ready md ops (markAll listed qs)).isEmpty
  | .tail qs c, fuel, listed => quietB md ops n qs listed && (qs.length + 1 == fuel) && decide (n ≤ c) && (Region.ready md ops (markAll listed qs) == [c]) && (Region.ready md ops ((markAll listed qs).setIfInBounds c true)).isEmpty
  | .one qs c t, fuel, listed => quietB md ops n qs listed && decide (qs.length + 1 ≤ fuel) && decide (c < n) && (Region.ready md ops (markAll listed qs) == [c]) && treeB md ops n t (fuel - (qs.length + 1)) ((markAll listed qs).setIfInBounds c true)
  | .two qs c d t u, fuel, listed => quietB md ops n qs listed && decide (qs.length + 1 ≤ fuel) && decide (c < n) && decide (d < n) && (Region.ready md ops (markAll listed qs) == [c, d]) && treeB md ops n t (fuel - (qs.length + 1)) ((markAll listed qs).setIfInBounds c true) && treeB md ops n u (fuel - (qs.length + 1)) ((markAll listed qs).setIfInBounds d true)
/-- The walk along that tree. -/
def wpTree (R : World → World → Prop) (P : Program) (ops : Array Oper) (Q : Exit → Act → World → Prop) : Tr → Act → World → Prop
  | .last qs, a, w => wpQuiet P ops (ClR R w) (fun a' => Q .normal a' w) (pickOps ops qs) a
  | .tail qs c, a, w => wpQuiet P ops (ClR R w) (fun a' => wpOp P ops Q c (fun a'' w'' => Q .normal a'' w'') a' w) (pickOps ops qs) a
  | .one qs c t, a, w => wpQuiet P ops (ClR R w) (fun a' => wpOp P ops Q c (fun a'' w'' => R w w'' ∧ wpTree R P ops Q t a'' w'') a' w) (pickOps ops qs) a
  | .two qs c d t u, a, w => wpQuiet P ops (ClR R w) (fun a' => wpOp P ops Q c (fun a'' w'' => R w w'' ∧ wpTree R P ops Q t a'' w'') a' w ∧ wpOp P ops Q d (fun a'' w'' => R w w'' ∧ wpTree R P ops Q u a'' w'') a' w) (pickOps ops qs) a

theorem wpAnyG_tree [Turns R] {n : Nat} (hs : Region.noSelect ops = true) (hW : Waits md ops n) (hQ : ∀ c a d u w, Q (.panic c) (Act.put a d u) w → Q (.panic c) a w) : ∀ (t : Tr) (fuel : Nat) (listed : Array Bool) (a : Act) (w : World), HeadInv md ops n listed →
    treeB md ops n t fuel listed = true → wpTree R P ops Q t a w → wpAnyG R P md ops n Q fuel listed a w
  | .last qs, fuel, listed, a, w, inv, hB, h => by
    simp only [treeB, Bool.and_eq_true, List.isEmpty_iff, beq_iff_eq] at hB
    obtain ⟨⟨h1, rfl⟩, h3⟩ := hB
    exact wpAnyG_quiet (P := P) hs hW hQ (w := w) 0 qs listed a inv h1 (fun a' h' => ⟨h3, h'⟩) h
  | .tail qs c, fuel, listed, a, w, inv, hB, h => by
    simp only [treeB, Bool.and_eq_true, List.isEmpty_iff, beq_iff_eq, decide_eq_true_eq] at hB
    obtain ⟨⟨⟨⟨h1, rfl⟩, hc⟩, h3⟩, h4⟩ := hB
    exact wpAnyG_quiet (P := P) hs hW hQ (w := w) 1 qs listed a inv h1 (fun a' h' => by
      refine ⟨fun h0 => (by rw [h3] at h0; cases h0), fun i hi => ?_⟩
      rw [h3] at hi
      obtain rfl : i = c := by simpa using hi
      exact wpOp_mono (fun a'' w'' hh => ⟨.inr hc, h4, hh⟩) h') h
  | .one qs c t, fuel, listed, a, w, inv, hB, h => by
    simp only [treeB, Bool.and_eq_true, beq_iff_eq, decide_eq_true_eq] at hB
    obtain ⟨⟨⟨⟨h1, hf⟩, hc⟩, h2⟩, h3⟩ := hB
    have inv' := headInv_marks qs listed inv h1
    have := wpAnyG_quiet (P := P) hs hW hQ (w := w) (fuel - (qs.length + 1) + 1) qs listed a inv h1 (fun a' h' => by
      refine ⟨fun h0 => (by rw [h2] at h0; cases h0), fun i hi => ?_⟩
      have hi' := hi
      rw [h2] at hi
      obtain rfl : i = c := by simpa using hi
      exact wpOp_mono (fun a'' w'' hh => ⟨.inl hh.1, wpAnyG_tree hs hW hQ t _ _ a'' w'' (inv'.set hi' hc) h3 hh.2⟩) h') h
    rw [show qs.length + (fuel - (qs.length + 1) + 1) = fuel by omega] at this
    exact this
  | .two qs c d t u, fuel, listed, a, w, inv, hB, h => by
    simp only [treeB, Bool.and_eq_true, beq_iff_eq, decide_eq_true_eq] at hB
    obtain ⟨⟨⟨⟨⟨⟨h1, hf⟩, hc⟩, hd⟩, h2⟩, h3⟩, h4⟩ := hB
    have inv' := headInv_marks qs listed inv h1
    have := wpAnyG_quiet (P := P) hs hW hQ (w := w) (fuel - (qs.length + 1) + 1) qs listed a inv h1 (fun a' h' => by
      refine ⟨fun h0 => (by rw [h2] at h0; cases h0), fun i hi => ?_⟩
      have hi' := hi
      rw [h2] at hi
      have hi2 : i = c ∨ i = d := by simpa using hi
      rcases hi2 with rfl | rfl
      · exact wpOp_mono (fun a'' w'' hh => ⟨.inl hh.1, wpAnyG_tree hs hW hQ t _ _ a'' w'' (inv'.set hi' hc) h3 hh.2⟩) h'.1
      · exact wpOp_mono (fun a'' w'' hh => ⟨.inl hh.1, wpAnyG_tree hs hW hQ u _ _ a'' w'' (inv'.set hi' hd) h4 hh.2⟩) h'.2) h
    rw [show qs.length + (fuel - (qs.length + 1) + 1) = fuel by omega] at this
    exact this

/-- A region, along the tree of its orders. -/
theorem wp_region_tree {id : Nat} {a : Act} {w : World} {l : List Oper} (R : World → World → Prop) [Turns R] (t : Tr) (hm : P.follows .mixedOrders = true) (hs : Region.noSelect l.toArray = true)
    (hB : treeB .any l.toArray l.toArray.size t l.length (Array.replicate l.length false) = true) (hQ : ∀ c a d u w, Q (.panic c) (Act.put a d u) w → Q (.panic c) a w)
    (h : wpTree R P l.toArray Q t a w.drew) : (Code.region id l.toArray true).wp P Q a w := by
  refine wp_region_any hm (wpAny_of_G (R := R) (n := l.toArray.size) _ _ _ _ ?_)
  have := wpAnyG_tree hs waits_all hQ t l.length _ a w.drew (by simpa using headInv_none (md := .any) (ops := l.toArray) l.toArray.size) hB h
  simpa using this
/-- .. the same where operation n waits for all others, and may turn what it will. -/
theorem wp_region_treeT {id : Nat} {a : Act} {w : World} {l : List Oper} (R : World → World → Prop) [Turns R] (n : Nat) (t : Tr) (hm : P.follows .mixedOrders = true) (hs : Region.noSelect l.toArray = true) (hn : n < l.toArray.size)
    (hw : (Region.sinkB .any l.toArray n && Region.chainB .any l.toArray n) = true)
    (hB : treeB .any l.toArray n t l.length (Array.replicate l.length false) = true) (hQ : ∀ c a d u w, Q (.panic c) (Act.put a d u) w → Q (.panic c) a w)
    (h : wpTree R P l.toArray Q t a w.drew) : (Code.region id l.toArray true).wp P Q a w := by
  simp only [Bool.and_eq_true] at hw
  refine wp_region_any hm (wpAny_of_G (R := R) (n := n) _ _ _ _ ?_)
  have := wpAnyG_tree hs (waits_tail hw.1 hw.2 hn) hQ t l.length _ a w.drew (by simpa using headInv_none (md := .any) (ops := l.toArray) n) hB h
  simpa using this
theorem wpTree_last {qs : List Nat} {a : Act} {w : World} {l : List Oper} (hl : pickOps ops qs = l) (h : wpQuiet P ops (ClR R w) (fun a' => Q .normal a' w) l a) : wpTree R P ops Q (.last qs) a w := by
  unfold wpTree; rw [hl]; exact h
theorem wpTree_tail {qs : List Nat} {c : Nat} {a : Act} {w : World} {l : List Oper} (hl : pickOps ops qs = l) (h : wpQuiet P ops (ClR R w) (fun a' => wpOp P ops Q c (fun a'' w'' => Q .normal a'' w'') a' w) l a) : wpTree R P ops Q (.tail qs c) a w := by
  unfold wpTree; rw [hl]; exact h
theorem wpTree_one {qs : List Nat} {c : Nat} {t : Tr} {a : Act} {w : World} {l : List Oper} (hl : pickOps ops qs = l)
    (h : wpQuiet P ops (ClR R w) (fun a' => wpOp P ops Q c (fun a'' w'' => R w w'' ∧ wpTree R P ops Q t a'' w'') a' w) l a) : wpTree R P ops Q (.one qs c t) a w := by
  unfold wpTree; rw [hl]; exact h
theorem wpTree_two {qs : List Nat} {c d : Nat} {t u : Tr} {a : Act} {w : World} {l : List Oper} (hl : pickOps ops qs = l)
    (h : wpQuiet P ops (ClR R w) (fun a' => wpOp P ops Q c (fun a'' w'' => R w w'' ∧ wpTree R P ops Q t a'' w'') a' w ∧ wpOp P ops Q d (fun a'' w'' => R w w'' ∧ wpTree R P ops Q u a'' w'') a' w) l a) : wpTree R P ops Q (.two qs c d t u) a w := by
  unfold wpTree; rw [hl]; exact h
end
end Go.Proofs.Ytnoofmdhhlcbkaa

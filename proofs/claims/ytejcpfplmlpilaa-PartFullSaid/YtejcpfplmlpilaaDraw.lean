/- A region that draws its order, whose operations only read but for some that let memory grow (calls, new blocks): one walk, in an order that the prover names, serves every order. No conditions but those that stand in each lemma. -/
import Derived.Below
import Derived.OrdersHeld
import Derived.StillTail
import Derived.Deep.Quiet
namespace Go.Proofs.Ytejcpfplmlpilaa
open Go.RowKit

/-- The world has grown at most: what was there is as it was. -/
def Ext (w w' : World) : Prop := Below w.heap.size w w'
theorem Ext.refl (w : World) : Ext w w := Below.refl _ _
theorem Ext.trans {a b c : World} (h : Ext a b) (k : Ext b c) : Ext a c := Below.trans h (Below.mono k h.size)
theorem Ext.drew (w : World) : Ext w w.drew := (Below.refl _ _).drew

/-- The worlds that have grown out of w, as a type: so that a fact on all of them is no implication. -/
def Above (w : World) : Type := { w' : World // Ext w w' }
instance (w : World) : Nonempty (Above w) := ⟨⟨w, Ext.refl w⟩⟩
/-- .. as a class. -/
def Cl (w : World) (w' : World) : Prop := ∃ g : Above w, w' = g.1
attribute [go_sem] Cl

section
variable {P : Program} {ops : Array Oper} {Q : Exit → Act → World → Prop} {md : Region.Mode}

/-- Whatever order is picked from here on, and each operation before number n that is carried out lets the world grow at most. -/
def wpAnyR (P : Program) (md : Region.Mode) (ops : Array Oper) (n : Nat) (Q : Exit → Act → World → Prop) : Nat → Array Bool → Act → World → Prop
  | 0, listed, a, w => Region.ready md ops listed = [] ∧ Q .normal a w
  | fuel + 1, listed, a, w =>
    (Region.ready md ops listed = [] → Q .normal a w) ∧
    ∀ i ∈ Region.ready md ops listed, wpOp P ops Q i (fun a' w' => (Ext w w' ∨ n ≤ i) ∧ wpAnyR P md ops n Q fuel (listed.setIfInBounds i true) a' w') a w

theorem wpAny_of_R {n : Nat} : ∀ (fuel : Nat) (listed : Array Bool) (a : Act) (w : World), wpAnyR P md ops n Q fuel listed a w → wpAny P md ops Q fuel listed a w
  | 0, _, _, _, h => h
  | fuel + 1, _, _, _, h => ⟨h.1, fun i hi => wpOp_mono (fun a' w' h' => wpAny_of_R fuel _ a' w' h'.2) (h.2 i hi)⟩

/-- What stands from number n on waits for all that stands before it. -/
def Waits (md : Region.Mode) (ops : Array Oper) (n : Nat) : Prop := ∀ (listed : Array Bool) (i : Nat), HeadInv md ops n listed → i < n → i ∈ Region.ready md ops listed → ∀ j ∈ Region.ready md ops listed, j < n
theorem waits_all : Waits md ops ops.size := fun _ _ _ _ _ j hj => by
  obtain ⟨_, o, ho, _⟩ := mem_ready.1 hj
  exact (Array.getElem?_eq_some_iff.1 ho).1
theorem waits_tail {n : Nat} (hs : Region.sinkB md ops n = true) (hc : Region.chainB md ops n = true) (hn : n < ops.size) : Waits md ops n := fun _ i inv hi hr j hj => by
  rcases Nat.lt_or_ge j n with h | h
  · exact h
  · exact absurd hj (tail_waits hs hc hn inv _ i rfl hi (mem_ready.1 hr).1 j h)

/-- Of two that may come up at once neither waits for the other. -/
theorem ready_apart {i j : Nat} {listed : Array Bool} {oj : Oper} (hi : i ∈ Region.ready md ops listed) (hj : j ∈ Region.ready md ops listed) (ho : ops[j]? = some oj) :
    ∀ e ∈ oj.after, Region.binds md e = true → e.on ≠ i := by
  rintro e he hb rfl
  obtain ⟨_, o, ho', hall⟩ := mem_ready.1 hj
  obtain rfl : o = oj := by rw [ho] at ho'; injection ho' with h; exact h.symm
  have h0 := (mem_ready.1 hi).1
  have h1 := hall e he hb
  by_cases hs : e.on < listed.size
  · simp [hs] at h0 h1
    rw [h0] at h1
    cases h1
  · simp [Array.getElem?_eq_none (Nat.le_of_not_lt hs)] at h1

/-- Nobody who is still to come, and does not wait for number i, touches its temporary, nor i theirs. -/
def Alone (md : Region.Mode) (ops : Array Oper) (i : Nat) (oi : Oper) (listed : Array Bool) : Prop :=
  ∀ j oj, ops[j]? = some oj → j ≠ i → listed.getD j true = false → (∀ e ∈ oj.after, Region.binds md e = true → e.on ≠ i) → oi.apart ops oj = true
theorem Alone.mark {i j : Nat} {oi : Oper} {listed : Array Bool} (h : Alone md ops i oi listed) (hj : listed.getD j true = false) : Alone md ops i oi (listed.setIfInBounds j true) := fun k ok hk hki hun hno => by
  by_cases hjk : j = k
  · exact h k ok hk hki (hjk ▸ hj) hno
  · exact h k ok hk hki (by rw [getD_set_ne true hjk] at hun; exact hun) hno

/-- An operation that only reads, and reads the same in every world that grows out of this one, may be taken first. -/
theorem wpAnyR_first {n i : Nat} {oi : Oper} {v : Value} (hi : ops[i]? = some oi) (hsel : ∀ (j : Nat) (o : Oper) cs b, ops[j]? = some o → o.op ≠ .select cs b) (hW : Waits md ops n) (hin : i < n)
    (hQ : ∀ c a d u w, Q (.panic c) (Act.put a d u) w → Q (.panic c) a w) (fuel : Nat) : ∀ (listed : Array Bool) (a : Act) (w : World), HeadInv md ops n listed → Alone md ops i oi listed →
      i ∈ Region.ready md ops listed → YieldsIf P ops (Ext w) oi v a →
      wpAnyR P md ops n Q fuel (listed.setIfInBounds i true) (a.put oi.dst v) w → wpAnyR P md ops n Q (fuel + 1) listed a w := by
  induction fuel with
  | zero =>
    intro listed a w _ _ hr hy H
    refine ⟨fun h => absurd hr (by rw [h]; exact List.not_mem_nil), fun j hj => ?_⟩
    rcases Nat.decEq j i with hji | hji
    · exact absurd (ready_mono hj hji) (by rw [H.1]; exact List.not_mem_nil)
    · subst hji
      exact hy.wpOp hi (Ext.refl w) ⟨.inl (Ext.refl w), H⟩
  | succ fuel ih =>
    intro listed a w inv hfree hr hy H
    refine ⟨fun h => absurd hr (by rw [h]; exact List.not_mem_nil), fun j hj => ?_⟩
    rcases Nat.decEq j i with hji | hji
    · obtain ⟨hun, oj, hoj, _⟩ := mem_ready.1 hj
      have hjn := hW listed i inv hin hr j hj
      have hap := hfree j oj hoj hji hun (ready_apart hr hj hoj)
      have later := wpOp_putIf hoj hap (fun cs b => hsel i oi cs b hi) (fun cs b => hsel j oj cs b hoj) (fun c a w => hQ c a _ _ w) hy (H.2 j (ready_mono hj hji))
      refine wpOp_mono (fun a' w' ⟨hy', hw0, H'⟩ => ?_) later
      have hw' : Ext w w' := hw0.resolve_right (by omega)
      refine ⟨.inl hw', ih _ a' w' (inv.set hj hjn) (hfree.mark hun) (ready_mono hr (Ne.symm hji)) ?_ ?_⟩
      · exact hy'.imp (fun ⟨x, y⟩ => ⟨x, fun w'' hw'' => y w'' (hw'.trans hw'')⟩) id
      · rw [Array.setIfInBounds_comm _ _ hji]
        exact H'
    · subst hji
      exact hy.wpOp hi (Ext.refl w) ⟨.inl (Ext.refl w), H⟩

/-- The kinds of operations that only read, and are no calls of Go functions; 'len' is one. -/
def isLen : Callee → Bool
  | .builtin .len => true
  | _ => false
def onlyReads : Op → Bool
  | .call c => isLen c.callee
  | .move _ | .assign _ | .pick .. | .binOp .. | .unOp .. | .convert .. | .slice .. | .index .. | .indexAddr .. | .load .. | .extract .. | .field .. | .fieldAddr .. | .nilCheck .. => true
  | _ => false

theorem value_of_v {s : Sem Value} {C : World → Prop} {w : World} {v : Value} (h : Oper.quietUpon P C w v ((do pure (Next.value (← s)) : Sem Next).run P w)) : (do pure (Next.value (← s)) : Sem Next).run P w = .ok (.value v) w := by
  rw [Sem.run_bind] at h ⊢
  cases hr : s.run P w with
  | ok u w' =>
    rw [hr] at h
    simp only [Result.andThen, Sem.run_pure, Oper.quietUpon] at h ⊢
    obtain ⟨rfl, rfl⟩ := h
    rfl
  | halt x w' =>
    rw [hr] at h
    simp only [Result.andThen, Oper.quietUpon] at h

theorem value_of_quiet {o : Oper} {ρ : Operand → Value} {C : World → Prop} {w : World} {v : Value} (hk : onlyReads o.op = true) (h : Oper.quietUpon P C w v ((execOp ρ o).run P w)) : (execOp ρ o).run P w = .ok (.value v) w := by
  unfold execOp at h ⊢
  cases ho : o.op <;> rw [ho] at hk <;> simp only [onlyReads] at hk <;> try cases hk
  all_goals simp only [ho] at h ⊢
  case move x => simp only [Sem.run_pure, Oper.quietUpon] at h ⊢; rw [h.2]
  case assign x => simp only [Sem.run_pure, Oper.quietUpon] at h ⊢; rw [h.2]
  case pick c a b =>
    rw [Sem.run_bind] at h ⊢
    cases hr : (asBool (ρ c)).run P w with
    | ok u w' =>
      rw [hr] at h
      simp only [Result.andThen, Sem.run_pure, Oper.quietUpon] at h ⊢
      obtain ⟨rfl, rfl⟩ := h
      rfl
    | halt x w' =>
      rw [hr] at h
      simp only [Result.andThen, Oper.quietUpon] at h
  case call c =>
    have hc : c.callee = .builtin .len := by
      cases hcal : c.callee with
      | builtin b => rw [hcal] at hk; cases b <;> first | rfl | cases hk
      | invoke r n => rw [hcal] at hk; cases hk
      | value f => rw [hcal] at hk; cases hk
    simp only [resolve, hc, Sem.run_bind, Sem.run_pure, Result.andThen_ok, invoke, builtin] at h ⊢
    cases hr : (Builtin.len_ c.argTypes o.type (c.args.map ρ)).run P w with
    | ok u w' =>
      rw [hr] at h
      simp only [Result.andThen, Oper.quietUpon] at h ⊢
      obtain ⟨rfl, rfl⟩ := h
      rfl
    | halt x w' =>
      rw [hr] at h
      simp only [Result.andThen, Oper.quietUpon] at h
  case nilCheck x =>
    generalize ρ x = y at h ⊢
    cases y with
    | pointer q =>
      cases q with
      | none => simp [runtimePanic, Sem.run_bind, Result.andThen, Oper.quietUpon] at h
      | some q => simp only [Sem.run_pure, Oper.quietUpon] at h ⊢; rw [h.2]
    | nilIface => simp [runtimePanic, Sem.run_bind, Result.andThen, Oper.quietUpon] at h
    | nilFunc => simp [runtimePanic, Sem.run_bind, Result.andThen, Oper.quietUpon] at h
    | func f first captured =>
      cases f with
      | method name =>
        dsimp only at h ⊢
        generalize first[0]? = z at h ⊢
        cases z with
        | none => simp only [Sem.run_pure, Oper.quietUpon] at h ⊢; rw [h.2]
        | some z =>
          cases z with
          | nilIface => simp [runtimePanic, Sem.run_bind, Result.andThen, Oper.quietUpon] at h
          | iface t u =>
            simp only [Sem.run_bind, run_program, Result.andThen_ok] at h ⊢
            cases hr : (nilAhead (P.types.size + Made.depth) t u name).run P w with
            | halt x w' => rw [hr] at h; simp [Result.andThen, Oper.quietUpon] at h
            | ok b w' =>
              rw [hr] at h
              simp only [Result.andThen_ok] at h ⊢
              split at h
              · simp [Result.andThen, Oper.quietUpon] at h
              · rename_i hb
                rw [if_neg hb]
                simp only [Sem.run_pure, Oper.quietUpon] at h ⊢
                rw [h.1, h.2]
          | _ => simp only [Sem.run_pure, Oper.quietUpon] at h ⊢; rw [h.2]
      | _ => simp only [Sem.run_pure, Oper.quietUpon] at h ⊢; rw [h.2]
    | _ => simp only [Sem.run_pure, Oper.quietUpon] at h ⊢; rw [h.2]
  all_goals exact value_of_v h

/-- The operations of these numbers. -/
def pickOps (ops : Array Oper) (qs : List Nat) : List Oper := qs.filterMap fun i => ops[i]?
def markAll (listed : Array Bool) (qs : List Nat) : Array Bool := qs.foldl (fun l i => l.setIfInBounds i true) listed
/-- These only read, and may be taken now, one behind the other. -/
def quietB (md : Region.Mode) (ops : Array Oper) (n : Nat) : List Nat → Array Bool → Bool
  | [], _ => true
  | i :: r, listed => decide (i < n) && (Region.ready md ops listed).contains i && Region.free md ops listed i && ((ops[i]?).map fun o => onlyReads o.op).getD false && quietB md ops n r (listed.setIfInBounds i true)
/-- The order that the prover names: some that only read, then one that is alone (each of 'segs'); at the end some that only read, and behind them the last one of all, if there is one that may write. -/
def orderB (md : Region.Mode) (ops : Array Oper) (n : Nat) : List (List Nat × Nat) → List Nat → Array Bool → Bool
  | [], last, listed => quietB md ops n last listed && (if n < ops.size then (Region.ready md ops (markAll listed last) == [n]) && (Region.ready md ops ((markAll listed last).setIfInBounds n true)).isEmpty else (Region.ready md ops (markAll listed last)).isEmpty)
  | (qs, c) :: r, last, listed => quietB md ops n qs listed && decide (c < n) && (Region.ready md ops (markAll listed qs) == [c]) && orderB md ops n r last ((markAll listed qs).setIfInBounds c true)
def lengthOf (segs : List (List Nat × Nat)) (last : List Nat) : Nat := (segs.map fun s => s.1.length + 1).sum + last.length

/-- The walk in that order. -/
def wpSegs (P : Program) (ops : Array Oper) (Q : Exit → Act → World → Prop) : List (List Nat × Nat) → List Nat → Act → World → Prop
  | [], last, a, w => wpQuiet P ops (Cl w) (fun a' => Q .normal a' w) (pickOps ops last) a
  | (qs, c) :: r, last, a, w => wpQuiet P ops (Cl w) (fun a' => wpOp P ops Q c (fun a'' w'' => Ext w w'' ∧ wpSegs P ops Q r last a'' w'') a' w) (pickOps ops qs) a
/-- .. with one at its end that may write. -/
def wpSegsT (P : Program) (ops : Array Oper) (n : Nat) (Q : Exit → Act → World → Prop) : List (List Nat × Nat) → List Nat → Act → World → Prop
  | [], last, a, w => wpQuiet P ops (Cl w) (fun a' => wpOp P ops Q n (fun a'' w'' => Q .normal a'' w'') a' w) (pickOps ops last) a
  | (qs, c) :: r, last, a, w => wpQuiet P ops (Cl w) (fun a' => wpOp P ops Q c (fun a'' w'' => Ext w w'' ∧ wpSegsT P ops n Q r last a'' w'') a' w) (pickOps ops qs) a

theorem headInv_marks {n : Nat} : ∀ (qs : List Nat) (listed : Array Bool), HeadInv md ops n listed → quietB md ops n qs listed = true → HeadInv md ops n (markAll listed qs)
  | [], _, inv, _ => inv
  | i :: r, listed, inv, hB => by
    simp only [quietB, Bool.and_eq_true, decide_eq_true_eq] at hB
    obtain ⟨⟨⟨⟨hin, hr⟩, _⟩, _⟩, hB'⟩ := hB
    exact headInv_marks r _ (inv.set (by simpa using hr) hin) hB'

theorem wpAnyR_quiet {n : Nat} (hs : Region.noSelect ops = true) (hW : Waits md ops n) (hQ : ∀ c a d u w, Q (.panic c) (Act.put a d u) w → Q (.panic c) a w) {K : Act → Prop} {w : World} (fuel : Nat) : ∀ (qs : List Nat) (listed : Array Bool) (a : Act), HeadInv md ops n listed →
    quietB md ops n qs listed = true → (∀ a', K a' → wpAnyR P md ops n Q fuel (markAll listed qs) a' w) → wpQuiet P ops (Cl w) K (pickOps ops qs) a → wpAnyR P md ops n Q (qs.length + fuel) listed a w
  | [], listed, a, _, _, hK, h => by rw [List.length_nil, Nat.zero_add]; exact hK a h
  | i :: r, listed, a, inv, hB, hK, h => by
    simp only [quietB, Bool.and_eq_true, decide_eq_true_eq] at hB
    obtain ⟨⟨⟨⟨hin, hr⟩, hf⟩, hk⟩, hB'⟩ := hB
    cases ho : ops[i]? with
    | none => rw [ho] at hk; cases hk
    | some o =>
      rw [ho] at hk
      have hk' : onlyReads o.op = true := hk
      have hp : pickOps ops (i :: r) = o :: pickOps ops r := by simp [pickOps, ho]
      rw [hp] at h
      rw [List.length_cons, Nat.add_right_comm]
      have hrd : i ∈ Region.ready md ops listed := by simpa using hr
      have go : ∀ v, YieldsIf P ops (Ext w) o v a → wpQuiet P ops (Cl w) K (pickOps ops r) (a.put o.dst v) → wpAnyR P md ops n Q (r.length + fuel + 1) listed a w := fun v hy hn =>
        wpAnyR_first ho (Region.noSelect_spec hs) hW hin hQ _ listed a w inv (Region.free_spec ho hf) hrd hy (wpAnyR_quiet hs hW hQ fuel r _ _ (inv.set hrd hin) hB' hK hn)
      unfold wpQuiet at h
      split at h
      · rename_i hw
        obtain ⟨v, hv, hn⟩ := h
        exact go v (.inl ⟨hw, fun w' hw' => value_of_quiet hk' (hv w' ⟨⟨w', hw'⟩, rfl⟩)⟩) hn
      · rename_i hw
        exact go undef (.inr ⟨by simpa using hw, rfl⟩) h

theorem wpAnyR_segs (hs : Region.noSelect ops = true) (hQ : ∀ c a d u w, Q (.panic c) (Act.put a d u) w → Q (.panic c) a w) : ∀ (segs : List (List Nat × Nat)) (last : List Nat) (listed : Array Bool) (a : Act) (w : World), HeadInv md ops ops.size listed →
    orderB md ops ops.size segs last listed = true → wpSegs P ops Q segs last a w → wpAnyR P md ops ops.size Q (lengthOf segs last) listed a w
  | [], last, listed, a, w, inv, hB, h => by
    simp only [orderB, Nat.lt_irrefl, if_false, Bool.and_eq_true, List.isEmpty_iff] at hB
    have := wpAnyR_quiet (P := P) hs waits_all hQ (w := w) 0 last listed a inv hB.1 (fun a' h' => ⟨hB.2, h'⟩) h
    simpa [lengthOf] using this
  | (qs, c) :: r, last, listed, a, w, inv, hB, h => by
    simp only [orderB, Bool.and_eq_true, beq_iff_eq, decide_eq_true_eq] at hB
    obtain ⟨⟨⟨h1, hc⟩, h2⟩, h3⟩ := hB
    have inv' := headInv_marks qs listed inv h1
    have := wpAnyR_quiet (P := P) hs waits_all hQ (w := w) (lengthOf r last + 1) qs listed a inv h1 (fun a' h' => by
      refine ⟨fun h0 => (by rw [h2] at h0; cases h0), fun i hi => ?_⟩
      have hi' := hi
      rw [h2] at hi
      obtain rfl : i = c := by simpa using hi
      exact wpOp_mono (fun a'' w'' hh => ⟨.inl hh.1, wpAnyR_segs hs hQ r last _ a'' w'' (inv'.set hi' hc) h3 hh.2⟩) h') h
    have e : lengthOf ((qs, c) :: r) last = qs.length + (lengthOf r last + 1) := by simp only [lengthOf, List.map_cons, List.sum_cons]; omega
    rw [e]
    exact this

theorem wpAnyR_segsT {n : Nat} (hs : Region.noSelect ops = true) (hW : Waits md ops n) (hn : n < ops.size) (hQ : ∀ c a d u w, Q (.panic c) (Act.put a d u) w → Q (.panic c) a w) : ∀ (segs : List (List Nat × Nat)) (last : List Nat) (listed : Array Bool) (a : Act) (w : World), HeadInv md ops n listed →
    orderB md ops n segs last listed = true → wpSegsT P ops n Q segs last a w → wpAnyR P md ops n Q (lengthOf segs last + 1) listed a w
  | [], last, listed, a, w, inv, hB, h => by
    simp only [orderB, if_pos hn, Bool.and_eq_true, beq_iff_eq, List.isEmpty_iff] at hB
    have := wpAnyR_quiet (P := P) hs hW hQ (w := w) 1 last listed a inv hB.1 (fun a' h' => by
      refine ⟨fun h0 => (by rw [hB.2.1] at h0; cases h0), fun i hi => ?_⟩
      rw [hB.2.1] at hi
      obtain rfl : i = n := by simpa using hi
      exact wpOp_mono (fun a'' w'' hh => ⟨.inr (Nat.le_refl _), hB.2.2, hh⟩) h') h
    simpa [lengthOf] using this
  | (qs, c) :: r, last, listed, a, w, inv, hB, h => by
    simp only [orderB, Bool.and_eq_true, beq_iff_eq, decide_eq_true_eq] at hB
    obtain ⟨⟨⟨h1, hc⟩, h2⟩, h3⟩ := hB
    have inv' := headInv_marks qs listed inv h1
    have := wpAnyR_quiet (P := P) hs hW hQ (w := w) (lengthOf r last + 1 + 1) qs listed a inv h1 (fun a' h' => by
      refine ⟨fun h0 => (by rw [h2] at h0; cases h0), fun i hi => ?_⟩
      have hi' := hi
      rw [h2] at hi
      obtain rfl : i = c := by simpa using hi
      exact wpOp_mono (fun a'' w'' hh => ⟨.inl hh.1, wpAnyR_segsT hs hW hn hQ r last _ a'' w'' (inv'.set hi' hc) h3 hh.2⟩) h') h
    have e : lengthOf ((qs, c) :: r) last + 1 = qs.length + (lengthOf r last + 1 + 1) := by simp only [lengthOf, List.map_cons, List.sum_cons]; omega
    rw [e]
    exact this

theorem headInv_none (n : Nat) : HeadInv md ops n (Array.replicate ops.size false) :=
  ⟨by simp, fun j oj _ hl => (by rw [getD_replicate_false] at hl; cases hl), fun t _ ht => getD_in (by simpa using ht) (getD_replicate_false _ _)⟩

/-- ONE WALK, IN AN ORDER THAT THE PROVER NAMES, SERVES EVERY ORDER. -/
theorem wp_region_segs {id : Nat} {a : Act} {w : World} {l : List Oper} (segs : List (List Nat × Nat)) (last : List Nat) (hm : P.follows .mixedOrders = true) (hs : Region.noSelect l.toArray = true) (hn : lengthOf segs last = l.length)
    (hB : orderB .any l.toArray l.toArray.size segs last (Array.replicate l.length false) = true) (hQ : ∀ c a d u w, Q (.panic c) (Act.put a d u) w → Q (.panic c) a w)
    (h : wpSegs P l.toArray Q segs last a w.drew) : (Code.region id l.toArray true).wp P Q a w := by
  refine wp_region_any hm (wpAny_of_R (n := l.toArray.size) _ _ _ _ ?_)
  have := wpAnyR_segs hs hQ segs last _ a w.drew (by simpa using headInv_none (md := .any) (ops := l.toArray) l.toArray.size) hB h
  rw [hn] at this
  simpa using this
/-- .. the same where the last operation of all, which waits for all others, may write (a store). -/
theorem wp_region_segsT {id : Nat} {a : Act} {w : World} {l : List Oper} (n : Nat) (segs : List (List Nat × Nat)) (last : List Nat) (hm : P.follows .mixedOrders = true) (hs : Region.noSelect l.toArray = true) (hn : lengthOf segs last + 1 = l.length ∧ n < l.toArray.size)
    (hw : (Region.sinkB .any l.toArray n && Region.chainB .any l.toArray n) = true)
    (hB : orderB .any l.toArray n segs last (Array.replicate l.length false) = true) (hQ : ∀ c a d u w, Q (.panic c) (Act.put a d u) w → Q (.panic c) a w)
    (h : wpSegsT P l.toArray n Q segs last a w.drew) : (Code.region id l.toArray true).wp P Q a w := by
  simp only [Bool.and_eq_true] at hw
  refine wp_region_any hm (wpAny_of_R (n := n) _ _ _ _ ?_)
  have := wpAnyR_segsT hs (waits_tail hw.1 hw.2 hn.2) hn.2 hQ segs last _ a w.drew (by simpa using headInv_none (md := .any) (ops := l.toArray) n) hB h
  rw [hn.1] at this
  simpa using this

/-- The next of those that are alone, behind some that only read. -/
theorem wpSegs_next {qs : List Nat} {c : Nat} {r : List (List Nat × Nat)} {last : List Nat} {a : Act} {w : World} {l : List Oper} (hl : pickOps ops qs = l)
    (h : wpQuiet P ops (Cl w) (fun a' => wpOp P ops Q c (fun a'' w'' => Ext w w'' ∧ wpSegs P ops Q r last a'' w'') a' w) l a) : wpSegs P ops Q ((qs, c) :: r) last a w := by
  unfold wpSegs; rw [hl]; exact h
theorem wpSegs_last {last : List Nat} {a : Act} {w : World} {l : List Oper} (hl : pickOps ops last = l) (h : wpQuiet P ops (Cl w) (fun a' => Q .normal a' w) l a) : wpSegs P ops Q [] last a w := by
  unfold wpSegs; rw [hl]; exact h
theorem wpSegsT_next {n : Nat} {qs : List Nat} {c : Nat} {r : List (List Nat × Nat)} {last : List Nat} {a : Act} {w : World} {l : List Oper} (hl : pickOps ops qs = l)
    (h : wpQuiet P ops (Cl w) (fun a' => wpOp P ops Q c (fun a'' w'' => Ext w w'' ∧ wpSegsT P ops n Q r last a'' w'') a' w) l a) : wpSegsT P ops n Q ((qs, c) :: r) last a w := by
  unfold wpSegsT; rw [hl]; exact h
theorem wpSegsT_last {n : Nat} {last : List Nat} {a : Act} {w : World} {l : List Oper} (hl : pickOps ops last = l) (h : wpQuiet P ops (Cl w) (fun a' => wpOp P ops Q n (fun a'' w'' => Q .normal a'' w'') a' w) l a) : wpSegsT P ops n Q [] last a w := by
  unfold wpSegsT; rw [hl]; exact h
/-- At the one that is alone: what follows behind a variable. -/
theorem wpOp_alone {c : Nat} {o : Oper} {K' : Act → World → Prop} {a : Act} {w : World} (hc : ops[c]? = some o) (hw : Region.wanted o (yielded ops a.tmps) = true)
    (h : ∀ K : Act → World → Prop, (∀ a' w', K' a' w' → K a' w') → o.wp P a w K Q) : wpOp P ops Q c K' a w := by
  unfold wpOp
  rw [hc]
  simp only [hw, if_true]
  exact .inl (h _ fun _ _ h => h)
end
end Go.Proofs.Ytejcpfplmlpilaa

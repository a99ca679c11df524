/- A region that draws its order: as Draw has it, but 'len' counts among the operations that only read. No conditions but those that stand in each lemma. -/
import Derived.Test.YtiddimfkcejfnaaDoorDraw
namespace Go.Proofs.YtiddimfkcejfnaaDoor.Len
open Go.RowKit

section
variable {P : Program} {ops : Array Oper} {Q : Exit → Act → World → Prop} {md : Region.Mode}
/-- The kinds of operations that only read, and are no calls of Go functions; 'len' is one. -/
def isLen : Callee → Bool
  | .builtin .len => true
  | _ => false
def onlyReads : Op → Bool
  | .call c => isLen c.callee
  | .move _ | .assign _ | .pick .. | .binOp .. | .unOp .. | .convert .. | .slice .. | .index .. | .indexAddr .. | .load .. | .extract .. | .field .. | .fieldAddr .. => true
  | _ => false

theorem value_of_v {s : Sem Value} {C : World → Prop} {w : World} {v : Value} (h : Oper.quietUpon P C w v ((do pure (Next.value (← s)) : Sem Next).run P w)) : (do pure (Next.value (← s)) : Sem Next).run P w = .ok (.value v) w := by
  rw [Sem.run_bind] at h ⊢
  cases hr : s.run P w with
  | ok u w' =>
    rw [hr] at h
    simp only [Result.andThen, Sem.run_pure, Oper.quietUpon] at h ⊢
    obtain ⟨rfl, rfl⟩ := h
    rfl
  | halt x w' =>
    rw [hr] at h
    simp only [Result.andThen, Oper.quietUpon] at h

theorem value_of_quiet {o : Oper} {ρ : Operand → Value} {C : World → Prop} {w : World} {v : Value} (hk : onlyReads o.op = true) (h : Oper.quietUpon P C w v ((execOp ρ o).run P w)) : (execOp ρ o).run P w = .ok (.value v) w := by
  unfold execOp at h ⊢
  cases ho : o.op <;> rw [ho] at hk <;> simp only [onlyReads] at hk <;> try cases hk
  all_goals simp only [ho] at h ⊢
  case move x => simp only [Sem.run_pure, Oper.quietUpon] at h ⊢; rw [h.2]
  case assign x => simp only [Sem.run_pure, Oper.quietUpon] at h ⊢; rw [h.2]
  case pick c a b =>
    rw [Sem.run_bind] at h ⊢
    cases hr : (asBool (ρ c)).run P w with
    | ok u w' =>
      rw [hr] at h
      simp only [Result.andThen, Sem.run_pure, Oper.quietUpon] at h ⊢
      obtain ⟨rfl, rfl⟩ := h
      rfl
    | halt x w' =>
      rw [hr] at h
      simp only [Result.andThen, Oper.quietUpon] at h
  case call c =>
    have hc : c.callee = .builtin .len := by
      cases hcal : c.callee with
      | builtin b => rw [hcal] at hk; cases b <;> first | rfl | cases hk
      | invoke r n => rw [hcal] at hk; cases hk
      | value f => rw [hcal] at hk; cases hk
    simp only [resolve, hc, Sem.run_bind, Sem.run_pure, Result.andThen_ok, invoke, builtin] at h ⊢
    cases hr : (Builtin.len_ c.argTypes o.type (c.args.map ρ)).run P w with
    | ok u w' =>
      rw [hr] at h
      simp only [Result.andThen, Oper.quietUpon] at h ⊢
      obtain ⟨rfl, rfl⟩ := h
      rfl
    | halt x w' =>
      rw [hr] at h
      simp only [Result.andThen, Oper.quietUpon] at h
  all_goals exact value_of_v h

/-- The operations of these numbers. -/
def pickOps (ops : Array Oper) (qs : List Nat) : List Oper := qs.filterMap fun i => ops[i]?
def markAll (listed : Array Bool) (qs : List Nat) : Array Bool := qs.foldl (fun l i => l.setIfInBounds i true) listed
/-- These only read, and may be taken now, one behind the other. -/
def quietB (md : Region.Mode) (ops : Array Oper) (n : Nat) : List Nat → Array Bool → Bool
  | [], _ => true
  | i :: r, listed => decide (i < n) && (Region.ready md ops listed).contains i && Region.free md ops listed i && ((ops[i]?).map fun o => onlyReads o.op).getD false && quietB md ops n r (listed.setIfInBounds i true)
/-- The order that the prover names: some that only read, then one that is alone (each of 'segs'); at the end some that only read, and behind them the last one of all, if there is one that may write. -/
def orderB (md : Region.Mode) (ops : Array Oper) (n : Nat) : List (List Nat × Nat) → List Nat → Array Bool → Bool
  | [], last, listed => quietB md ops n last listed && (if n < ops.size then (Region.ready md ops (markAll listed last) == [n]) && (Region.ready md ops ((markAll listed last).setIfInBounds n true)).isEmpty else (Region.ready md ops (markAll listed last)).isEmpty)
  | (qs, c) :: r, last, listed => quietB md ops n qs listed && decide (c < n) && (Region.ready md ops (markAll listed qs) == [c]) && orderB md ops n r last ((markAll listed qs).setIfInBounds c true)
def lengthOf (segs : List (List Nat × Nat)) (last : List Nat) : Nat := (segs.map fun s => s.1.length + 1).sum + last.length

/-- The walk in that order. -/
def wpSegs (P : Program) (ops : Array Oper) (Q : Exit → Act → World → Prop) : List (List Nat × Nat) → List Nat → Act → World → Prop
  | [], last, a, w => wpQuiet P ops (Cl w) (fun a' => Q .normal a' w) (pickOps ops last) a
  | (qs, c) :: r, last, a, w => wpQuiet P ops (Cl w) (fun a' => wpOp P ops Q c (fun a'' w'' => Ext w w'' ∧ wpSegs P ops Q r last a'' w'') a' w) (pickOps ops qs) a
theorem headInv_marks {n : Nat} : ∀ (qs : List Nat) (listed : Array Bool), HeadInv md ops n listed → quietB md ops n qs listed = true → HeadInv md ops n (markAll listed qs)
  | [], _, inv, _ => inv
  | i :: r, listed, inv, hB => by
    simp only [quietB, Bool.and_eq_true, decide_eq_true_eq] at hB
    obtain ⟨⟨⟨⟨hin, hr⟩, _⟩, _⟩, hB'⟩ := hB
    exact headInv_marks r _ (inv.set (by simpa using hr) hin) hB'

theorem wpAnyR_quiet {n : Nat} (hs : Region.noSelect ops = true) (hW : Waits md ops n) (hQ : ∀ c a d u w, Q (.panic c) (Act.put a d u) w → Q (.panic c) a w) {K : Act → Prop} {w : World} (fuel : Nat) : ∀ (qs : List Nat) (listed : Array Bool) (a : Act), HeadInv md ops n listed →
    quietB md ops n qs listed = true → (∀ a', K a' → wpAnyR P md ops n Q fuel (markAll listed qs) a' w) → wpQuiet P ops (Cl w) K (pickOps ops qs) a → wpAnyR P md ops n Q (qs.length + fuel) listed a w
  | [], listed, a, _, _, hK, h => by rw [List.length_nil, Nat.zero_add]; exact hK a h
  | i :: r, listed, a, inv, hB, hK, h => by
    simp only [quietB, Bool.and_eq_true, decide_eq_true_eq] at hB
    obtain ⟨⟨⟨⟨hin, hr⟩, hf⟩, hk⟩, hB'⟩ := hB
    cases ho : ops[i]? with
    | none => rw [ho] at hk; cases hk
    | some o =>
      rw [ho] at hk
      have hk' : onlyReads o.op = true := hk
      have hp : pickOps ops (i :: r) = o :: pickOps ops r := by simp [pickOps, ho]
      rw [hp] at h
      rw [List.length_cons, Nat.add_right_comm]
      have hrd : i ∈ Region.ready md ops listed := by simpa using hr
      have go : ∀ v, YieldsIf P ops (Ext w) o v a → wpQuiet P ops (Cl w) K (pickOps ops r) (a.put o.dst v) → wpAnyR P md ops n Q (r.length + fuel + 1) listed a w := fun v hy hn =>
        wpAnyR_first ho (Region.noSelect_spec hs) hW hin hQ _ listed a w inv (Region.free_spec ho hf) hrd hy (wpAnyR_quiet hs hW hQ fuel r _ _ (inv.set hrd hin) hB' hK hn)
      unfold wpQuiet at h
      split at h
      · rename_i hw
        obtain ⟨v, hv, hn⟩ := h
        exact go v (.inl ⟨hw, fun w' hw' => value_of_quiet hk' (hv w' ⟨⟨w', hw'⟩, rfl⟩)⟩) hn
      · rename_i hw
        exact go undef (.inr ⟨by simpa using hw, rfl⟩) h

theorem wpAnyR_segs (hs : Region.noSelect ops = true) (hQ : ∀ c a d u w, Q (.panic c) (Act.put a d u) w → Q (.panic c) a w) : ∀ (segs : List (List Nat × Nat)) (last : List Nat) (listed : Array Bool) (a : Act) (w : World), HeadInv md ops ops.size listed →
    orderB md ops ops.size segs last listed = true → wpSegs P ops Q segs last a w → wpAnyR P md ops ops.size Q (lengthOf segs last) listed a w
  | [], last, listed, a, w, inv, hB, h => by
    simp only [orderB, Nat.lt_irrefl, if_false, Bool.and_eq_true, List.isEmpty_iff] at hB
    have := wpAnyR_quiet (P := P) hs waits_all hQ (w := w) 0 last listed a inv hB.1 (fun a' h' => ⟨hB.2, h'⟩) h
    simpa [lengthOf] using this
  | (qs, c) :: r, last, listed, a, w, inv, hB, h => by
    simp only [orderB, Bool.and_eq_true, beq_iff_eq, decide_eq_true_eq] at hB
    obtain ⟨⟨⟨h1, hc⟩, h2⟩, h3⟩ := hB
    have inv' := headInv_marks qs listed inv h1
    have := wpAnyR_quiet (P := P) hs waits_all hQ (w := w) (lengthOf r last + 1) qs listed a inv h1 (fun a' h' => by
      refine ⟨fun h0 => (by rw [h2] at h0; cases h0), fun i hi => ?_⟩
      have hi' := hi
      rw [h2] at hi
      obtain rfl : i = c := by simpa using hi
      exact wpOp_mono (fun a'' w'' hh => ⟨.inl hh.1, wpAnyR_segs hs hQ r last _ a'' w'' (inv'.set hi' hc) h3 hh.2⟩) h') h
    have e : lengthOf ((qs, c) :: r) last = qs.length + (lengthOf r last + 1) := by simp only [lengthOf, List.map_cons, List.sum_cons]; omega
    rw [e]
    exact this

/-- ONE WALK, IN AN ORDER THAT THE PROVER NAMES, SERVES EVERY ORDER. -/
theorem wp_region_segs {id : Nat} {a : Act} {w : World} {l : List Oper} (segs : List (List Nat × Nat)) (last : List Nat) (hm : P.follows .mixedOrders = true) (hs : Region.noSelect l.toArray = true) (hn : lengthOf segs last = l.length)
    (hB : orderB .any l.toArray l.toArray.size segs last (Array.replicate l.length false) = true) (hQ : ∀ c a d u w, Q (.panic c) (Act.put a d u) w → Q (.panic c) a w)
    (h : wpSegs P l.toArray Q segs last a w.drew) : (Code.region id l.toArray true).wp P Q a w := by
  refine wp_region_any hm (wpAny_of_R (n := l.toArray.size) _ _ _ _ ?_)
  have := wpAnyR_segs hs hQ segs last _ a w.drew (by simpa using headInv_none (md := .any) (ops := l.toArray) l.toArray.size) hB h
  rw [hn] at this
  simpa using this
/-- The next of those that are alone, behind some that only read. -/
theorem wpSegs_next {qs : List Nat} {c : Nat} {r : List (List Nat × Nat)} {last : List Nat} {a : Act} {w : World} {l : List Oper} (hl : pickOps ops qs = l)
    (h : wpQuiet P ops (Cl w) (fun a' => wpOp P ops Q c (fun a'' w'' => Ext w w'' ∧ wpSegs P ops Q r last a'' w'') a' w) l a) : wpSegs P ops Q ((qs, c) :: r) last a w := by
  unfold wpSegs; rw [hl]; exact h
theorem wpSegs_last {last : List Nat} {a : Act} {w : World} {l : List Oper} (hl : pickOps ops last = l) (h : wpQuiet P ops (Cl w) (fun a' => Q .normal a' w) l a) : wpSegs P ops Q [] last a w := by
  unfold wpSegs; rw [hl]; exact h
end
end Go.Proofs.YtiddimfkcejfnaaDoor.Len

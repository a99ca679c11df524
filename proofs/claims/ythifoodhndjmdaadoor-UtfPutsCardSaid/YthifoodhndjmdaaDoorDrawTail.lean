/- A region that draws its order and ends in a row of operations, each of which waits for all that stands before it, and which may write. No conditions but those that stand in each lemma. -/
import Derived.Test.YthifoodhndjmdaaDoorDraw
namespace Go.Proofs.YthifoodhndjmdaaDoor
open Go.RowKit

section
variable {P : Program} {ops : Array Oper} {Q : Exit → Act → World → Prop} {md : Region.Mode}
/-- Of these each comes up alone, one behind the other, and behind them nothing. -/
def tailB (md : Region.Mode) (ops : Array Oper) : List Nat → Array Bool → Bool
  | [], listed => (Region.ready md ops listed).isEmpty
  | c :: r, listed => (Region.ready md ops listed == [c]) && tailB md ops r (listed.setIfInBounds c true)
def orderUB (md : Region.Mode) (ops : Array Oper) (n : Nat) (tl : List Nat) : List (List Nat × Nat) → List Nat → Array Bool → Bool
  | [], last, listed => quietB md ops n last listed && tl.all (fun c => decide (n ≤ c)) && tailB md ops tl (markAll listed last)
  | (qs, c) :: r, last, listed => quietB md ops n qs listed && decide (c < n) && (Region.ready md ops (markAll listed qs) == [c]) && orderUB md ops n tl r last ((markAll listed qs).setIfInBounds c true)
def wpTail (P : Program) (ops : Array Oper) (Q : Exit → Act → World → Prop) : List Nat → Act → World → Prop
  | [], a, w => Q .normal a w
  | c :: r, a, w => wpOp P ops Q c (fun a' w' => wpTail P ops Q r a' w') a w
def wpSegsU (P : Program) (ops : Array Oper) (tl : List Nat) (Q : Exit → Act → World → Prop) : List (List Nat × Nat) → List Nat → Act → World → Prop
  | [], last, a, w => wpQuiet P ops (Cl w) (fun a' => wpTail P ops Q tl a' w) (pickOps ops last) a
  | (qs, c) :: r, last, a, w => wpQuiet P ops (Cl w) (fun a' => wpOp P ops Q c (fun a'' w'' => Ext w w'' ∧ wpSegsU P ops tl Q r last a'' w'') a' w) (pickOps ops qs) a

theorem wpAnyR_tail {n : Nat} : ∀ (tl : List Nat) (listed : Array Bool) (a : Act) (w : World), (∀ c ∈ tl, n ≤ c) → tailB md ops tl listed = true → wpTail P ops Q tl a w → wpAnyR P md ops n Q tl.length listed a w
  | [], listed, a, w, _, hB, h => ⟨by simpa [tailB] using hB, h⟩
  | c :: r, listed, a, w, hn, hB, h => by
    simp only [tailB, Bool.and_eq_true, beq_iff_eq] at hB
    refine ⟨fun h0 => (by rw [hB.1] at h0; cases h0), fun i hi => ?_⟩
    rw [hB.1] at hi
    obtain rfl : i = c := by simpa using hi
    exact wpOp_mono (fun a' w' h' => ⟨.inr (hn i (List.mem_cons_self ..)), wpAnyR_tail r _ a' w' (fun d hd => hn d (List.mem_cons_of_mem _ hd)) hB.2 h'⟩) h

theorem wpAnyR_segsU {n : Nat} {tl : List Nat} (hs : Region.noSelect ops = true) (hW : Waits md ops n) (hQ : ∀ c a d u w, Q (.panic c) (Act.put a d u) w → Q (.panic c) a w) : ∀ (segs : List (List Nat × Nat)) (last : List Nat) (listed : Array Bool) (a : Act) (w : World), HeadInv md ops n listed →
    orderUB md ops n tl segs last listed = true → wpSegsU P ops tl Q segs last a w → wpAnyR P md ops n Q (lengthOf segs last + tl.length) listed a w
  | [], last, listed, a, w, inv, hB, h => by
    simp only [orderUB, Bool.and_eq_true, List.all_eq_true, decide_eq_true_eq] at hB
    have := wpAnyR_quiet (P := P) hs hW hQ (w := w) tl.length last listed a inv hB.1.1 (fun a' h' => wpAnyR_tail tl _ a' w hB.1.2 hB.2 h') h
    simpa [lengthOf] using this
  | (qs, c) :: r, last, listed, a, w, inv, hB, h => by
    simp only [orderUB, Bool.and_eq_true, beq_iff_eq, decide_eq_true_eq] at hB
    obtain ⟨⟨⟨h1, hc⟩, h2⟩, h3⟩ := hB
    have inv' := headInv_marks qs listed inv h1
    have := wpAnyR_quiet (P := P) hs hW hQ (w := w) (lengthOf r last + tl.length + 1) qs listed a inv h1 (fun a' h' => by
      refine ⟨fun h0 => (by rw [h2] at h0; cases h0), fun i hi => ?_⟩
      have hi' := hi
      rw [h2] at hi
      obtain rfl : i = c := by simpa using hi
      exact wpOp_mono (fun a'' w'' hh => ⟨.inl hh.1, wpAnyR_segsU hs hW hQ r last _ a'' w'' (inv'.set hi' hc) h3 hh.2⟩) h') h
    have e : lengthOf ((qs, c) :: r) last + tl.length = qs.length + (lengthOf r last + tl.length + 1) := by simp only [lengthOf, List.map_cons, List.sum_cons]; omega
    rw [e]
    exact this

/-- .. in an order that the prover names, with a row at its end that may write. -/
theorem wp_region_segsU {id : Nat} {a : Act} {w : World} {l : List Oper} (n : Nat) (segs : List (List Nat × Nat)) (last : List Nat) (tl : List Nat) (hm : P.follows .mixedOrders = true) (hs : Region.noSelect l.toArray = true) (hn : lengthOf segs last + tl.length = l.length ∧ n < l.toArray.size)
    (hw : (Region.sinkB .any l.toArray n && Region.chainB .any l.toArray n) = true)
    (hB : orderUB .any l.toArray n tl segs last (Array.replicate l.length false) = true) (hQ : ∀ c a d u w, Q (.panic c) (Act.put a d u) w → Q (.panic c) a w)
    (h : wpSegsU P l.toArray tl Q segs last a w.drew) : (Code.region id l.toArray true).wp P Q a w := by
  simp only [Bool.and_eq_true] at hw
  refine wp_region_any hm (wpAny_of_R (n := n) _ _ _ _ ?_)
  have := wpAnyR_segsU hs (waits_tail hw.1 hw.2 hn.2) hQ segs last _ a w.drew (by simpa using headInv_none (md := .any) (ops := l.toArray) n) hB h
  rw [hn.1] at this
  simpa using this
theorem wpSegsU_next {tl : List Nat} {qs : List Nat} {c : Nat} {r : List (List Nat × Nat)} {last : List Nat} {a : Act} {w : World} {l : List Oper} (hl : pickOps ops qs = l)
    (h : wpQuiet P ops (Cl w) (fun a' => wpOp P ops Q c (fun a'' w'' => Ext w w'' ∧ wpSegsU P ops tl Q r last a'' w'') a' w) l a) : wpSegsU P ops tl Q ((qs, c) :: r) last a w := by
  unfold wpSegsU; rw [hl]; exact h
theorem wpSegsU_last {tl : List Nat} {last : List Nat} {a : Act} {w : World} {l : List Oper} (hl : pickOps ops last = l) (h : wpQuiet P ops (Cl w) (fun a' => wpTail P ops Q tl a' w) l a) : wpSegsU P ops tl Q [] last a w := by
  unfold wpSegsU; rw [hl]; exact h
end
end Go.Proofs.YthifoodhndjmdaaDoor

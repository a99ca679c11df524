/- Two labels held against each other, in a walk; a small label, sealed. No conditions but those that stand in each lemma. -/
import Derived.Test.YtcolicmefehcnaaDoorLblSeal
namespace Go.Proofs.YtcolicmefehcnaaDoor
open Go.RowKit

theorem guardL : Tryd.prog.eqGuardType Tryd.prog.depth 27 = false := by kernel_rfl
theorem guardR : Tryd.prog.eqGuardType Tryd.prog.depth 34 = false := by kernel_rfl
theorem wpList_eqlL {T : TypeId} (hT : LT T) {ops : Array Oper} {rest : List Oper} {o : Oper} {a : Act} {w : World} {Q : Exit → Act → World → Prop} (hg : Tryd.prog.eqGuardType Tryd.prog.depth T = false) (x y : Operand) (S : TypeId) (ho : o.op = .binOp .eql T x y S) (hw : Region.wanted o (yielded ops a.tmps) = true)
    (p q : Lb) (hx : a.eval x = .agg (lcells p)) (hy : a.eval y = .agg (lcells q)) (hp : p.root.sha.length = 32) (hq : q.root.sha.length = 32) (v : Bool) (hv : Lb.same p q = v)
    (h : wpList Tryd.prog ops Q rest (a.put o.dst (.bool v)) w) : wpList Tryd.prog ops Q (o :: rest) a w := by
  subst hv
  refine wpList_wanted hw fun K hK => ?_
  unfold Oper.wp execOp
  simp only [ho, hx, hy, Sem.run_bind, run_eqGuard_agg _ _ _ _ _ _ _ hg, eql_lbs hT w p q hp hq, Result.andThen_ok, Sem.run_pure]
  exact hK _ _ h
theorem small_ok (a b : Int) (h1 : 1 ≤ a) (h2 : a ≤ 1152921504606846976) (h3 : 1 ≤ b) (h4 : b ≤ 1152921504606846976) : (Lb.mk a Pt.zero b).Ok ∧ (Lb.mk a Pt.zero b).right = true :=
  ⟨⟨by show _ ≤ a; omega, by show a ≤ _; omega, Pt.zero_ok, by show _ ≤ b; omega, by show b ≤ _; omega⟩, Lb.right_iff.2 ⟨⟨h1, h2⟩, ⟨h3, h4⟩, .inl (Pt.same_self _)⟩⟩
/-- A small label is sealed. -/
theorem seal_small (a b : Int) (h1 : 1 ≤ a) (h2 : a ≤ 1152921504606846976) (h3 : 1 ≤ b) (h4 : b ≤ 1152921504606846976) (w : World) (ht : Tab w) :
    Calls Tryd.prog 7 #[.agg (lcells ⟨a, Pt.zero, b⟩)] w fun e w' => Below w.heap.size w w' ∧ ∃ g c, e = .returned (.tuple #[.slice (some ⟨g, 0, none⟩) 512 c, .int .i64 (a.tmod 2), .int .i64 0]) ∧ Own w' w.heap.size (some ⟨g, 0, none⟩) c (sealB ⟨a, Pt.zero, b⟩) := by
  have hs := small_ok a b h1 h2 h3 h4
  refine (seal_any ⟨a, Pt.zero, b⟩ w hs.1 ht).mono ?_
  rintro e w' ⟨hb, ⟨_, g, c, rfl, ho⟩ | ⟨hr, _⟩⟩
  · exact ⟨hb, g, c, rfl, ho⟩
  · rw [hs.2] at hr
    cases hr
end Go.Proofs.YtcolicmefehcnaaDoor

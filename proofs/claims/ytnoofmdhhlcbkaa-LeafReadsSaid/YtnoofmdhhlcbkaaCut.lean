/- A slice of bytes from a place on, and up to one (with a third index), in a walk, and in a region that draws its order. No conditions but those that stand in each lemma. -/
import Derived.Test.YtnoofmdhhlcbkaaBase
import Derived.Test.YtnoofmdhhlcbkaaMem
import Derived.Test.YtnoofmdhhlcbkaaDraw
namespace Go.Proofs.Ytnoofmdhhlcbkaa
open Go.RowKit
namespace Cut

/-- The address behind a cut of the first j elements. -/
def cutA (A : Option Addr) (c j : Nat) : Option Addr := if c = j then A else A.map (·.add j)
theorem src_cut {k : IntKind} {w : World} {A : Option Addr} {xs : List Int} (h : Src k w A xs) {j c : Nat} (hj : j ≤ xs.length) (hc : xs.length ≤ c) : Src k w (cutA A c j) (xs.drop j) := Src.drop h j c hj hc
theorem src_take {k : IntKind} {w : World} {A : Option Addr} {xs : List Int} (h : Src k w A xs) {j : Nat} (hj : j ≤ xs.length) : Src k w (cutA A j 0) (xs.take j) := by
  unfold cutA
  by_cases h0 : j = 0
  · subst h0; intro hn; simp at hn
  · rw [if_neg h0]
    have := h.take j
    intro hn
    obtain ⟨b, o, rfl, hlt, hc⟩ := this hn
    have hadd : (⟨b, o, none⟩ : Addr).add 0 = ⟨b, o, none⟩ := by unfold Addr.add; split <;> simp_all
    exact ⟨b, o, by simp [hadd], hlt, hc⟩
section
variable {P : Program} {t e : TypeId} (hu : P.underlying t = some (.slice e)) (hz : (P.info? e).map (·.size) = some 1)
include hu hz
theorem run_low (w : World) (A : Option Addr) (n c j : Nat) (k : IntKind) (hj : j ≤ n) : (Instr.sliceAt t (.slice A n c) (some (.int k (j : Int))) none none).run P w = .ok (.slice (cutA A c j) (n - j) (c - j)) w := by
  cases hq : P.info? e with
  | none => simp [hq] at hz
  | some i =>
    have hs : i.size = 1 := by simpa [hq] using hz
    have hk' : (0 : Int) ≤ (j : Int) ∧ (j : Int) ≤ (n : Int) := by omega
    have ha : ∀ w', (asIntOf (.int k (j : Int))).run P w' = .ok (k, (j : Int)) w' := fun w' => by simp [asIntOf]
    have hb : ∀ w', (Instr.sliceBound (.int k (j : Int)) n .sliceB).run P w' = .ok j w' := fun w' => by
      unfold Instr.sliceBound
      simp only [Sem.run_bind, ha, Result.andThen_ok]
      rw [if_pos hk']
      simp
    unfold Instr.sliceAt
    simp only [Sem.run_bind, run_underlying hu w, Result.andThen_ok]
    unfold Instr.slice Instr.sliceBounds
    simp [Sem.run_bind, run_underlying hu w, hb, sizeOf, typeInfo, hq, hs, cutA]
theorem run_three (w : World) (A : Option Addr) (n c j : Nat) (k k' : IntKind) (hj : j ≤ c) : (Instr.sliceAt t (.slice A n c) none (some (.int k (j : Int))) (some (.int k' (j : Int)))).run P w = .ok (.slice (cutA A j 0) j j) w := by
  cases hq : P.info? e with
  | none => simp [hq] at hz
  | some i =>
    have hk1 : (0 : Int) ≤ (j : Int) ∧ (j : Int) ≤ (c : Int) := by omega
    have hk2 : (0 : Int) ≤ (j : Int) ∧ (j : Int) ≤ (j : Int) := by omega
    have ha : ∀ (k : IntKind) w', (asIntOf (.int k (j : Int))).run P w' = .ok (k, (j : Int)) w' := fun k w' => by simp [asIntOf]
    have hb : ∀ w', (Instr.sliceBound (.int k' (j : Int)) c .slice3Acap).run P w' = .ok j w' := fun w' => by
      unfold Instr.sliceBound
      simp only [Sem.run_bind, ha, Result.andThen_ok]
      rw [if_pos hk1]
      simp
    have hb2 : ∀ w', (Instr.sliceBound (.int k (j : Int)) j .slice3B).run P w' = .ok j w' := fun w' => by
      unfold Instr.sliceBound
      simp only [Sem.run_bind, ha, Result.andThen_ok]
      rw [if_pos hk2]
      simp
    unfold Instr.sliceAt
    simp only [Sem.run_bind, run_underlying hu w, Result.andThen_ok]
    unfold Instr.slice Instr.sliceBounds
    simp [Sem.run_bind, run_underlying hu w, hb, hb2, sizeOf, typeInfo, hq, cutA]
end
section
variable {P : Program} {ops : Array Oper} {rest : List Oper} {o : Oper} {a : Act} {w : World} {Q : Exit → Act → World → Prop}
/-- An operation whose answer is known, the world as it is. -/
theorem wpList_run (hw : Region.wanted o (yielded ops a.tmps) = true) (v : Value) (hv : (execOp a.eval o).run P w = .ok (.value v) w) (h : wpList P ops Q rest (a.put o.dst v) w) : wpList P ops Q (o :: rest) a w := by
  refine wpList_wanted hw fun K hK => ?_
  unfold Oper.wp
  rw [hv, Oper.upon_value]
  exact hK _ _ h
theorem wpQuiet_run {K : Act → Prop} (hw : Region.wanted o (yielded ops a.tmps) = true) (v : Value) (hv : ∀ g : Above w, (execOp a.eval o).run P g.1 = .ok (.value v) g.1) (h : wpQuiet P ops (Cl w) K rest (a.put o.dst v)) : wpQuiet P ops (Cl w) K (o :: rest) a := by
  unfold wpQuiet
  rw [if_pos hw]
  refine ⟨v, fun w' ⟨g, hg⟩ => ?_, h⟩
  subst hg
  unfold Oper.quietAt
  rw [hv g]
  exact ⟨rfl, rfl⟩
theorem exec_low {t e : TypeId} (hu : P.underlying t = some (.slice e)) (hz : (P.info? e).map (·.size) = some 1) {x y : Operand} (ho : o.op = .slice t x (some y) none none) {A : Option Addr} {n c j : Nat} {k : IntKind} (hx : a.eval x = .slice A n c) (hy : a.eval y = .int k (j : Int)) (hj : j ≤ n) (w : World) :
    (execOp a.eval o).run P w = .ok (.value (.slice (cutA A c j) (n - j) (c - j))) w := by
  unfold execOp
  simp only [ho, hx, hy, Option.map_some, Option.map_none, Sem.run_bind, run_low hu hz w A n c j k hj, Result.andThen_ok, Sem.run_pure]
theorem exec_three {t e : TypeId} (hu : P.underlying t = some (.slice e)) (hz : (P.info? e).map (·.size) = some 1) {x y z : Operand} (ho : o.op = .slice t x none (some y) (some z)) {A : Option Addr} {n c j : Nat} {k k' : IntKind} (hx : a.eval x = .slice A n c) (hy : a.eval y = .int k (j : Int)) (hz' : a.eval z = .int k' (j : Int)) (hj : j ≤ c) (w : World) :
    (execOp a.eval o).run P w = .ok (.value (.slice (cutA A j 0) j j)) w := by
  unfold execOp
  simp only [ho, hx, hy, hz', Option.map_some, Option.map_none, Sem.run_bind, run_three hu hz w A n c j k k' hj, Result.andThen_ok, Sem.run_pure]
end
theorem size8 : (Try.prog.info? 5).map (·.size) = some 1 := by kernel_rfl
end Cut
end Go.Proofs.Ytnoofmdhhlcbkaa

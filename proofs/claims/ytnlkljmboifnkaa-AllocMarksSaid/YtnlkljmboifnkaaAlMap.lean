/- The map of what waits, as a datum; its range at a round's head. No conditions but those that stand in each lemma. -/
import Derived.Test.YtnlkljmboifnkaaAlRow
namespace Go.Proofs.Ytnlkljmboifnkaa
open Go.RowKit Go.Maps

theorem alD_has (ep : Int) (o : Option SlV) (z : Lit) : has (alD ep o) z = (o.isSome && (Lit.int .i64 ep).sameKey z) := by
  cases o <;> simp [alD, has]
theorem alKey_self (ep : Int) : (Lit.int .i64 ep).sameKey (.int .i64 ep) = true := WideAt.sameKey_self trivial
theorem alD_put (ep : Int) (o : Option SlV) (x : SlV) : (alD ep o).put (.int .i64 ep) (.held x) = alD ep (some x) := by
  cases o with
  | none => rfl
  | some y => simp [alD, DataW.put, alKey_self, DataW.insert]
theorem alD_del (ep : Int) (o : Option SlV) : (alD ep o).del (.int .i64 ep) = .map [] := by
  cases o with
  | none => rfl
  | some y => simp [alD, DataW.del, alKey_self]
theorem alD_at (ep : Int) (o : Option SlV) : (alD ep o).atKey (.int .i64 ep) (.held (none, 0, 0)) = .held (alX o) := by
  cases o with
  | none => rfl
  | some y => simp [alD, DataW.atKey, alKey_self, alX]
/-- An entry that comes up is the one there is. -/
theorem alD_next {ep : Int} {o : Option SlV} {kl : Lit} {d : DataW SlV} (hh : has (alD ep o) kl = true) (hat : ∀ zd, (alD ep o).atKey kl zd = d) : kl = .int .i64 ep ∧ ∃ x, o = some x ∧ d = .held x := by
  rw [alD_has] at hh
  cases o with
  | none => cases hh
  | some x =>
    have e := WideAt.sameKey_eq (by simpa using hh)
    subst e
    exact ⟨rfl, x, rfl, by rw [← hat (.held (none, 0, 0)), alD_at]; rfl⟩
theorem alD_none {ep : Int} {o : Option SlV} (h : ∀ z, has (alD ep o) z = false) : o = none := by
  cases o with
  | none => rfl
  | some x => have := h (.int .i64 ep); rw [alD_has, alKey_self] at this; cases this
theorem alD_mt (ep : Int) (z : Lit) : has (alD ep none) z = false := rfl
theorem strike_all {ep : Int} {o : Option SlV} {left : Lit → Bool} (h : ∀ z, left z = has (alD ep o) z) (z : Lit) : (left z && !z.sameKey (.int .i64 ep)) = false := by
  rw [h, alD_has]
  cases o with
  | none => rfl
  | some x =>
    by_cases e : z = .int .i64 ep
    · subst e; rw [alKey_self]; rfl
    · rw [sameKey_ne (Ne.symm e)]; rfl
/-- The step of a range over the map of what waits. -/
theorem wpList_next_al {ops : Array Oper} {rest : List Oper} {oo : Oper} {a : Act} {w : World} {Q : Exit → Act → World → Prop} (hg : oo.guard = none) (it : Operand) (hop : oo.op = Op.next it false) {m r k cnt : Nat} {ep : Int} {o : Option SlV} {left : Lit → Bool}
    (hit : a.eval it = .pointer (some ⟨r, 0, none⟩)) (h : w.ranges Try.prog 3 slR m r k (alD ep o) left cnt) (hl : (∀ z, left z = has (alD ep o) z) ∨ (∀ z, left z = false))
    (hDone : (o = none ∨ ∀ z, left z = false) → wpList Try.prog ops Q rest (a.put oo.dst (.tuple #[.bool false])) w)
    (hMore : ∀ (A : Option Addr) (n c : Nat) (w' : World) (left' : Lit → Bool) (cnt' : Nat), o = some (A, n, c) → (∀ z, left z = has (alD ep o) z) → w'.ranges Try.prog 3 slR m r k (alD ep o) left' cnt' → (∀ z, left' z = false) → cnt' < cnt →
      w.grownBy w' (some r) → w'.heap.size = w.heap.size → (Instr.entry (.pointer (some ⟨r, 0, none⟩))).run Try.prog w' = .ok (.tuple #[.int .i64 ep, .slice A n c]) w' → wpList Try.prog ops Q rest (a.put oo.dst (.tuple #[.bool true, .int .i64 ep, .slice A n c])) w') :
    wpList Try.prog ops Q (oo :: rest) a w := by
  refine wpList_next_ranges w hg it hop 3 alKeyed slR (Value.int .i64) slV (fun key kl hk => by obtain ⟨x, rfl, _⟩ := Maps.keyOf_int_inv Try.underlying3 hk; exact ⟨x, rfl⟩) (fun v y hv => by obtain ⟨s, rfl, _⟩ := slR_inv hv; exact ⟨s, rfl⟩) m r k (alD ep o) left cnt hit h ?_ ?_
  · intro _ hl0
    exact hDone (.inr hl0)
  · rintro x ⟨A, nA, cA⟩ kl y w4 cnt1 hkey hlk hR hat hrg1 hlt hgr hsz hen
    have hl1 : ∀ z, left z = has (alD ep o) z := by
      rcases hl with h | h
      · exact h
      · rw [h] at hlk; cases hlk
    obtain ⟨rfl, x0, rfl, hx0⟩ := alD_next (by rw [← hl1]; exact hlk) hat
    obtain ⟨⟨A', nA', cA'⟩, e2, e3⟩ := slR_inv hR
    injection e2 with e2 e4 e5
    obtain rfl : A = A' := e2
    obtain rfl : nA = nA' := e4
    obtain rfl : cA = cA' := e5
    rw [e3] at hx0
    injection hx0 with hx0
    subst hx0
    obtain ⟨x', ex, e6, _⟩ := Maps.keyOf_int_inv Try.underlying3 hkey
    injection ex with _ ex
    injection e6 with _ e6
    subst ex; subst e6
    exact hMore A nA cA w4 _ cnt1 rfl hl1 hrg1 (strike_all hl1) hlt hgr hsz hen

theorem Try.alZero (w : World) : (zeroValue 25).run Try.prog w = .ok (.slice none 0 0) w := by kernel_rfl
/-- What waits at the epoch. -/
theorem wp_lookup_al {oo : Oper} {a : Act} {w : World} {K : Act → World → Prop} {Q : Exit → Act → World → Prop} (mm x : Operand) (hop : oo.op = Op.lookup 26 mm x false) {m k : Nat} {ep : Int} {o : Option SlV} (hw : (Lit.int .i64 ep).wf = true)
    (hm : a.eval mm = .map (some m)) (hx : a.eval x = .int .i64 ep) (h : w.ownsMap Try.prog 3 slR m k (alD ep o)) (hK : K (a.put oo.dst (.slice (alX o).1 (alX o).2.1 (alX o).2.2)) w) : oo.wp Try.prog a w K Q := by
  obtain ⟨v, ps, hrun, hv⟩ := h.lookup alKeyed Try.underlying26 (Try.alZero w) (slR_mk (none, 0, 0)) (keyOf_int_mk Try.underlying3 hw)
  obtain ⟨y, rfl, hy⟩ := slR_inv hv
  injection hy with hy _
  rw [alD_at] at hy
  injection hy with hy
  subst hy
  unfold Oper.wp
  simp [execOp, hop, hm, hx, hrun, Result.andThen]
  exact hK
/-- A slice is put at the epoch. -/
theorem wp_update_al {oo : Oper} {a : Act} {w : World} {K : Act → World → Prop} {Q : Exit → Act → World → Prop} (mm x v : Operand) (hop : oo.op = Op.mapUpdate 26 mm x v) {p m k : Nat} {s : AlS} {F S : SlV} {o : Option SlV} (hw : (Lit.int .i64 s.ep).wf = true)
    (hm : a.eval mm = .map (some m)) (hx : a.eval x = .int .i64 s.ep) (y : SlV) (hv : a.eval v = .slice y.1 y.2.1 y.2.2) (hk : k ≤ 1000000) {l : List Sp} (hy : SpX w y l) (hav : Away y l s.av) (h : AlAt w p m k s F S o)
    (hK : ∀ w', Al w' p m (k + 1) { s with waits := l } → AlOth p m w w' → K (a.put oo.dst undef) w') : oo.wp Try.prog a w K Q := by
  obtain ⟨w', hrun, r1, r2⟩ := h.map.update alKeyed Try.underlying26 (by unfold maxLen; omega) (keyOf_int_mk Try.underlying3 hw) (slR_mk y)
  unfold slV at hrun
  have ho : AlOth p m w w' := .grown r2 (.inr rfl)
  rw [alD_put] at r1
  have e1 : w'.heap[p]? = w.heap[p]? := r2.block p h.ltP (by intro e; injection e with e; exact h.pm e)
  have hA : Al w' p m (k + 1) { s with waits := l } := ⟨F, S, some y, e1.trans h.obj, r1, h.free.oth h ho, h.settled.oth h ho, hy.oth h ho, fun b hb => Nat.lt_of_lt_of_le (h.away.1 b hb) ho.size, h.away.2.1, h.away.2.2.1, hav⟩
  unfold Oper.wp
  simp [execOp, hop, hm, hx, hv, hrun, Result.andThen]
  exact hK _ hA ho
end Go.Proofs.Ytnlkljmboifnkaa

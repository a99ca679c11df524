/- == of times, the order of texts, and what Of and the Reads answer, as one value and one Bool. No conditions but those that stand in each lemma. -/
import Derived.Test.YtfbgcjpakahocaaDoorClkReadW
import Derived.Test.YtfbgcjpakahocaaDoorClkOfN
namespace Go.Proofs.YtfbgcjpakahocaaDoor
open Go.RowKit
namespace Clk

theorem eq_fields {d : Nat} {xs ys : Array Value} {w : World} {P : Program} {f : Field} {fs : List Field} {x y : Value} {b : Bool} (hn : (f.name == "_") = false) (t : TypeId) (ht : f.type = t) (o : Nat) (ho : f.offset = o)
    (hx : (part t xs o).run P w = .ok x w) (hy : (part t ys o).run P w = .ok y w) (he : (Op.equalIn d t x y).run P w = .ok b w) {c : Bool} (hr : (Op.eqFields d xs ys fs).run P w = .ok c w) :
    (Op.eqFields d xs ys (f :: fs)).run P w = .ok (b && c) w := by
  subst ht; subst ho
  have n0 : f.name ≠ "_" := by simpa using hn
  simp only [Op.eqFields, n0, ne_eq, not_false_eq_true, if_true, Sem.run_bind, hx, hy, he, Result.andThen_ok]
  cases b with
  | true => simpa using hr
  | false => simp
theorem part_int {P : Program} (w : World) (t : TypeId) (k : IntKind) (h : P.underlying t = some (.int k)) (cs : Array Value) (o : Nat) (v : Value) (hv : cs[o]? = some v) : (part t cs o).run P w = .ok v w := by
  simp [part, isAgg, run_underlying h, hv]
/-- Whether two times are the same. -/
def Tm.same (p q : Tm) : Bool := (p.y == q.y) && ((p.m == q.m) && ((p.d == q.d) && ((p.h == q.h) && ((p.i == q.i) && ((p.s == q.s) && true)))))
theorem same_iff (p q : Tm) : Tm.same p q = true ↔ p = q := by
  unfold Tm.same
  cases p; cases q
  simp
theorem same_self (p : Tm) : Tm.same p p = true := (same_iff p p).2 rfl
section
variable {T : TypeId} (hT : TT T)
include hT
theorem equal_times (w : World) (d : Nat) (p q : Tm) : (Op.equalIn (d + 3) T (.agg (tmC p)) (.agg (tmC q))).run Tryd.prog w = .ok (Tm.same p q) w := by
  rw [run_equalIn_struct w (d + 2) T _ _ hT.struct hT.held]
  have hf := hT.fields
  generalize (Tryd.prog.fieldsOf T).toList = fs at hf ⊢
  rcases fs with _ | ⟨f0, _ | ⟨f1, _ | ⟨f2, _ | ⟨f3, _ | ⟨f4, _ | ⟨f5, _ | ⟨f6, r⟩⟩⟩⟩⟩⟩⟩ <;> simp only [List.map_cons, List.map_nil, List.cons.injEq, Prod.mk.injEq, and_true, reduceCtorEq, and_false] at hf
  obtain ⟨⟨a0, a1, a2⟩, ⟨b0, b1, b2⟩, ⟨c0, c1, c2⟩, ⟨d0, d1, d2⟩, ⟨e0, e1, e2⟩, g0, g1, g2⟩ := hf
  have hnil : (Op.eqFields (d + 2) (tmC p) (tmC q) []).run Tryd.prog w = .ok true w := by simp [Op.eqFields]
  have i64 := Tryd.underlying3
  exact eq_fields a0 _ a1 _ a2 (part_int w _ _ i64 _ _ _ rfl) (part_int w _ _ i64 _ _ _ rfl) (run_equalIn_int w (d + 1) _ .i64 .i64 p.y q.y i64)
    (eq_fields b0 _ b1 _ b2 (part_int w _ _ i64 _ _ _ rfl) (part_int w _ _ i64 _ _ _ rfl) (run_equalIn_int w (d + 1) _ .i64 .i64 p.m q.m i64)
    (eq_fields c0 _ c1 _ c2 (part_int w _ _ i64 _ _ _ rfl) (part_int w _ _ i64 _ _ _ rfl) (run_equalIn_int w (d + 1) _ .i64 .i64 p.d q.d i64)
    (eq_fields d0 _ d1 _ d2 (part_int w _ _ i64 _ _ _ rfl) (part_int w _ _ i64 _ _ _ rfl) (run_equalIn_int w (d + 1) _ .i64 .i64 p.h q.h i64)
    (eq_fields e0 _ e1 _ e2 (part_int w _ _ i64 _ _ _ rfl) (part_int w _ _ i64 _ _ _ rfl) (run_equalIn_int w (d + 1) _ .i64 .i64 p.i q.i i64)
    (eq_fields g0 _ g1 _ g2 (part_int w _ _ i64 _ _ _ rfl) (part_int w _ _ i64 _ _ _ rfl) (run_equalIn_int w (d + 1) _ .i64 .i64 p.s q.s i64) hnil)))))
theorem eql_times (w : World) (p q : Tm) : (binOp .eql T (.agg (tmC p)) (.agg (tmC q))).run Tryd.prog w = .ok (.bool (Tm.same p q)) w := by
  rw [run_eql_struct, equal_times hT w 9997 p q]
  rfl
theorem wpList_eqlT {ops : Array Oper} {rest : List Oper} {o : Oper} {a : Act} {w : World} {Q : Exit → Act → World → Prop} (hg : Tryd.prog.eqGuardType Tryd.prog.depth T = false) (x y : Operand) (S : TypeId) (ho : o.op = .binOp .eql T x y S) (hw : Region.wanted o (yielded ops a.tmps) = true)
    (p q : Tm) (hx : a.eval x = .agg (tmC p)) (hy : a.eval y = .agg (tmC q)) (v : Bool) (hv : Tm.same p q = v)
    (h : wpList Tryd.prog ops Q rest (a.put o.dst (.bool v)) w) : wpList Tryd.prog ops Q (o :: rest) a w := by
  subst hv
  refine wpList_wanted hw fun K hK => ?_
  unfold Oper.wp execOp
  simp only [ho, hx, hy, Sem.run_bind, run_eqGuard_agg _ _ _ _ _ _ _ hg, eql_times hT w p q, Result.andThen_ok, Sem.run_pure]
  exact hK _ _ h
theorem wpQuiet_eqlT {ops : Array Oper} {rest : List Oper} {o : Oper} {a : Act} {w : World} {K : Act → Prop} (hg : Tryd.prog.eqGuardType Tryd.prog.depth T = false) (x y : Operand) (S : TypeId) (ho : o.op = .binOp .eql T x y S) (hw : Region.wanted o (yielded ops a.tmps) = true)
    (p q : Tm) (hx : a.eval x = .agg (tmC p)) (hy : a.eval y = .agg (tmC q)) (v : Bool) (hv : Tm.same p q = v)
    (h : wpQuiet Tryd.prog ops (Cl w) K rest (a.put o.dst (.bool v))) : wpQuiet Tryd.prog ops (Cl w) K (o :: rest) a := by
  subst hv
  unfold wpQuiet
  rw [if_pos hw]
  refine ⟨.bool (Tm.same p q), fun w' _ => ?_, h⟩
  unfold Oper.quietAt execOp
  simp only [ho, hx, hy, Sem.run_bind, run_eqGuard_agg _ _ _ _ _ _ _ hg, eql_times hT w' p q, Result.andThen_ok, Sem.run_pure]
  exact ⟨rfl, rfl⟩
end
theorem guardP : Tryd.prog.eqGuardType Tryd.prog.depth 23 = false := by kernel_rfl
theorem guardR : Tryd.prog.eqGuardType Tryd.prog.depth 26 = false := by kernel_rfl

theorem less_map : ∀ (xs ys : List Int), IsBytes xs → IsBytes ys → Op.bytesLess (xs.map fun n => UInt8.ofNat n.toNat) (ys.map fun n => UInt8.ofNat n.toNat) = lexB xs ys
  | xs, [], _, _ => by cases xs <;> rfl
  | [], _ :: _, _, _ => rfl
  | x :: xs, y :: ys, hx, hy => by
    have a := hx x (List.mem_cons_self ..)
    have b := hy y (List.mem_cons_self ..)
    have ih := less_map xs ys (fun z hz => hx z (List.mem_cons_of_mem _ hz)) (fun z hz => hy z (List.mem_cons_of_mem _ hz))
    rw [List.map_cons, List.map_cons, Op.bytesLess, lexB, ih]
    have e1 : decide (UInt8.ofNat x.toNat < UInt8.ofNat y.toNat) = decide (x < y) := by
      rw [Bool.eq_iff_iff, decide_eq_true_eq, decide_eq_true_eq, UInt8.lt_iff_toNat_lt, UInt8.toNat_ofNat', UInt8.toNat_ofNat']
      omega
    have e2 : (UInt8.ofNat x.toNat == UInt8.ofNat y.toNat) = decide (x = y) := by
      rw [Bool.eq_iff_iff, beq_iff_eq, decide_eq_true_eq, ← UInt8.toNat_inj, UInt8.toNat_ofNat', UInt8.toNat_ofNat']
      omega
    rw [e1, e2]
theorem less_texts (xs ys : List Int) (hx : IsBytes xs) (hy : IsBytes ys) : Op.bytesLess (strOfNums xs).toList (strOfNums ys).toList = lexB xs ys := by
  rw [Lib.toList_data, Lib.toList_data, strOfNums_data, strOfNums_data, less_map xs ys hx hy]

/-- What Of tells, as one value and one Bool. -/
theorem OfTo.one {n : Int} {e : Ending} (h : OfTo n e) : ∃ t b, e = .returned (.tuple #[tmV t, .bool b]) ∧ ((b = true ∧ t.Right ∧ t.secs = n) ∨ (b = false ∧ t = Tm.zero ∧ ¬ (-62135596800 ≤ n ∧ n ≤ 253402300799))) := by
  rcases h with ⟨t, hr, hs, he⟩ | ⟨hn, he⟩
  · exact ⟨t, true, he, .inl ⟨rfl, hr, hs⟩⟩
  · exact ⟨Tm.zero, false, he, .inr ⟨rfl, rfl, hn⟩⟩
theorem OfTo.two {n : Int} {e e2 : Ending} (h : OfTo n e) (h2 : OfTo n e2) : ∃ t b, e = .returned (.tuple #[tmV t, .bool b]) ∧ e2 = .returned (.tuple #[tmV t, .bool b]) := by
  rcases h with ⟨t, hr, hs, he⟩ | ⟨hn, he⟩
  · rcases h2 with ⟨q, hq, hs2, he2⟩ | ⟨hn, _⟩
    · obtain rfl := secs_inj hr hq (hs.trans hs2.symm)
      exact ⟨t, true, he, he2⟩
    · exact absurd (hs ▸ secs_range hr) hn
  · rcases h2 with ⟨q, hq, hs2, _⟩ | ⟨_, he2⟩
    · exact absurd (hs2 ▸ secs_range hq) hn
    · exact ⟨Tm.zero, false, he, he2⟩
/-- The forms are each of one time alone. -/
def Inj (W : Tm → List Int) : Prop := ∀ a b : Tm, a.Right → b.Right → W a = W b → a = b
theorem ReadTo.two {W : Tm → List Int} (hi : Inj W) {xs : List Int} {e e2 : Ending} (h : ReadTo W xs e) (h2 : ReadTo W xs e2) : ∃ t b, e = .returned (.tuple #[tmV t, .bool b]) ∧ e2 = .returned (.tuple #[tmV t, .bool b]) := by
  rcases h with ⟨t, hr, hs, he⟩ | ⟨hn, he⟩
  · rcases h2 with ⟨q, hq, hs2, he2⟩ | ⟨hn, _⟩
    · obtain rfl := hi _ _ hr hq (hs.trans hs2.symm)
      exact ⟨t, true, he, he2⟩
    · exact absurd hs (hn t hr)
  · rcases h2 with ⟨q, hq, hs2, _⟩ | ⟨_, he2⟩
    · exact absurd hs2 (hn q hq)
    · exact ⟨Tm.zero, false, he, he2⟩
theorem ReadTo.here {W : Tm → List Int} (hi : Inj W) {t : Tm} {xs : List Int} {e : Ending} (hr : t.Right) (ht : W t = xs) (h : ReadTo W xs e) : e = .returned (.tuple #[tmV t, .bool true]) := by
  rcases h with ⟨q, hq, hs, he⟩ | ⟨hn, _⟩
  · obtain rfl := hi _ _ hq hr (hs.trans ht.symm)
    exact he
  · exact absurd ht (hn t hr)
theorem isoInj : Inj isoW := fun _ _ ha hb h => iso_inj ha hb h
theorem shortInj : Inj shortW := fun _ _ ha hb h => short_inj ha hb h
theorem webInj : Inj webW := fun _ _ ha hb h => web_inj ha hb h
theorem ReadTo.all {W : Tm → List Int} (hi : Inj W) (xs : List Int) : ∃ t b, ∀ e, ReadTo W xs e → e = .returned (.tuple #[tmV t, .bool b]) := by
  by_cases h : ∃ t : Tm, t.Right ∧ W t = xs
  · obtain ⟨t, hr, ht⟩ := h
    exact ⟨t, true, fun e he => he.here hi hr ht⟩
  · refine ⟨Tm.zero, false, fun e he => ?_⟩
    rcases he with ⟨t, hr, ht, _⟩ | ⟨_, he⟩
    · exact absurd ⟨t, hr, ht⟩ h
    · exact he
theorem OfTo.all (n : Int) : ∃ t b, ∀ e, OfTo n e → e = .returned (.tuple #[tmV t, .bool b]) := by
  by_cases h : ∃ t : Tm, t.Right ∧ t.secs = n
  · obtain ⟨t, hr, ht⟩ := h
    refine ⟨t, true, fun e he => ?_⟩
    rcases he with ⟨q, hq, hs, he⟩ | ⟨hn, _⟩
    · obtain rfl := secs_inj hq hr (hs.trans ht.symm)
      exact he
    · exact absurd (ht ▸ secs_range hr) hn
  · refine ⟨Tm.zero, false, fun e he => ?_⟩
    rcases he with ⟨t, hr, ht, _⟩ | ⟨_, he⟩
    · exact absurd ⟨t, hr, ht⟩ h
    · exact he
/-- Behind a new variable that was stored in. -/
theorem past_row {w w1 w2 : World} {g : Nat} {T : TypeId} {c : Array Value} (r : Row w g T c) (b : Below w.heap.size w w1) (o : Only w.heap.size w1 w2) : Row w2 g T c := o.row (r.keep b) (Nat.ne_of_lt r.lt)
theorem past_below {w0 w w1 w2 : World} (h : Below w0.heap.size w0 w) (b : Below w.heap.size w w1) (o : Only w.heap.size w1 w2) : Below w0.heap.size w0 w2 := (h.trans (b.mono h.size)).trans (o.below.mono h.size)
end Clk
end Go.Proofs.YtfbgcjpakahocaaDoor

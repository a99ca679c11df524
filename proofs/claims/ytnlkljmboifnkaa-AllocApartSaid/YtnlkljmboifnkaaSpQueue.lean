/- A slice of spans of the call's own that loses its first ones: append of one onto it, wherever in its block it begins; its first element; the slice without it. No conditions but those that stand in each lemma. -/
import Derived.Test.YtnlkljmboifnkaaSpRemove
namespace Go.Proofs.Ytnlkljmboifnkaa
open Go.RowKit

/-- A slice of the call's own (its elements of type T), from block B on, that holds the spans l; it need not begin where its block does. -/
def QOwn (w : World) (B : Nat) (T : TypeId) (A : Option Addr) (n c : Nat) (l : List Sp) : Prop :=
  n = l.length ∧ ((A = none ∧ n = 0 ∧ c = 0) ∨
    ∃ g o cur, A = some ⟨g, o, none⟩ ∧ B ≤ g ∧ Row w g T cur ∧ n ≤ c ∧ c ≤ maxLen ∧ o + c * 2 ≤ cur.size ∧ ∀ j u, (spCells l)[j]? = some u → cur[o + j]? = some u)
theorem QOwn.nil (w : World) (B : Nat) (T : TypeId) : QOwn w B T none 0 0 [] := ⟨rfl, .inl ⟨rfl, rfl, rfl⟩⟩
section
variable {w w' : World} {B : Nat} {T : TypeId} {A : Option Addr} {n c : Nat} {l : List Sp}
theorem QOwn.keepIf (h : QOwn w B T A n c l) (hk : ∀ a, A = some a → w'.heap[a.block]? = w.heap[a.block]?) : QOwn w' B T A n c l := by
  refine ⟨h.1, ?_⟩
  rcases h.2 with h1 | ⟨g, o, cur, rfl, hB, hr, h2⟩
  · exact .inl h1
  · exact .inr ⟨g, o, cur, rfl, hB, (hk _ rfl).trans hr, h2⟩
theorem QOwn.lt (h : QOwn w B T A n c l) : ∀ a, A = some a → a.block < w.heap.size ∧ B ≤ a.block := by
  intro a ha
  rcases h.2 with ⟨h1, _⟩ | ⟨g, o, cur, h1, hB, hr, _⟩
  · rw [h1] at ha; cases ha
  · rw [h1] at ha
    injection ha with ha
    subst ha
    exact ⟨hr.lt, hB⟩
theorem QOwn.row (h : QOwn w B T A n c l) : ∀ a, A = some a → ∃ cur, Row w a.block T cur := by
  intro a ha
  rcases h.2 with ⟨h1, _⟩ | ⟨g, o, cur, h1, hB, hr, _⟩
  · rw [h1] at ha; cases ha
  · rw [h1] at ha
    injection ha with ha
    subst ha
    exact ⟨_, hr⟩
theorem QOwn.keep (h : QOwn w B T A n c l) (hb : Below w.heap.size w w') : QOwn w' B T A n c l := h.keepIf fun a ha => hb.block _ (h.lt a ha).1
theorem QOwn.cap (h : QOwn w B T A n c l) : n ≤ c ∧ c ≤ maxLen := by
  rcases h.2 with ⟨_, h1, h2⟩ | ⟨g, o, cur, _, _, _, h1, h2, _⟩
  · unfold maxLen; omega
  · exact ⟨h1, h2⟩
/-- The first one's cells. -/
theorem QOwn.head {t : Sp} {r : List Sp} (h : QOwn w B T A n c (t :: r)) : ∃ g o, A = some ⟨g, o, none⟩ ∧ g < w.heap.size ∧ w.cell? ⟨g, o, none⟩ = some (.int .i64 t.1) ∧ w.cell? ⟨g, o + 1, none⟩ = some (.int .i64 t.2) := by
  have h1 := h.1
  rcases h.2 with ⟨_, h2, _⟩ | ⟨g, o, cur, rfl, hB, hr, _, _, _, hc⟩
  · rw [List.length_cons] at h1; omega
  · exact ⟨g, o, rfl, hr.lt, hr.cell (hc 0 _ rfl), hr.cell (hc 1 _ rfl)⟩
/-- The slice without its first one. -/
theorem QOwn.tail {t : Sp} {r : List Sp} (h : QOwn w B T A n c (t :: r)) : QOwn w B T (if c = 1 then A else A.map (·.add (1 * 2))) (n - 1) (c - 1) r := by
  have h1 := h.1
  rw [List.length_cons] at h1
  refine ⟨by omega, ?_⟩
  rcases h.2 with ⟨_, h2, _⟩ | ⟨g, o, cur, rfl, hB, hr, hnc, hcm, hsz, hc⟩
  · omega
  · by_cases h3 : c = 1
    · rw [if_pos h3]
      refine .inr ⟨g, o, cur, rfl, hB, hr, by omega, by omega, by omega, fun j u hu => ?_⟩
      have : r = [] := List.eq_nil_of_length_eq_zero (by omega)
      subst this
      cases hu
    · rw [if_neg h3]
      refine .inr ⟨g, o + 2, cur, by simp [add_addr], hB, hr, by omega, by omega, by omega, fun j u hu => ?_⟩
      rw [show o + 2 + j = o + (j + 2) by omega]
      refine hc (j + 2) u ?_
      have e : spCells (t :: r) = .int .i64 t.1 :: .int .i64 t.2 :: spCells r := rfl
      rw [e, List.getElem?_cons_succ, List.getElem?_cons_succ]
      exact hu
end

section
variable {P : Program} {ST T : TypeId}
/-- append onto a row, from wherever in its block the slice begins, where there is room. -/
theorem run_append_from (w : World) (t ty e : TypeId) (i : TypeInfo) (ht : P.underlying t = some (.slice e)) (hi : P.info? e = some i)
    (g o sLen sCap : Nat) (cur : Array Value) (hg : w.heap[g]? = some (.cells cur e (0, 0)))
    (a : Addr) (m c : Nat) (news : List Value) (hl : news.length = m * i.size) (hnews : ∀ j u, news[j]? = some u → w.cell? (a.add j) = some u) (h1 : ∀ u ∈ news, u.oneCell' = true)
    (hroom : sLen + m ≤ sCap) (hfit : o + sLen * i.size + news.length ≤ cur.size) :
    (Builtin.append_ #[t, t] ty #[.slice (some ⟨g, o, none⟩) sLen sCap, .slice (some a) m c]).run P w =
      .ok (.slice (some ⟨g, o, none⟩) (sLen + m) sCap) (w.setRow g (cur.toList.take (o + sLen * i.size) ++ news ++ cur.toList.drop (o + sLen * i.size + news.length)).toArray) := by
  have hf := run_firstCells_some (P := P) w i.size m a m c news hl hnews
  have hst := run_storeCells_at P g (o + sLen * i.size) e news 0 cur w hg (by simpa using hfit) h1
  simp only [Nat.add_zero] at hst
  simp [Builtin.append_, run_underlying ht, sizeOf, typeInfo, hi, Builtin.lenOf, hroom, hf, Addr.add_lit, hst]

/-- What append of one leaves: the slice where it was, its block alone turned; or in a new block. -/
def QGrew (w : World) (A A' : Option Addr) (w' : World) : Prop :=
  (∃ a, A = some a ∧ A' = some a ∧ w'.heap.size = w.heap.size ∧ w'.os = w.os ∧ w'.tape = w.tape ∧ w'.output = w.output ∧ ∀ k, k ≠ a.block → w'.heap[k]? = w.heap[k]?) ∨
  (A' = some ⟨w.heap.size, 0, none⟩ ∧ Below w.heap.size w w' ∧ w.heap.size < w'.heap.size)
set_option maxRecDepth 20000 in
theorem run_append_q (hP : SpTypes P ST T) (w : World) (ty : TypeId) (B : Nat) (A : Option Addr) (n c : Nat) (l : List Sp) (hq : QOwn w B T A n c l)
    (S : Option Addr) (d : Nat) (t : Sp) (hs : SpSrc w S [t]) (hlen : n ≤ 1000000) (hB : B ≤ w.heap.size) :
    ∃ A' c' w', (Builtin.append_ #[ST, ST] ty #[.slice A n c, .slice S 1 d]).run P w = .ok (.slice A' (n + 1) c') w' ∧ QOwn w' B T A' (n + 1) c' (l ++ [t]) ∧ QGrew w A A' w' := by
  obtain ⟨i0, hi, hz0, hz1, hz2⟩ := info_parts hP.info
  have hu := hP.slice
  obtain ⟨b, ob, rfl, hlt, hc⟩ := hs (by simp)
  have hnews : ∀ j u, (spCells [t])[j]? = some u → w.cell? ((⟨b, ob, none⟩ : Addr).add j) = some u := fun j u hu => by
    obtain ⟨i, hi, ⟨rfl, rfl⟩ | ⟨rfl, rfl⟩⟩ := spCells_inv _ _ _ hu
    · rw [add_addr]; exact (hc i hi).1
    · rw [add_addr, ← Nat.add_assoc]; exact (hc i hi).2
  have hl2 : (spCells [t]).length = 1 * i0.size := by rw [hz1]; rfl
  have hln := hq.1
  have hlen2 : (l ++ [t]).length = n + 1 := by rw [List.length_append, hln]; rfl
  rcases hq.2 with ⟨rfl, h0, hc0⟩ | ⟨g, o, cur, rfl, hg, hr, hnc, hcm, hsz, hcell⟩
  · subst hc0
    obtain rfl : l = [] := List.eq_nil_of_length_eq_zero (by omega)
    subst h0
    have hrun := run_append_nil (P := P) w ST ty T i0 _ hu hi hz0 ⟨b, ob, none⟩ 1 d (spCells [t]) hl2 hnews (by omega) (by omega) (by rw [hz2]; omega)
    have hge := grownCap_ge w 1 0 T
    have hcm := grownCap_le_maxLen w 1 0 T (by unfold maxLen; omega)
    refine ⟨_, _, _, hrun, ⟨rfl, .inr ⟨_, 0, _, rfl, hB, heap_alloc_new w.drew _, hge, hcm, ?_, fun j u hu => ?_⟩⟩, .inr ⟨rfl, (Below.refl w.heap.size w).drew.alloc (Nat.le_refl _) _, ?_⟩⟩
    · simp only [Array.size_append, List.size_toArray, size_zeroCells, hl2, hz1]
      show 0 + _ ≤ 1 * 2 + _ * 2
      omega
    · have hj : j < (spCells [t]).length := by
        rcases Nat.lt_or_ge j (spCells [t]).length with h' | h'
        · exact h'
        · rw [List.getElem?_eq_none (by simpa using h')] at hu; cases hu
      rw [Nat.zero_add, Array.getElem?_append_left (by simpa using hj)]
      simpa using hu
    · show w.heap.size < (w.heap.push _).size
      rw [Array.size_push]
      omega
  · by_cases hroom : n + 1 ≤ c
    · have hfit : o + n * i0.size + (spCells [t]).length ≤ cur.size := by rw [hl2, hz1]; omega
      have hrun := run_append_from (P := P) w ST ty T i0 hu hi g o n c cur hr ⟨b, ob, none⟩ 1 d (spCells [t]) hl2 hnews (spCells_one _) hroom hfit
      have hol : (spCells l).length = n * 2 := by rw [spCells_length, hln]
      refine ⟨_, _, _, hrun, ⟨hlen2.symm, .inr ⟨g, o, _, rfl, hg, setRow_heap w g cur _ T _ hr, hroom, hcm, ?_, fun j u hu => ?_⟩⟩, .inl ⟨_, rfl, rfl, by simp, rfl, rfl, rfl, fun k hk => setRow_other w g k _ (fun e => hk e)⟩⟩
      · simp only [List.size_toArray, List.length_append, List.length_take, List.length_drop, Array.length_toList]
        rw [hl2, hz1] at hfit ⊢
        omega
      · have hj : j < (spCells (l ++ [t])).length := by
          rcases Nat.lt_or_ge j (spCells (l ++ [t])).length with h' | h'
          · exact h'
          · rw [List.getElem?_eq_none h'] at hu; cases hu
        rw [spCells_append] at hu hj
        rw [List.length_append, hol] at hj
        have hts : (cur.toList.take (o + n * i0.size)).length = o + n * 2 := by rw [List.length_take, Array.length_toList, hz1]; omega
        rw [List.getElem?_toArray, List.append_assoc]
        rcases Nat.lt_or_ge j (n * 2) with h' | h'
        · rw [List.getElem?_append_left (by omega), List.getElem?_take, if_pos (by rw [hz1]; omega), Array.getElem?_toList]
          rw [List.getElem?_append_left (by omega)] at hu
          exact hcell j u hu
        · rw [List.getElem?_append_right (by omega), hts, show o + j - (o + n * 2) = j - n * 2 by omega, List.getElem?_append_left (by rw [hl2, hz1] at hj ⊢; omega)]
          rw [List.getElem?_append_right (by omega), hol] at hu
          exact hu
    · have holds : ∀ j u, (spCells l)[j]? = some u → w.cell? ((⟨g, o, none⟩ : Addr).add j) = some u := fun j u hu => by
        rw [add_addr]
        exact Row.cell hr (hcell j u hu)
      have hrun := run_append_grow (P := P) w ST ty T i0 _ hu hi hz0 ⟨g, o, none⟩ n c (spCells l) (by rw [spCells_length, hz1, hln]) holds ⟨b, ob, none⟩ 1 d (spCells [t]) hl2 hnews (by omega) (by omega) (growslice_fits (by omega) (by rw [hz2]; omega))
      have hge := grownCap_ge w (n + 1) c T
      have hcm := grownCap_le_maxLen w (n + 1) c T (by unfold maxLen; omega)
      refine ⟨_, _, _, hrun, ⟨hlen2.symm, .inr ⟨_, 0, _, rfl, hB, heap_alloc_new w.drew _, hge, hcm, ?_, fun j u hu => ?_⟩⟩, .inr ⟨rfl, (Below.refl w.heap.size w).drew.alloc (Nat.le_refl _) _, ?_⟩⟩
      · simp only [Array.size_append, List.size_toArray, size_zeroCells, hl2, hz1, spCells_length, ← hln]
        show 0 + _ ≤ n * 2 + 1 * 2 + _ * 2
        omega
      · have hj : j < (spCells (l ++ [t])).length := by
          rcases Nat.lt_or_ge j (spCells (l ++ [t])).length with h' | h'
          · exact h'
          · rw [List.getElem?_eq_none h'] at hu; cases hu
        rw [spCells_append] at hu hj
        rw [Nat.zero_add, Array.getElem?_append_left (by simpa using hj)]
        simpa using hu
      · show w.heap.size < (w.heap.push _).size
        rw [Array.size_push]
        omega
theorem wpList_append_q (hP : SpTypes P ST T) {w : World} {ops : Array Oper} {rest : List Oper} {o : Oper} {a : Act} {Q : Exit → Act → World → Prop} (hgd : o.guard = none) (s x : Operand)
    (ho : o.op = .call { callee := .builtin .append, args := #[s, x], argTypes := #[ST, ST] })
    (B : Nat) (A : Option Addr) (n c : Nat) (l : List Sp) (ea : a.eval s = .slice A n c) (hq : QOwn w B T A n c l)
    (S : Option Addr) (d : Nat) (t : Sp) (ex : a.eval x = .slice S 1 d) (hs : SpSrc w S [t]) (hlen : n ≤ 1000000) (hB : B ≤ w.heap.size)
    (h : ∀ A' n' c' w', QOwn w' B T A' n' c' (l ++ [t]) → QGrew w A A' w' → wpList P ops Q rest (a.put o.dst (.slice A' n' c')) w') : wpList P ops Q (o :: rest) a w := by
  refine wpList_plain hgd fun K hK => ?_
  obtain ⟨A', c', w', hr, h1, h2⟩ := run_append_q hP w o.type B A n c l hq S d t hs hlen hB
  unfold Oper.wp execOp
  simp only [ho, resolve, invoke, builtin, Sem.run_bind, Sem.run_pure, Result.andThen_ok, List.map_toArray, List.map_cons, List.map_nil, ea, ex, hr]
  exact hK _ _ (h A' _ c' w' h1 h2)
/-- The slice without its first one, at the operation. -/
theorem run_slice_one (hP : SpTypes P ST T) (w : World) (A : Option Addr) (n c : Nat) (hj : 1 ≤ n) :
    (Instr.sliceAt ST (.slice A n c) (some (.int .i64 1)) none none).run P w = .ok (.slice (if c = 1 then A else A.map (·.add (1 * 2))) (n - 1) (c - 1)) w := by
  obtain ⟨i, hq, _, hs, _⟩ := info_parts hP.info
  have hu := hP.slice
  have hk' : (0 : Int) ≤ 1 ∧ (1 : Int) ≤ (n : Int) := by omega
  have ha : ∀ w', (asIntOf (.int .i64 1)).run P w' = .ok (.i64, (1 : Int)) w' := fun w' => by simp [asIntOf]
  have hb : ∀ w', (Instr.sliceBound (.int .i64 1) n .sliceB).run P w' = .ok 1 w' := fun w' => by
    unfold Instr.sliceBound
    simp only [Sem.run_bind, ha, Result.andThen_ok]
    rw [if_pos hk']
    simp
  unfold Instr.sliceAt
  simp only [Sem.run_bind, run_underlying hu w, Result.andThen_ok]
  unfold Instr.slice Instr.sliceBounds
  simp [Sem.run_bind, run_underlying hu w, hb, sizeOf, typeInfo, hq, hs]
theorem wpList_slice_q (hP : SpTypes P ST T) {w : World} {ops : Array Oper} {rest : List Oper} {o : Oper} {a : Act} {Q : Exit → Act → World → Prop} (hgd : o.guard = none) (x : Operand) (ho : o.op = .slice ST x (some (.const (.int .i64 1))) none none)
    (B : Nat) (A : Option Addr) (n c : Nat) (hx : a.eval x = .slice A n c) (t : Sp) (r : List Sp) (hq : QOwn w B T A n c (t :: r))
    (h : ∀ A' n' c', QOwn w B T A' n' c' r → (∀ b, (∃ y, A' = some y ∧ y.block = b) ↔ (∃ y, A = some y ∧ y.block = b)) → wpList P ops Q rest (a.put o.dst (.slice A' n' c')) w) : wpList P ops Q (o :: rest) a w := by
  refine wpList_plain hgd fun K hK => ?_
  have hk : a.eval (.const (.int .i64 1)) = .int .i64 1 := rfl
  have hn : 1 ≤ n := by have := hq.1; rw [List.length_cons] at this; omega
  unfold Oper.wp execOp
  simp only [ho, hx, hk, Option.map_some, Option.map_none, Sem.run_bind, run_slice_one hP w A n c hn, Result.andThen_ok, Sem.run_pure]
  refine hK _ _ (h _ _ _ hq.tail fun b => ?_)
  split
  · exact Iff.rfl
  · cases A with
    | none => exact Iff.rfl
    | some y =>
      have e : (y.add (1 * 2)).block = y.block := by unfold Addr.add; split <;> rfl
      constructor
      · rintro ⟨z, hz, hzb⟩
        have hz : y.add (1 * 2) = z := by simpa using hz
        exact ⟨y, rfl, by rw [← hzb, ← hz, e]⟩
      · rintro ⟨z, hz, hzb⟩
        injection hz with hz
        exact ⟨_, rfl, by rw [e, hz]; exact hzb⟩
end
end Go.Proofs.Ytnlkljmboifnkaa

/- What waits behind writes to the sectors a, a + 1, .. (plain mathematics); what is found behind a crash. No conditions but those that stand in each lemma. -/
import Derived.Test.YtehanjhgjbclhaaCrash
namespace Go.Proofs.Ytehanjhgjbclhaa
open Go.RowKit Go.Maps

/-- The sectors a, .., a + m - 1 wait, sector i as sf i. -/
structure Ent (D : DataW Unit) (a m : Nat) (sf : Nat → List Int) : Prop where
  has_ : ∀ x : Int, has D (.int .i64 x) = true ↔ (a : Int) ≤ x ∧ x < a + m
  at_ : ∀ j, j < m → ∀ zd, D.atKey (.int .i64 ((a + j : Nat) : Int)) zd = secD (sf (a + j))
  tidy : Tidy D
  size_ : Maps.size D = m
theorem ent_none (a : Nat) (sf : Nat → List Int) : Ent (.map []) a 0 sf :=
  ⟨fun x => ⟨fun h => (by cases h), fun h => (by omega)⟩, fun _ h => (by cases h), tidy_empty, rfl⟩
theorem key_int (x : Int) : WideAt.IsKeyLit (.int .i64 x) := trivial
theorem int_ne {x y : Int} (h : x ≠ y) : Lit.int .i64 x ≠ .int .i64 y := by intro e; injection e with _ e; exact h e
theorem Ent.put {D : DataW Unit} {a m : Nat} {sf : Nat → List Int} (h : Ent D a m sf) : Ent (D.put (.int .i64 ((a + m : Nat) : Int)) (secD (sf (a + m)))) a (m + 1) sf := by
  have hm := h.tidy.isMap
  have hno : has D (.int .i64 ((a + m : Nat) : Int)) = false := by
    cases hh : has D (.int .i64 ((a + m : Nat) : Int))
    · rfl
    · have := (h.has_ _).1 hh; omega
  refine ⟨fun x => ?_, fun j hj zd => ?_, h.tidy.put (key_int _) _, ?_⟩
  · by_cases hx : x = ((a + m : Nat) : Int)
    · subst hx
      rw [has_put_same hm (key_int _)]
      exact ⟨fun _ => by omega, fun _ => rfl⟩
    · rw [has_put_other (int_ne hx), h.has_]
      omega
  · by_cases hx : j = m
    · subst hx
      exact atKey_put_same hm (key_int _) _ _
    · rw [atKey_put_other (int_ne (by omega))]
      exact h.at_ j (by omega) zd
  · rw [size_put h.tidy, hno, h.size_]
    rfl
theorem Ent.flush {D : DataW Unit} {a m : Nat} {sf : Nat → List Int} (h : Ent D a m sf) (ls : List (List Int)) (i : Nat) : flushI D ls i = if a ≤ i ∧ i < a + m then sf i else ls.getD i [] := by
  unfold flushI
  by_cases hi : a ≤ i ∧ i < a + m
  · rw [if_pos hi]
    have := h.at_ (i - a) (by omega) (secD (ls.getD i []))
    rw [show a + (i - a) = i by omega] at this
    rw [this, unD_secD]
  · rw [if_neg hi]
    have hno : has D (.int .i64 (i : Int)) = false := by
      cases hh : has D (.int .i64 (i : Int))
      · rfl
      · have := (h.has_ _).1 hh; omega
    rw [atKey_of_not_has hno, unD_secD]
theorem Ent.elem {D : DataW Unit} {a m : Nat} {sf : Nat → List Int} (h : Ent D a m sf) {i : Nat} (hi : a ≤ i ∧ i < a + m) : elemI D i = sf i := by
  unfold elemI
  have := h.at_ (i - a) (by omega) (secD (List.replicate 512 0))
  rw [show a + (i - a) = i by omega] at this
  rw [this, unD_secD]
theorem Ent.waits {D : DataW Unit} {a m : Nat} {sf : Nat → List Int} (h : Ent D a m sf) {w : World} {M k : Nat} (hown : w.ownsMap Try.prog 3 secR M k D) : waitsI D = (List.range m).map fun j => ((a + j : Nat) : Int) := by
  obtain ⟨es, hD, hpw, _⟩ := hown.entries law3
  obtain ⟨es', hD', hko⟩ := hown.keysOf
  obtain rfl : es = es' := by rw [hD] at hD'; simpa using hD'
  have hp : ((List.range m).map fun j => ((a + j : Nat) : Int)).Perm (intKeys D) := by
    rw [hD]
    refine perm_intKeys hpw (fun p hp => by obtain ⟨v, hv⟩ := hko p hp; obtain ⟨x, _, hx, _⟩ := Maps.keyOf_i64 Try.underlying3 hv; exact ⟨x, hx⟩) ?_ fun x => ?_
    · exact List.pairwise_map.2 (List.nodup_range.imp fun {p q} hne e => hne (by omega))
    · rw [← hD, h.has_, List.mem_map]
      constructor
      · rintro ⟨j, hj, rfl⟩
        have := List.mem_range.1 hj
        omega
      · intro hx
        exact ⟨(x - a).toNat, List.mem_range.2 (by omega), by omega⟩
  have hs : ((List.range m).map fun j => ((a + j : Nat) : Int)).Pairwise (fun x y => decide (x ≤ y) = true) :=
    List.pairwise_map.2 (List.pairwise_lt_range.imp fun {p q} hlt => by simp; omega)
  unfold waitsI
  have e1 : (intKeys D).mergeSort (fun x y => decide (x ≤ y)) = ((List.range m).map fun j => ((a + j : Nat) : Int)).mergeSort (fun x y => decide (x ≤ y)) := (mergeSort_of_perm_i hp).symm
  rw [e1]
  exact List.mergeSort_of_pairwise hs
theorem flushS_at (D : DataW Unit) (ls : List (List Int)) (i : Nat) (hi : i < ls.length) : (flushS D ls).getD i [] = flushI D ls i := by
  unfold flushS
  rw [List.getD_eq_getElem?_getD, List.getElem?_map, List.getElem?_range hi]
  rfl
theorem flushS_length (D : DataW Unit) (ls : List (List Int)) : (flushS D ls).length = ls.length := by unfold flushS; rw [List.length_map, List.length_range]
theorem kept_length (D : DataW Unit) (ls : List (List Int)) (ks keep : List Int) (j : Nat) : (keptS D ls ks keep j).length = ls.length := by
  induction j with
  | zero => rfl
  | succ j ih => unfold keptS; rw [List.length_set, ih]
theorem Ent.kept {D : DataW Unit} {a m : Nat} {sf : Nat → List Int} (h : Ent D a m sf) {ks : List Int} (hks : ks = (List.range m).map fun j => ((a + j : Nat) : Int)) (ls : List (List Int)) (hl : a + m ≤ ls.length) (keep : List Int) : ∀ (j : Nat), j ≤ m → ∀ i,
    (keptS D ls ks keep j).getD i [] = if a ≤ i ∧ i < a + j then mixS (keptI (keep.getD (i - a) 0)) (sf i) (ls.getD i []) else ls.getD i [] := by
  intro j
  induction j with
  | zero => intro _ i; rw [if_neg (by omega)]; rfl
  | succ j ih =>
    intro hj i
    have hk : ks.getD j 0 = ((a + j : Nat) : Int) := by rw [hks, List.getD_eq_getElem?_getD, List.getElem?_map, List.getElem?_range (by omega)]; rfl
    unfold keptS
    rw [hk, Int.toNat_natCast]
    by_cases hi : i = a + j
    · subst hi
      rw [List.getD_eq_getElem?_getD, List.getElem?_set, if_pos rfl, if_pos (by rw [kept_length]; omega), if_pos (by omega), Option.getD_some, h.elem (by omega), ih (by omega), if_neg (by omega), show a + j - a = j by omega]
    · rw [List.getD_eq_getElem?_getD, List.getElem?_set, if_neg (by omega), ← List.getD_eq_getElem?_getD, ih (by omega) i]
      by_cases h2 : a ≤ i ∧ i < a + j
      · rw [if_pos h2, if_pos (by omega)]
      · rw [if_neg h2, if_neg (by omega)]
end Go.Proofs.Ytehanjhgjbclhaa

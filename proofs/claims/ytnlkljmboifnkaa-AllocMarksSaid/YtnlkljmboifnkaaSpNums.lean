/- Plain mathematics on lists of spans: valid ones, adding and removing, in the program's way and in the document's; the numbers that they have. No program, no conditions but those that stand in each lemma. -/
namespace Go.Proofs.Ytnlkljmboifnkaa
namespace Spans
abbrev P := Int × Int
def z : P := (0, 0)
def top : Int := 1099511627776
/-- A span is right. -/
def R (s : P) : Prop := 0 ≤ s.1 ∧ s.1 < s.2 ∧ s.2 ≤ 1099511627776
instance (s : P) : Decidable (R s) := by unfold R; infer_instance
def rightB (s : P) : Bool := decide (0 ≤ s.1 ∧ s.1 < s.2 ∧ s.2 ≤ 1099511627776)
theorem rightB_iff (s : P) : rightB s = true ↔ R s := by unfold rightB R; simp
/-- The one at place i is right, and above the one ahead of it. -/
def okAt (l : List P) (i : Nat) : Bool := rightB (l.getD i z) && (decide (i = 0) || decide ((l.getD (i - 1) z).2 < (l.getD i z).1))
def validB (l : List P) : Bool := (List.range l.length).all (okAt l)
/-- Valid, said of pairs. -/
def VL (l : List P) : Prop := (∀ s ∈ l, R s) ∧ l.Pairwise (fun a b => a.2 < b.1)

theorem getD_mem {l : List P} {i : Nat} (h : i < l.length) : l.getD i z ∈ l := by
  rw [List.getD_eq_getElem?_getD, List.getElem?_eq_getElem h]; exact List.getElem_mem h
theorem okAt_cons (x : P) (l : List P) (i : Nat) : okAt (x :: l) (i + 2) = okAt l (i + 1) := by simp [okAt]
theorem validB_spec (l : List P) : validB l = true ↔ ∀ i, i < l.length → okAt l i = true := by simp [validB]
theorem okAt_iff (l : List P) (i : Nat) : okAt l i = true ↔ R (l.getD i z) ∧ (i = 0 ∨ (l.getD (i - 1) z).2 < (l.getD i z).1) := by simp [okAt, rightB_iff]
theorem VL.cons {x : P} {l : List P} : VL (x :: l) ↔ R x ∧ (∀ y ∈ l, x.2 < y.1) ∧ VL l := by
  simp only [VL, List.mem_cons, List.pairwise_cons, forall_eq_or_imp]
  constructor
  · rintro ⟨⟨a, b⟩, c, d⟩; exact ⟨a, c, b, d⟩
  · rintro ⟨a, c, b, d⟩; exact ⟨⟨a, b⟩, c, d⟩
theorem VL.nil : VL [] := ⟨fun _ h => (by cases h), List.Pairwise.nil⟩
theorem validB_iff : ∀ l : List P, validB l = true ↔ VL l
  | [] => by simp [validB, VL.nil]
  | [x] => by simp [validB_spec, okAt_iff, VL.cons, VL.nil]
  | x :: y :: l => by
    have ih := validB_iff (y :: l)
    rw [VL.cons, ← ih]
    simp only [validB_spec, okAt_iff] at ih ⊢
    constructor
    · intro h
      have h0 := h 0 (by simp)
      have h1 := h 1 (by simp)
      simp at h0 h1
      have hv : ∀ i, i < (y :: l).length → R ((y :: l).getD i z) ∧ (i = 0 ∨ ((y :: l).getD (i - 1) z).2 < ((y :: l).getD i z).1) := fun i hi => by
        have := h (i + 1) (by simpa using hi)
        simp only [List.getD_cons_succ] at this
        refine ⟨this.1, ?_⟩
        rcases Nat.eq_zero_or_pos i with rfl | hp
        · exact .inl rfl
        · right
          obtain ⟨j, rfl⟩ : ∃ j, i = j + 1 := ⟨i - 1, by omega⟩
          simpa using this.2
      refine ⟨h0, fun w hw => ?_, hv⟩
      have hVL := ih.1 hv
      rcases List.mem_cons.1 hw with rfl | hw
      · exact h1.2
      · have := (VL.cons.1 hVL).2.1 w hw
        have hr := (VL.cons.1 hVL).1
        have := h1.2
        unfold R at hr
        omega
    · rintro ⟨hx, hall, hv⟩ i hi
      rcases i with _ | _ | i
      · exact ⟨hx, .inl rfl⟩
      · have := hv 0 (by simp)
        refine ⟨by simpa using this.1, .inr ?_⟩
        simpa using hall y (by simp)
      · have := hv (i + 1) (by simpa using hi)
        refine ⟨by simpa using this.1, .inr ?_⟩
        simpa using this.2

/-- Spans, and one that is held against them, are what they must be. -/
def fitB (l : List P) (s : P) : Bool := validB l && rightB s
theorem fitB_iff (l : List P) (s : P) : fitB l s = true ↔ VL l ∧ R s := by simp [fitB, validB_iff, rightB_iff]

/- Adding, the program's way. -/
def ahead (s : P) (x : P) : Bool := decide (x.2 < s.1)
def behind (s : P) (x : P) : Bool := decide (s.2 < x.1)
def between (s : P) (x : P) : Bool := !ahead s x && !behind s x
def merge (s x : P) : P := (min s.1 x.1, max s.2 x.2)
def whole (l : List P) (s : P) : P := (l.filter (between s)).foldl merge s
def addV (l : List P) (s : P) : List P := l.filter (ahead s) ++ whole l s :: l.filter (behind s)
def addL (l : List P) (s : P) : List P := if fitB l s then addV l s else l

theorem filter_all {p : P → Bool} {l : List P} (h : ∀ x ∈ l, p x = true) : l.filter p = l := List.filter_eq_self.2 h
theorem filter_none {p : P → Bool} {l : List P} (h : ∀ x ∈ l, p x = false) : l.filter p = [] := List.filter_eq_nil_iff.2 (fun x hx => by rw [h x hx]; simp)
/-- A valid list is what is ahead, then what meets or touches, then what is behind. -/
theorem parted : ∀ (l : List P) (s : P), VL l → R s → l = l.filter (ahead s) ++ (l.filter (between s) ++ l.filter (behind s))
  | [], _, _, _ => rfl
  | x :: l, s, hv, hs => by
    obtain ⟨hx, hall, hv'⟩ := VL.cons.1 hv
    have ih := parted l s hv' hs
    have hR : ∀ y ∈ l, R y := hv'.1
    unfold R at hx hs
    by_cases ha : x.2 < s.1
    · have hb : ¬ s.2 < x.1 := by omega
      simp only [List.filter_cons, ahead, behind, between, ha, hb, decide_true, decide_false, Bool.not_true, Bool.false_and, if_true, Bool.false_eq_true, if_false, List.cons_append]
      exact congrArg _ ih
    · by_cases hb : s.2 < x.1
      · have e1 : l.filter (ahead s) = [] := filter_none fun y hy => by have := hall y hy; have := hR y hy; unfold R at this; simp only [ahead, decide_eq_false_iff_not]; omega
        have e2 : l.filter (behind s) = l := filter_all fun y hy => by have := hall y hy; simp only [behind, decide_eq_true_eq]; omega
        have e3 : l.filter (between s) = [] := filter_none fun y hy => by have := hall y hy; have : behind s y = true := (by simp only [behind, decide_eq_true_eq]; omega); simp [between, this]
        have f1 : ahead s x = false := by simp [ahead, ha]
        have f2 : behind s x = true := by simp [behind, hb]
        have f3 : between s x = false := by simp [between, f2]
        simp only [List.filter_cons, f1, f2, f3, Bool.false_eq_true, if_false, if_true, e1, e2, e3]
        rfl
      · have e1 : l.filter (ahead s) = [] := filter_none fun y hy => by have := hall y hy; have := hR y hy; unfold R at this; simp only [ahead, decide_eq_false_iff_not]; omega
        have f1 : ahead s x = false := by simp [ahead, ha]
        have f2 : behind s x = false := by simp [behind, hb]
        rw [e1, List.nil_append] at ih
        have f3 : between s x = true := by simp [between, f1, f2]
        simp only [List.filter_cons, f1, f2, f3, Bool.false_eq_true, if_false, if_true, e1, List.nil_append, List.cons_append]
        exact congrArg _ ih
theorem counts (l : List P) (s : P) (hv : VL l) (hs : R s) : (l.filter (ahead s)).length + (l.filter (between s)).length + (l.filter (behind s)).length = l.length := by
  have := congrArg List.length (parted l s hv hs)
  simp only [List.length_append] at this
  omega
/-- The part that the program cuts out. -/
theorem cut (l : List P) (s : P) (hv : VL l) (hs : R s) : (l.take (l.length - (l.filter (behind s)).length)).drop (l.filter (ahead s)).length = l.filter (between s) := by
  have hp := parted l s hv hs
  have hc := counts l s hv hs
  have h1 : l.take (l.length - (l.filter (behind s)).length) = l.filter (ahead s) ++ l.filter (between s) := by
    conv => lhs; rw [hp]
    rw [← List.append_assoc]
    have e : l.length - (l.filter (behind s)).length = (l.filter (ahead s) ++ l.filter (between s)).length := by rw [List.length_append]; omega
    rw [show ((List.filter (ahead s) l ++ (List.filter (between s) l)) ++ List.filter (behind s) l).length = l.length by rw [List.append_assoc, ← hp]]
    rw [show (List.filter (behind s) ((List.filter (ahead s) l ++ List.filter (between s) l) ++ List.filter (behind s) l)) = List.filter (behind s) l by rw [List.append_assoc, ← hp]]
    rw [e, List.take_left']
    rfl
  rw [h1, List.drop_left']
  rfl

/- Adding, the document's way: what comes to the answer from here on. -/
def addR : List P → P → Bool → List P
  | [], s, placed => if placed then [] else [s]
  | x :: r, s, placed => if x.2 < s.1 then x :: addR r s placed else if s.2 < x.1 then (if placed then x :: addR r s true else s :: x :: addR r s true) else addR r (if x.1 < s.1 then x.1 else s.1, if s.2 < x.2 then x.2 else s.2) placed
theorem merge_eq (s x : P) : merge s x = (if x.1 < s.1 then x.1 else s.1, if s.2 < x.2 then x.2 else s.2) := by
  unfold merge
  congr 1
  · split <;> omega
  · split <;> omega
theorem addR_behind : ∀ (l : List P) (s : P), (∀ x ∈ l, s.2 < x.1) → R s → (∀ x ∈ l, R x) → addR l s true = l
  | [], _, _, _, _ => rfl
  | x :: l, s, h, hs, hr => by
    have hx := h x (by simp)
    have hrx := hr x (by simp)
    unfold R at hs hrx
    rw [addR, if_neg (by omega), if_pos hx, if_pos rfl, addR_behind l s (fun y hy => h y (by simp [hy])) hs (fun y hy => hr y (by simp [hy]))]
theorem R_merge {s x : P} (hs : R s) (hx : R x) : R (merge s x) := by
  unfold R merge at *
  simp only
  omega
theorem addR_addV : ∀ (l : List P) (s : P), VL l → R s → addR l s false = addV l s
  | [], _, _, _ => rfl
  | x :: l, s, hv, hs => by
    obtain ⟨hx, hall, hv'⟩ := VL.cons.1 hv
    have hR : ∀ y ∈ l, R y := hv'.1
    have hx0 := hx
    have hs0 := hs
    unfold R at hx hs
    by_cases ha : x.2 < s.1
    · have hb : ¬ s.2 < x.1 := by omega
      rw [addR, if_pos ha, addR_addV l s hv' hs0]
      simp only [addV, whole, List.filter_cons, ahead, behind, between, ha, hb, decide_true, decide_false, Bool.not_true, Bool.false_and, if_true, Bool.false_eq_true, if_false, List.cons_append]
    · by_cases hb : s.2 < x.1
      · have hbe : ∀ y ∈ l, s.2 < y.1 := fun y hy => by have := hall y hy; omega
        have e1 : l.filter (ahead s) = [] := filter_none fun y hy => by have := hall y hy; have := hR y hy; unfold R at this; simp only [ahead, decide_eq_false_iff_not]; omega
        have e2 : l.filter (behind s) = l := filter_all fun y hy => by simp only [behind, decide_eq_true_eq]; exact hbe y hy
        have e3 : l.filter (between s) = [] := filter_none fun y hy => by have : behind s y = true := (by simp only [behind, decide_eq_true_eq]; exact hbe y hy); simp [between, this]
        have f1 : ahead s x = false := by simp [ahead, ha]
        have f2 : behind s x = true := by simp [behind, hb]
        have f3 : between s x = false := by simp [between, f2]
        rw [addR, if_neg ha, if_pos hb, if_neg (by simp), addR_behind l s hbe hs0 hR]
        simp only [addV, whole, List.filter_cons, f1, f2, f3, Bool.false_eq_true, if_false, if_true, e1, e2, e3]
        rfl
      · have e1 : l.filter (ahead s) = [] := filter_none fun y hy => by have := hall y hy; have := hR y hy; unfold R at this; simp only [ahead, decide_eq_false_iff_not]; omega
        have f1 : ahead s x = false := by simp [ahead, ha]
        have f2 : behind s x = false := by simp [behind, hb]
        have f3 : between s x = true := by simp [between, f1, f2]
        have hm := merge_eq s x
        rw [addR, if_neg ha, if_neg hb, ← hm, addR_addV l (merge s x) hv' (R_merge hs0 hx0)]
        have m1 : (merge s x).1 ≤ s.1 := by unfold merge; simp only; omega
        have m2 : (merge s x).2 = max s.2 x.2 := rfl
        have m3 : s.1 ≤ x.2 := by omega
        have g1 : l.filter (ahead (merge s x)) = [] := filter_none fun y hy => by have := hall y hy; have := hR y hy; unfold R at this; simp only [ahead, decide_eq_false_iff_not]; omega
        have g2 : l.filter (behind (merge s x)) = l.filter (behind s) := List.filter_congr fun y hy => by have := hall y hy; simp only [behind, decide_eq_decide, m2]; omega
        have g3 : l.filter (between (merge s x)) = l.filter (between s) := List.filter_congr fun y hy => by
          have := hall y hy
          have hy' := hR y hy
          unfold R at hy'
          have a1 : ahead (merge s x) y = false := by simp only [ahead, decide_eq_false_iff_not]; omega
          have a2 : ahead s y = false := by simp only [ahead, decide_eq_false_iff_not]; omega
          have a3 : behind (merge s x) y = behind s y := by simp only [behind, decide_eq_decide, m2]; omega
          simp [between, a1, a2, a3]
        simp only [addV, whole, List.filter_cons, f1, f2, f3, Bool.false_eq_true, if_false, if_true, e1, g1, g2, g3, List.foldl_cons]

/- Removing. -/
def pieces (s x : P) : List P := [(x.1, min x.2 s.1), (max x.1 s.2, x.2)]
def rem1 (s x : P) : List P := if x.2 ≤ s.1 ∨ s.2 ≤ x.1 then [x] else (if x.1 < s.1 then [(x.1, s.1)] else []) ++ (if s.2 < x.2 then [(s.2, x.2)] else [])
def remV (l : List P) (s : P) : List P := (l.flatMap (pieces s)).filter rightB
def remL (l : List P) (s : P) : List P := if fitB l s then remV l s else l
theorem rem1_eq {s x : P} (hs : R s) (hx : R x) : (pieces s x).filter rightB = rem1 s x := by
  obtain ⟨x1, x2⟩ := x
  obtain ⟨s1, s2⟩ := s
  unfold R at hs hx
  simp only at hs hx
  unfold pieces
  simp only [List.filter_cons, List.filter_nil]
  have r1 : rightB (x1, min x2 s1) = decide (x1 < min x2 s1) := by unfold rightB; rw [decide_eq_decide]; simp only; omega
  have r2 : rightB (max x1 s2, x2) = decide (max x1 s2 < x2) := by unfold rightB; rw [decide_eq_decide]; simp only; omega
  rw [r1, r2]
  have go : ∀ (p q : Bool), decide (x1 < min x2 s1) = p → decide (max x1 s2 < x2) = q → (if p = true then (x1, min x2 s1) :: (if q = true then [(max x1 s2, x2)] else []) else (if q = true then [(max x1 s2, x2)] else [])) = rem1 (s1, s2) (x1, x2) → 
      (if decide (x1 < min x2 s1) = true then (x1, min x2 s1) :: (if decide (max x1 s2 < x2) = true then [(max x1 s2, x2)] else []) else (if decide (max x1 s2 < x2) = true then [(max x1 s2, x2)] else [])) = rem1 (s1, s2) (x1, x2) := fun p q hp hq h => by rw [hp, hq]; exact h
  show _ = rem1 (s1, s2) (x1, x2)
  unfold rem1 at go ⊢
  by_cases h1 : x2 ≤ s1
  · refine go true false (decide_eq_true (by omega)) (decide_eq_false (by omega)) ?_
    rw [if_pos (Or.inl h1), Int.min_eq_left h1]; rfl
  · by_cases h2 : s2 ≤ x1
    · refine go false true (decide_eq_false (by omega)) (decide_eq_true (by omega)) ?_
      rw [if_pos (Or.inr h2), Int.max_eq_left h2]; rfl
    · by_cases h3 : x1 < s1 <;> by_cases h4 : s2 < x2
      · refine go true true (decide_eq_true (by omega)) (decide_eq_true (by omega)) ?_
        have n0 : ¬ (x2 ≤ s1 ∨ s2 ≤ x1) := by omega
        rw [if_neg n0, if_pos h3, if_pos h4, Int.min_eq_right (by omega), Int.max_eq_right (by omega)]; rfl
      · refine go true false (decide_eq_true (by omega)) (decide_eq_false (by omega)) ?_
        have n0 : ¬ (x2 ≤ s1 ∨ s2 ≤ x1) := by omega
        rw [if_neg n0, if_pos h3, if_neg h4, Int.min_eq_right (by omega)]; rfl
      · refine go false true (decide_eq_false (by omega)) (decide_eq_true (by omega)) ?_
        have n0 : ¬ (x2 ≤ s1 ∨ s2 ≤ x1) := by omega
        rw [if_neg n0, if_neg h3, if_pos h4, Int.max_eq_right (by omega)]; rfl
      · refine go false false (decide_eq_false (by omega)) (decide_eq_false (by omega)) ?_
        have n0 : ¬ (x2 ≤ s1 ∨ s2 ≤ x1) := by omega
        rw [if_neg n0, if_neg h3, if_neg h4]; rfl
theorem remV_eq {l : List P} {s : P} (hv : VL l) (hs : R s) : remV l s = l.flatMap (rem1 s) := by
  unfold remV
  rw [List.filter_flatMap]
  have : ∀ m : List P, (∀ x ∈ m, R x) → m.flatMap (fun x => (pieces s x).filter rightB) = m.flatMap (rem1 s) := by
    intro m hm
    induction m with
    | nil => rfl
    | cons x m ih => rw [List.flatMap_cons, List.flatMap_cons, rem1_eq hs (hm x (by simp)), ih fun y hy => hm y (by simp [hy])]
  exact this l hv.1

/- The numbers. -/
def has1 (x : P) (n : Int) : Prop := x.1 ≤ n ∧ n < x.2
def In (l : List P) (n : Int) : Prop := ∃ x ∈ l, has1 x n
theorem In.nil (n : Int) : ¬ In [] n := fun ⟨_, h, _⟩ => by cases h
theorem In.cons {x : P} {l : List P} {n : Int} : In (x :: l) n ↔ has1 x n ∨ In l n := by simp [In]
theorem In.append {l m : List P} {n : Int} : In (l ++ m) n ↔ In l n ∨ In m n := by
  simp only [In, List.mem_append]
  constructor
  · rintro ⟨x, h | h, k⟩
    · exact .inl ⟨x, h, k⟩
    · exact .inr ⟨x, h, k⟩
  · rintro (⟨x, h, k⟩ | ⟨x, h, k⟩)
    · exact ⟨x, .inl h, k⟩
    · exact ⟨x, .inr h, k⟩
theorem addR_in : ∀ (l : List P) (s : P) (n : Int), VL l → R s → (In (addR l s false) n ↔ In l n ∨ has1 s n)
  | [], s, n, _, _ => by simp [addR, In.cons, In.nil]
  | x :: l, s, n, hv, hs => by
    obtain ⟨hx, hall, hv'⟩ := VL.cons.1 hv
    have hx0 := hx
    have hs0 := hs
    unfold R at hx hs
    by_cases ha : x.2 < s.1
    · rw [addR, if_pos ha, In.cons, In.cons, addR_in l s n hv' hs0, or_assoc]
    · by_cases hb : s.2 < x.1
      · rw [addR, if_neg ha, if_pos hb, if_neg (by simp), addR_behind l s (fun y hy => by have := hall y hy; omega) hs0 hv'.1, In.cons, In.cons]
        exact or_comm
      · rw [addR, if_neg ha, if_neg hb, ← merge_eq, addR_in l _ n hv' (R_merge hs0 hx0), In.cons]
        have : has1 (merge s x) n ↔ has1 x n ∨ has1 s n := by unfold has1 merge; simp only; omega
        rw [this]
        exact ⟨fun h => h.elim (fun h => .inl (.inr h)) (fun h => h.elim (fun h => .inl (.inl h)) .inr), fun h => h.elim (fun h => h.elim (fun h => .inr (.inl h)) .inl) (fun h => .inr (.inr h))⟩
/-- All of them lie above a, and stay so. -/
theorem addR_low : ∀ (l : List P) (s : P) (a : Int), (∀ y ∈ l, a < y.1) → a < s.1 → ∀ y ∈ addR l s false, a < y.1
  | [], s, a, _, hs, y, hy => by simp [addR] at hy; subst hy; exact hs
  | x :: l, s, a, h, hs, y, hy => by
    have hx := h x (by simp)
    have hl : ∀ y ∈ l, a < y.1 := fun y hy => h y (by simp [hy])
    rw [addR] at hy
    split at hy
    · rcases List.mem_cons.1 hy with rfl | hy
      · exact hx
      · exact addR_low l s a hl hs y hy
    · split at hy
      · rw [if_neg (by simp)] at hy
        rcases List.mem_cons.1 hy with rfl | hy
        · exact hs
        · rcases List.mem_cons.1 hy with rfl | hy
          · exact hx
          · exact addR_true l s a hl hs y hy
      · refine addR_low l _ a hl ?_ y hy
        rw [← merge_eq]
        unfold merge
        simp only
        omega
where addR_true : ∀ (l : List P) (s : P) (a : Int), (∀ y ∈ l, a < y.1) → a < s.1 → ∀ y ∈ addR l s true, a < y.1
  | [], _, _, _, _, y, hy => by simp [addR] at hy
  | x :: l, s, a, h, hs, y, hy => by
    have hx := h x (by simp)
    have hl : ∀ y ∈ l, a < y.1 := fun y hy => h y (by simp [hy])
    rw [addR] at hy
    split at hy
    · rcases List.mem_cons.1 hy with rfl | hy
      · exact hx
      · exact addR_true l s a hl hs y hy
    · split at hy
      · rw [if_pos rfl] at hy
        rcases List.mem_cons.1 hy with rfl | hy
        · exact hx
        · exact addR_true l s a hl hs y hy
      · refine addR_true l _ a hl ?_ y hy
        rw [← merge_eq]
        unfold merge
        simp only
        omega
theorem addR_valid : ∀ (l : List P) (s : P), VL l → R s → VL (addR l s false)
  | [], s, _, hs => by rw [addR, if_neg (by simp)]; exact VL.cons.2 ⟨hs, fun _ h => (by cases h), VL.nil⟩
  | x :: l, s, hv, hs => by
    obtain ⟨hx, hall, hv'⟩ := VL.cons.1 hv
    have hx0 := hx
    have hs0 := hs
    unfold R at hx hs
    by_cases ha : x.2 < s.1
    · rw [addR, if_pos ha]
      exact VL.cons.2 ⟨hx0, addR_low l s x.2 hall ha, addR_valid l s hv' hs0⟩
    · by_cases hb : s.2 < x.1
      · rw [addR, if_neg ha, if_pos hb, if_neg (by simp), addR_behind l s (fun y hy => by have := hall y hy; omega) hs0 hv'.1]
        have hlow : ∀ y ∈ x :: l, s.2 < y.1 := by
          intro y hy
          rcases List.mem_cons.1 hy with rfl | hy
          · exact hb
          · have := hall y hy; omega
        exact VL.cons.2 ⟨hs0, hlow, hv⟩
      · rw [addR, if_neg ha, if_neg hb, ← merge_eq]
        exact addR_valid l _ hv' (R_merge hs0 hx0)
theorem rem1_in {s x : P} (n : Int) : In (rem1 s x) n ↔ has1 x n ∧ ¬ has1 s n := by
  unfold rem1
  split
  · simp only [In.cons, In.nil, or_false]; unfold has1; omega
  · rw [In.append]
    have h1 : In (if x.1 < s.1 then [(x.1, s.1)] else []) n ↔ x.1 < s.1 ∧ has1 (x.1, s.1) n := by split <;> simp [In.cons, In.nil, *]
    have h2 : In (if s.2 < x.2 then [(s.2, x.2)] else []) n ↔ s.2 < x.2 ∧ has1 (s.2, x.2) n := by split <;> simp [In.cons, In.nil, *]
    rw [h1, h2]
    unfold has1
    simp only
    omega
theorem rem_in {l : List P} {s : P} (n : Int) : In (l.flatMap (rem1 s)) n ↔ In l n ∧ ¬ has1 s n := by
  induction l with
  | nil => simp [In.nil]
  | cons x l ih => rw [List.flatMap_cons, In.append, rem1_in, ih, In.cons, or_and_right]
theorem rem1_sub {s x y : P} (hs : R s) (hx : R x) (h : y ∈ rem1 s x) : R y ∧ x.1 ≤ y.1 ∧ y.2 ≤ x.2 := by
  unfold rem1 at h
  unfold R at hs hx ⊢
  split at h
  · obtain rfl := List.mem_singleton.1 h; omega
  · rcases List.mem_append.1 h with h | h
    · split at h
      · obtain rfl := List.mem_singleton.1 h; simp only; omega
      · cases h
    · split at h
      · obtain rfl := List.mem_singleton.1 h; simp only; omega
      · cases h
theorem rem1_valid {s x : P} (hs : R s) (hx : R x) : VL (rem1 s x) := by
  refine ⟨fun y hy => (rem1_sub hs hx hy).1, ?_⟩
  unfold rem1
  unfold R at hs
  split
  · simp
  · split <;> split <;> simp
    omega
theorem VL.append {l m : List P} (hl : VL l) (hm : VL m) (h : ∀ x ∈ l, ∀ y ∈ m, x.2 < y.1) : VL (l ++ m) :=
  ⟨fun s hs => (List.mem_append.1 hs).elim (hl.1 s) (hm.1 s), List.pairwise_append.2 ⟨hl.2, hm.2, h⟩⟩
theorem rem_valid : ∀ (l : List P) (s : P), VL l → R s → VL (l.flatMap (rem1 s))
  | [], _, _, _ => VL.nil
  | x :: l, s, hv, hs => by
    obtain ⟨hx, hall, hv'⟩ := VL.cons.1 hv
    rw [List.flatMap_cons]
    refine VL.append (rem1_valid hs hx) (rem_valid l s hv' hs) fun a ha b hb => ?_
    obtain ⟨y, hy, hyb⟩ := List.mem_flatMap.1 hb
    have h1 := rem1_sub hs hx ha
    have h2 := rem1_sub hs (hv'.1 y hy) hyb
    have := hall y hy
    omega

/-- A set has one list. -/
theorem one_list : ∀ (l m : List P), VL l → VL m → (∀ n, In l n ↔ In m n) → l = m
  | [], [], _, _, _ => rfl
  | [], y :: m, _, hm, h => by
    have hy := (VL.cons.1 hm).1
    unfold R at hy
    exact absurd ((h y.1).2 (In.cons.2 (.inl ⟨Int.le_refl _, hy.2.1⟩))) (In.nil _)
  | x :: l, [], hl, _, h => by
    have hx := (VL.cons.1 hl).1
    unfold R at hx
    exact absurd ((h x.1).1 (In.cons.2 (.inl ⟨Int.le_refl _, hx.2.1⟩))) (In.nil _)
  | x :: l, y :: m, hl, hm, h => by
    obtain ⟨hx, hxl, hl'⟩ := VL.cons.1 hl
    obtain ⟨hy, hym, hm'⟩ := VL.cons.1 hm
    unfold R at hx hy
    have low : ∀ (a : P) (t : List P), (∀ b ∈ t, a.2 < b.1) → ∀ n, In t n → a.2 < n := fun a t ht n ⟨b, hb, hn⟩ => by have := ht b hb; unfold has1 at hn; omega
    have up : ∀ n, In l n → x.2 < n := low x l hxl
    have uq : ∀ n, In m n → y.2 < n := low y m hym
    have e1 : x.1 = y.1 := by
      have a := (h x.1).1 (In.cons.2 (.inl ⟨Int.le_refl _, hx.2.1⟩))
      have b := (h y.1).2 (In.cons.2 (.inl ⟨Int.le_refl _, hy.2.1⟩))
      rw [In.cons] at a b
      have a' : y.1 ≤ x.1 := a.elim (fun a => a.1) (fun a => by have := uq _ a; omega)
      have b' : x.1 ≤ y.1 := b.elim (fun a => a.1) (fun a => by have := up _ a; omega)
      omega
    have e2 : x.2 = y.2 := by
      rcases Int.lt_trichotomy x.2 y.2 with hlt | heq | hgt
      · have := (h x.2).2 (In.cons.2 (.inl ⟨by omega, hlt⟩))
        rw [In.cons] at this
        exact this.elim (fun a => absurd a.2 (by omega)) (fun a => absurd (up _ a) (by omega))
      · exact heq
      · have := (h y.2).1 (In.cons.2 (.inl ⟨by omega, hgt⟩))
        rw [In.cons] at this
        exact this.elim (fun a => absurd a.2 (by omega)) (fun a => absurd (uq _ a) (by omega))
    obtain rfl : x = y := Prod.ext e1 e2
    congr 1
    refine one_list l m hl' hm' fun n => ?_
    have hn := h n
    rw [In.cons, In.cons] at hn
    constructor
    · intro a
      have := up n a
      exact (hn.1 (.inr a)).elim (fun b => absurd b.2 (by omega)) id
    · intro a
      have := uq n a
      exact (hn.2 (.inr a)).elim (fun b => absurd b.2 (by omega)) id

/- Has, Meets, Total, Find. -/
def hasP (s x : P) : Bool := decide (x.1 ≤ s.1) && decide (s.2 ≤ x.2)
def meetsP (s x : P) : Bool := decide (x.1 < s.2) && decide (s.1 < x.2)
def hasB (l : List P) (s : P) : Bool := fitB l s && l.any (hasP s)
def meetsB (l : List P) (s : P) : Bool := fitB l s && l.any (meetsP s)
def sum (l : List P) : Int := (l.map fun x => x.2 - x.1).sum
def totalL (l : List P) : Int := if validB l then sum l else 0
def findIn : List P → Int → Int
  | [], _ => -1
  | x :: r, n => if n ≤ x.2 - x.1 then x.1 else findIn r n
def findL (l : List P) (n : Int) : Int := if n < 1 then -1 else if validB l then findIn l n else -1
theorem sum_append (l m : List P) : sum (l ++ m) = sum l + sum m := by simp [sum]
theorem sum_cons (x : P) (l : List P) : sum (x :: l) = x.2 - x.1 + sum l := by simp [sum]
theorem sum_nil : sum [] = 0 := rfl
theorem sum_lo : ∀ (l : List P), (∀ x ∈ l, R x) → 0 ≤ sum l
  | [], _ => by simp [sum]
  | x :: l, h => by
    have := sum_lo l (fun y hy => h y (by simp [hy]))
    have hx := h x (by simp)
    unfold R at hx
    rw [sum_cons]; omega
/-- The spans of a valid list lie one behind the other below the greatest number. -/
theorem sum_hi : ∀ (l : List P) (a : Int), VL l → (∀ x ∈ l, a ≤ x.1) → a ≤ top → sum l ≤ top - a
  | [], a, _, _, h => by simp [sum]; omega
  | x :: l, a, hv, h, _ => by
    obtain ⟨hx, hall, hv'⟩ := VL.cons.1 hv
    unfold R at hx
    have := h x (by simp)
    have := sum_hi l x.2 hv' (fun y hy => by have := hall y hy; omega) (by unfold top; omega)
    rw [sum_cons]; omega
theorem hasB_one {l : List P} (hv : VL l) (k : Int) (h0 : 0 ≤ k) (h1 : k < top) : hasB l (k, k + 1) = true ↔ In l k := by
  unfold hasB top at *
  have hr : R (k, k + 1) := by unfold R; simp only; omega
  rw [Bool.and_eq_true, fitB_iff, List.any_eq_true]
  constructor
  · rintro ⟨_, x, hx, hp⟩
    simp [hasP] at hp
    exact ⟨x, hx, hp.1, by omega⟩
  · rintro ⟨x, hx, hp⟩
    refine ⟨⟨hv, hr⟩, x, hx, ?_⟩
    unfold has1 at hp
    simp [hasP]
    omega
theorem meetsB_iff {l : List P} {s : P} (hv : VL l) (hs : R s) : meetsB l s = true ↔ ∃ n, In l n ∧ has1 s n := by
  unfold meetsB
  rw [Bool.and_eq_true, fitB_iff, List.any_eq_true]
  constructor
  · rintro ⟨_, x, hx, hp⟩
    have hr := hv.1 x hx
    unfold R at hs hr
    simp [meetsP] at hp
    exact ⟨max x.1 s.1, ⟨x, hx, by unfold has1; omega⟩, by unfold has1; omega⟩
  · rintro ⟨n, ⟨x, hx, hp⟩, hn⟩
    unfold has1 at hp hn
    refine ⟨⟨hv, hs⟩, x, hx, ?_⟩
    simp [meetsP]
    omega
end Spans
end Go.Proofs.Ytnlkljmboifnkaa

/- The greatest piece of a row of ends (plain mathematics): piece by piece, and place by place, it is the same. No conditions but those that stand in each lemma. -/
import Derived.Test.YtejcpfplmlpilaaPartWords
namespace Go.Proofs.Ytejcpfplmlpilaa
namespace Part

/-- Where the piece begins that ends at the k-th end. -/
def prevE (es : List Int) (k : Nat) : Int := if k = 0 then 0 else es.getD (k - 1) 0
theorem prevE_next (es : List Int) (k : Nat) : prevE es (k + 1) = es.getD k 0 := by unfold prevE; rw [if_neg (by omega)]; rfl
theorem prevE_zero (es : List Int) : prevE es 0 = 0 := rfl
/-- The ends rise from 1 on to n. -/
structure RiseP (es : List Int) (n : Nat) : Prop where
  up : ∀ i, i < es.length → prevE es i < es.getD i 0
  last : prevE es es.length = (n : Int)
def cutE (es : List Int) (i : Nat) : Bool := decide ((i : Int) ∈ es)
section
variable {es l : List Int} {n : Nat}
theorem RiseP.pos (h : RiseP es n) : ∀ k, k ≤ es.length → 0 ≤ prevE es k
  | 0, _ => Int.le_refl _
  | k + 1, hk => by
    have h1 := h.pos k (by omega)
    have h2 := h.up k (by omega)
    rw [prevE_next]; omega
theorem RiseP.mono (h : RiseP es n) {i : Nat} : ∀ j, i ≤ j → j ≤ es.length → prevE es i ≤ prevE es j
  | 0, hij, _ => by rw [show i = 0 by omega]; exact Int.le_refl _
  | j + 1, hij, hj => by
    by_cases e : i = j + 1
    · rw [e]; exact Int.le_refl _
    · have h1 := h.mono (i := i) j (by omega) (by omega)
      have h2 := h.up j (by omega)
      rw [prevE_next]; omega
theorem RiseP.top (h : RiseP es n) {k : Nat} (hk : k ≤ es.length) : prevE es k ≤ n := by
  have := h.mono es.length hk (Nat.le_refl _)
  rw [h.last] at this
  exact this
/-- Behind an end that is not the last there is a next one. -/
theorem RiseP.more (h : RiseP es n) {k : Nat} (hk : k ≤ es.length) (hn : prevE es k < n) : k < es.length := by
  rcases Nat.lt_or_ge k es.length with h1 | h1
  · exact h1
  · rw [show k = es.length by omega, h.last] at hn; omega
/-- Between two ends there is no other. -/
theorem RiseP.cut (h : RiseP es n) {k i : Nat} (hk : k < es.length) (h1 : prevE es k < i) (h2 : (i : Int) ≤ es.getD k 0) : cutE es i = true ↔ (i : Int) = es.getD k 0 := by
  unfold cutE
  rw [decide_eq_true_eq]
  constructor
  · intro hi
    obtain ⟨j, hj, e⟩ := List.mem_iff_getElem.1 hi
    have e2 : es.getD j 0 = (i : Int) := by rw [List.getD_eq_getElem?_getD, List.getElem?_eq_getElem hj]; exact e
    by_cases hjk : j < k
    · have := h.mono (i := j + 1) k hjk (by omega)
      rw [prevE_next] at this; omega
    · by_cases hjk2 : j = k
      · rw [← hjk2]; exact e2.symm
      · have h3 := h.mono (i := k + 1) j (by omega) (by omega)
        have h4 := h.up j hj
        rw [prevE_next] at h3; omega
  · intro hi
    rw [hi, List.getD_eq_getElem?_getD, List.getElem?_eq_getElem hk]
    exact List.getElem_mem hk
/-- Ahead of the place i: the sum of the piece under way, and the greatest so far. -/
def T (cut : Nat → Bool) (l : List Int) (i : Nat) : Int × Int := if i = 0 then (0, 0) else (stT cut l (i - 1)).2
theorem T_zero (cut : Nat → Bool) (l : List Int) : T cut l 0 = (0, 0) := rfl
theorem T_last (cut : Nat → Bool) (l : List Int) (i : Nat) : T cut l (i + 1) = (stT cut l i).2 := rfl
theorem T_cut (cut : Nat → Bool) (l : List Int) (i : Nat) (hi : 0 < i) (h : cut i = true) : T cut l (i + 1) = (l.getD i 0, max (T cut l i).2 (l.getD i 0)) := by
  cases i with
  | zero => omega
  | succ i => rw [T_last, T_last, st_cut _ _ _ h]
theorem T_on (cut : Nat → Bool) (l : List Int) (i : Nat) (h0 : 0 ≤ l.getD 0 0) (h : i = 0 ∨ ¬ cut i = true) : T cut l (i + 1) = ((T cut l i).1 + l.getD i 0, max (T cut l i).2 ((T cut l i).1 + l.getD i 0)) := by
  cases i with
  | zero =>
    rw [T_last, T_zero]
    show (l.getD 0 0, l.getD 0 0) = _
    simp only [Int.zero_add, Prod.mk.injEq, true_and]
    omega
  | succ i => rw [T_last, T_last, st_on _ _ _ (h.resolve_left (by omega))]
theorem T_bound (cut : Nat → Bool) {b : Int} (h : Sized l b) : ∀ i, 0 ≤ (T cut l i).1 ∧ (T cut l i).1 ≤ (T cut l i).2 ∧ (T cut l i).2 ≤ b * i
  | 0 => by rw [T_zero]; exact ⟨Int.le_refl _, Int.le_refl _, by simp⟩
  | i + 1 => by
    obtain ⟨h1, h2, h3⟩ := T_bound cut h i
    have h4 := h i
    have e : b * ((i + 1 : Nat) : Int) = b * (i : Int) + b := by rw [Int.natCast_add, Int.mul_add]; simp
    rw [e]
    have hm : 0 ≤ b * (i : Int) := Int.mul_nonneg (by omega) (by omega)
    by_cases hc : 0 < i ∧ cut i = true
    · rw [T_cut _ _ _ hc.1 hc.2]; simp only; omega
    · rw [T_on _ _ _ (h 0).1 (by
        rcases Nat.eq_zero_or_pos i with h0 | h0
        · exact .inl h0
        · exact .inr fun h => hc ⟨h0, h⟩)]
      simp only; omega
theorem T_bound' (cut : Nat → Bool) {i : Nat} (h : Sized l 1073741824) (hi : i ≤ 65536) : 0 ≤ (T cut l i).1 ∧ (T cut l i).1 ≤ (T cut l i).2 ∧ (T cut l i).2 ≤ 70368744177664 := by
  have := T_bound cut h i
  omega
/-- Within a piece. -/
theorem RiseP.within_ (h : RiseP es n) (hl : ∀ i, 0 ≤ l.getD i 0) {k p : Nat} (hk : k < es.length) (hp : (p : Int) = prevE es k) : ∀ d : Nat, ((p + d + 1 : Nat) : Int) ≤ es.getD k 0 → T (cutE es) l (p + d + 1) = (seg l p (p + d + 1), max (T (cutE es) l p).2 (seg l p (p + d + 1)))
  | 0, hd => by
    rw [Nat.add_zero, seg_next l (Nat.le_refl p), seg_none, Int.zero_add]
    rcases Nat.eq_zero_or_pos p with h0 | h0
    · subst h0
      rw [T_on _ _ _ (hl 0) (.inl rfl), T_zero]
      simp only [Int.zero_add]
    · refine T_cut _ _ _ h0 ?_
      cases k with
      | zero => rw [prevE_zero] at hp; omega
      | succ k =>
        have h1 := h.up k (by omega)
        rw [prevE_next] at hp
        exact (h.cut (k := k) (by omega) (by omega) (by omega)).2 hp
  | d + 1, hd => by
    have ih := h.within_ hl hk hp d (by omega)
    have hn : ¬ cutE es (p + d + 1) = true := fun hc => by
      have := (h.cut hk (by omega) (by omega)).1 hc
      omega
    rw [show p + (d + 1) + 1 = p + d + 1 + 1 by omega, T_on _ _ _ (hl 0) (.inr hn), ih, seg_next l (by omega : p ≤ p + d + 1)]
    have := hl (p + d + 1)
    simp only [Prod.mk.injEq, true_and]
    omega
/-- A whole piece. -/
theorem RiseP.piece (h : RiseP es n) (hl : ∀ i, 0 ≤ l.getD i 0) {k p e : Nat} (hk : k < es.length) (hp : (p : Int) = prevE es k) (he : (e : Int) = es.getD k 0) : (T (cutE es) l e).2 = max (T (cutE es) l p).2 (seg l p e) := by
  have h1 := h.up k hk
  have h2 := h.within_ hl hk hp (e - p - 1) (by omega)
  rw [show p + (e - p - 1) + 1 = e by omega] at h2
  rw [h2]
/-- What Greatest is. -/
def TopIs (l es : List Int) (r : Int) : Prop := (¬ (RiseP es l.length ∧ Sized l 1073741824) ∧ r = 0) ∨ (RiseP es l.length ∧ Sized l 1073741824 ∧ r = (T (cutE es) l l.length).2)
theorem TopIs.one {r r' : Int} (h : TopIs l es r) (h' : TopIs l es r') : r = r' := by
  rcases h with ⟨h, rfl⟩ | ⟨h, k, rfl⟩ <;> rcases h' with ⟨h', rfl⟩ | ⟨h', k', rfl⟩
  · rfl
  · exact absurd ⟨h', k'⟩ h
  · exact absurd ⟨h, k⟩ h'
  · rfl
theorem cutE_nat (es : List Nat) (i : Nat) : cutE (natI es) i = decide (i ∈ es) := by
  unfold cutE natI
  have : ((i : Int) ∈ es.map Int.ofNat) ↔ i ∈ es := by
    rw [List.mem_map]
    constructor
    · rintro ⟨j, hj, e⟩
      rw [← Int.ofNat_inj.1 e]; exact hj
    · intro hi
      exact ⟨i, hi, rfl⟩
  exact decide_eq_decide.2 this
/-- Of the ends of the greedy way. -/
theorem top_nat (l : List Int) (es : List Nat) (m : Nat) : (T (cutE (natI es)) l (m + 1)).2 = topOf l es m := by
  rw [T_last]
  unfold topOf
  rw [st_congr l m fun i _ _ => cutE_nat es i]
end
end Part
end Go.Proofs.Ytejcpfplmlpilaa

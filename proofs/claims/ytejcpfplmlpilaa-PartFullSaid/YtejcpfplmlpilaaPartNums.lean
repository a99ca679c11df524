/- Cutting a row of sizes into pieces (plain mathematics): the greedy way by a bound takes as few pieces as can be within that bound; the least bound of as few pieces is the greatest piece of its own cut. No conditions but those that stand in each lemma. -/
import Derived.Test.YtejcpfplmlpilaaRows
namespace Go.Proofs.Ytejcpfplmlpilaa
namespace Part

/-- The sizes from one place to another, together. -/
def seg (l : List Int) (a b : Nat) : Int := ((l.drop a).take (b - a)).sum
theorem seg_none (l : List Int) (a : Nat) : seg l a a = 0 := by unfold seg; rw [Nat.sub_self]; rfl
theorem seg_next (l : List Int) {a b : Nat} (h : a ≤ b) : seg l a (b + 1) = seg l a b + l.getD b 0 := by
  unfold seg
  rw [show b + 1 - a = b - a + 1 by omega, List.take_add_one, List.sum_append, List.getElem?_drop, show a + (b - a) = b by omega, List.getD_eq_getElem?_getD]
  cases l[b]? <;> simp
/-- After the sizes up to the place k: how many pieces, the last one's sum, the greatest sum so far; where cuts are is told. -/
def stT (cut : Nat → Bool) (l : List Int) : Nat → Nat × Int × Int
  | 0 => (1, l.getD 0 0, l.getD 0 0)
  | k + 1 => if cut (k + 1) = true then ((stT cut l k).1 + 1, l.getD (k + 1) 0, max (stT cut l k).2.2 (l.getD (k + 1) 0)) else ((stT cut l k).1, (stT cut l k).2.1 + l.getD (k + 1) 0, max (stT cut l k).2.2 ((stT cut l k).2.1 + l.getD (k + 1) 0))
theorem st_cut (cut : Nat → Bool) (l : List Int) (k : Nat) (h : cut (k + 1) = true) : stT cut l (k + 1) = ((stT cut l k).1 + 1, l.getD (k + 1) 0, max (stT cut l k).2.2 (l.getD (k + 1) 0)) := by rw [stT, if_pos h]
theorem st_on (cut : Nat → Bool) (l : List Int) (k : Nat) (h : ¬ cut (k + 1) = true) : stT cut l (k + 1) = ((stT cut l k).1, (stT cut l k).2.1 + l.getD (k + 1) 0, max (stT cut l k).2.2 ((stT cut l k).2.1 + l.getD (k + 1) 0)) := by rw [stT, if_neg h]
theorem st_pos (cut : Nat → Bool) (l : List Int) : ∀ k, 1 ≤ (stT cut l k).1
  | 0 => Nat.le_refl _
  | k + 1 => by
    have := st_pos cut l k
    by_cases h : cut (k + 1) = true
    · rw [st_cut _ _ _ h]; simp only; omega
    · rw [st_on _ _ _ h]; exact this
theorem st_sum (cut : Nat → Bool) (l : List Int) (hl : ∀ i, 0 ≤ l.getD i 0) : ∀ k, l.getD k 0 ≤ (stT cut l k).2.1 ∧ (stT cut l k).2.1 ≤ (stT cut l k).2.2
  | 0 => ⟨Int.le_refl _, Int.le_refl _⟩
  | k + 1 => by
    have h1 := st_sum cut l hl k
    have h2 := hl k
    have h3 := hl (k + 1)
    by_cases h : cut (k + 1) = true
    · rw [st_cut _ _ _ h]; simp only; omega
    · rw [st_on _ _ _ h]; simp only; omega
theorem st_top (cut : Nat → Bool) (l : List Int) (k : Nat) : (stT cut l k).2.2 ≤ (stT cut l (k + 1)).2.2 := by
  by_cases h : cut (k + 1) = true
  · rw [st_cut _ _ _ h]; simp only; omega
  · rw [st_on _ _ _ h]; simp only; omega
theorem st_top_le (cut : Nat → Bool) (l : List Int) {k m : Nat} (h : k ≤ m) : (stT cut l k).2.2 ≤ (stT cut l m).2.2 := by
  induction h with
  | refl => exact Int.le_refl _
  | step _ ih => exact Int.le_trans ih (st_top cut l _)
/-- The greatest sum is not below any size. -/
theorem st_each (cut : Nat → Bool) (l : List Int) (hl : ∀ i, 0 ≤ l.getD i 0) {i k : Nat} (h : i ≤ k) : l.getD i 0 ≤ (stT cut l k).2.2 := by
  have h1 := st_sum cut l hl i
  have h2 := st_top_le cut l h
  omega
/-- The greedy way: the cuts, and the last piece's sum, after the sizes up to the place k. -/
def gst (b : Int) (l : List Int) : Nat → List Nat × Int
  | 0 => ([], l.getD 0 0)
  | k + 1 => if b < (gst b l k).2 + l.getD (k + 1) 0 then ((gst b l k).1 ++ [k + 1], l.getD (k + 1) 0) else ((gst b l k).1, (gst b l k).2 + l.getD (k + 1) 0)
theorem gst_cut (b : Int) (l : List Int) (k : Nat) (h : b < (gst b l k).2 + l.getD (k + 1) 0) : gst b l (k + 1) = ((gst b l k).1 ++ [k + 1], l.getD (k + 1) 0) := by rw [gst, if_pos h]
theorem gst_on (b : Int) (l : List Int) (k : Nat) (h : ¬ b < (gst b l k).2 + l.getD (k + 1) 0) : gst b l (k + 1) = ((gst b l k).1, (gst b l k).2 + l.getD (k + 1) 0) := by rw [gst, if_neg h]
/-- Where the greedy way cuts. -/
def gcut (b : Int) (l : List Int) (i : Nat) : Bool := decide (b < (gst b l (i - 1)).2 + l.getD i 0)
/-- How many pieces it takes, of m + 1 sizes; where they end. -/
def many (b : Int) (l : List Int) (m : Nat) : Nat := (gst b l m).1.length + 1
def ends (b : Int) (l : List Int) (m : Nat) : List Nat := (gst b l m).1 ++ [m + 1]
theorem ends_len (b : Int) (l : List Int) (m : Nat) : (ends b l m).length = many b l m := by unfold ends many; rw [List.length_append]; rfl
theorem st_gst (b : Int) (l : List Int) : ∀ k, (stT (gcut b l) l k).1 = many b l k ∧ (stT (gcut b l) l k).2.1 = (gst b l k).2
  | 0 => ⟨rfl, rfl⟩
  | k + 1 => by
    obtain ⟨h1, h2⟩ := st_gst b l k
    unfold many at h1 ⊢
    by_cases h : b < (gst b l k).2 + l.getD (k + 1) 0
    · have hc : gcut b l (k + 1) = true := by unfold gcut; exact decide_eq_true h
      rw [st_cut _ _ _ hc, gst_cut _ _ _ h, List.length_append]
      exact ⟨by simp only [List.length_cons, List.length_nil]; omega, rfl⟩
    · have hc : ¬ gcut b l (k + 1) = true := by unfold gcut; rw [decide_eq_true_eq]; exact h
      rw [st_on _ _ _ hc, gst_on _ _ _ h]
      exact ⟨h1, by simp only; omega⟩
theorem gst_top (b : Int) (l : List Int) (hb : ∀ i, l.getD i 0 ≤ b) : ∀ k, (stT (gcut b l) l k).2.2 ≤ b
  | 0 => hb 0
  | k + 1 => by
    have h0 := gst_top b l hb k
    have h1 := (st_gst b l k).2
    have h2 := hb (k + 1)
    by_cases h : b < (gst b l k).2 + l.getD (k + 1) 0
    · rw [st_cut _ _ _ (by unfold gcut; exact decide_eq_true h)]; simp only; omega
    · rw [st_on _ _ _ (by unfold gcut; rw [decide_eq_true_eq]; exact h)]; simp only; omega
/-- Within the bound no other way is ahead of the greedy one. -/
theorem ahead (b : Int) (l : List Int) (hl : ∀ i, 0 ≤ l.getD i 0) (cut : Nat → Bool) : ∀ k, (stT cut l k).2.2 ≤ b → many b l k < (stT cut l k).1 ∨ (many b l k = (stT cut l k).1 ∧ (gst b l k).2 ≤ (stT cut l k).2.1)
  | 0, _ => .inr ⟨rfl, Int.le_refl _⟩
  | k + 1, ht => by
    have hs := st_sum cut l hl k
    have h0 := hl k
    have h1 := hl (k + 1)
    have ih := ahead b l hl cut k (Int.le_trans (st_top cut l k) ht)
    have hgl : many b l (k + 1) = many b l k + (if b < (gst b l k).2 + l.getD (k + 1) 0 then 1 else 0) := by
      unfold many
      by_cases h : b < (gst b l k).2 + l.getD (k + 1) 0
      · rw [gst_cut _ _ _ h, if_pos h, List.length_append]; rfl
      · rw [gst_on _ _ _ h, if_neg h]
    rw [hgl]
    by_cases hg : b < (gst b l k).2 + l.getD (k + 1) 0
    · rw [if_pos hg, gst_cut _ _ _ hg]
      by_cases hc : cut (k + 1) = true
      · rw [st_cut _ _ _ hc]; simp only; omega
      · rw [st_on _ _ _ hc] at ht ⊢; simp only at ht ⊢; omega
    · rw [if_neg hg, gst_on _ _ _ hg]
      by_cases hc : cut (k + 1) = true
      · rw [st_cut _ _ _ hc]; simp only; omega
      · rw [st_on _ _ _ hc]; simp only; omega
/-- No way has fewer pieces within the bound. -/
theorem fewest (b : Int) (l : List Int) (hl : ∀ i, 0 ≤ l.getD i 0) (cut : Nat → Bool) (m : Nat) (h : (stT cut l m).2.2 ≤ b) : many b l m ≤ (stT cut l m).1 := by
  rcases ahead b l hl cut m h with h1 | ⟨h1, _⟩ <;> omega
/-- By a greater bound no more pieces are taken. -/
theorem many_mono (l : List Int) (hl : ∀ i, 0 ≤ l.getD i 0) {a b : Int} (ha : ∀ i, l.getD i 0 ≤ a) (hab : a ≤ b) (m : Nat) : many b l m ≤ many a l m := by
  have h1 := gst_top a l ha m
  have h2 := fewest b l hl (gcut a l) m (by omega)
  rw [(st_gst a l m).1] at h2
  exact h2
/-- The least bound, not below any size, by which no more pieces are taken than by 'most'. -/
structure Least (l : List Int) (m : Nat) (most b : Int) : Prop where
  each : ∀ i, l.getD i 0 ≤ b
  le : b ≤ most
  few : many b l m ≤ many most l m
  least : ∀ c, (∀ i, l.getD i 0 ≤ c) → many c l m ≤ many most l m → b ≤ c
section
variable {l : List Int} {m : Nat} {most b : Int}
theorem Least.one {c : Int} (h : Least l m most b) (k : Least l m most c) : b = c := by
  have h1 := h.least c k.each k.few
  have h2 := k.least b h.each h.few
  omega
theorem Least.same (hl : ∀ i, 0 ≤ l.getD i 0) (h : Least l m most b) : many b l m = many most l m := Nat.le_antisymm h.few (many_mono l hl h.each h.le m)
theorem getD_out {i : Nat} (h : l.length ≤ i) : l.getD i 0 = 0 := by rw [List.getD_eq_getElem?_getD, List.getElem?_eq_none h]; rfl
/-- The greatest piece of its cut is the least bound itself. -/
theorem Least.top (hl : ∀ i, 0 ≤ l.getD i 0) (hm : l.length = m + 1) (h : Least l m most b) : (stT (gcut b l) l m).2.2 = b := by
  have h1 := gst_top b l h.each m
  have h2 : ∀ i, l.getD i 0 ≤ (stT (gcut b l) l m).2.2 := fun i => by
    rcases Nat.lt_or_ge m i with hi | hi
    · rw [getD_out (by omega)]
      have := st_each (gcut b l) l hl (Nat.le_refl m)
      have := hl m
      omega
    · exact st_each _ l hl hi
  have h3 := fewest (stT (gcut b l) l m).2.2 l hl (gcut b l) m (Int.le_refl _)
  rw [(st_gst b l m).1] at h3
  have h4 := h.least _ h2 (Nat.le_trans h3 h.few)
  omega
/-- Of all cuts within 'most' none has fewer pieces; none of as few has a smaller greatest piece. -/
theorem Least.best (hl : ∀ i, 0 ≤ l.getD i 0) (hm : l.length = m + 1) (h : Least l m most b) (cut : Nat → Bool) (hc : (stT cut l m).2.2 ≤ most) :
    many b l m ≤ (stT cut l m).1 ∧ ((stT cut l m).1 = many b l m → b ≤ (stT cut l m).2.2) := by
  have h1 := fewest most l hl cut m hc
  refine ⟨by rw [h.same hl]; exact h1, fun he => ?_⟩
  have h2 : ∀ i, l.getD i 0 ≤ (stT cut l m).2.2 := fun i => by
    rcases Nat.lt_or_ge m i with hi | hi
    · rw [getD_out (by omega)]
      have := st_each cut l hl (Nat.le_refl m)
      have := hl m
      omega
    · exact st_each _ l hl hi
  have h3 := fewest (stT cut l m).2.2 l hl cut m (Int.le_refl _)
  exact h.least _ h2 (by rw [← h.same hl]; omega)
/-- What a search by halves knows: below lo more pieces are taken, at hi not more. -/
theorem least_of {c : Int} (each : ∀ i, l.getD i 0 ≤ c) (le : c ≤ most) (few : many c l m ≤ many most l m) (more : ∀ a, (∀ i, l.getD i 0 ≤ a) → a < c → many most l m < many a l m) : Least l m most c :=
  ⟨each, le, few, fun a ha hf => by
    rcases Int.lt_or_le a c with h | h
    · have := more a ha h; omega
    · exact h⟩
end
theorem st_congr (l : List Int) {cut cut' : Nat → Bool} : ∀ k, (∀ i, 1 ≤ i → i ≤ k → cut i = cut' i) → stT cut l k = stT cut' l k
  | 0, _ => rfl
  | k + 1, h => by
    have ih := st_congr l k fun i h1 h2 => h i h1 (by omega)
    rw [stT, stT, h (k + 1) (by omega) (Nat.le_refl _), ih]
/-- Cuts told by a number's bits: the lowest one is ahead of the second size. -/
def mask (c i : Nat) : Bool := decide (c / 2 ^ (i - 1) % 2 = 1)
theorem bits_are : ∀ (k : Nat) (f : Nat → Bool), ∃ c, c < 2 ^ k ∧ ∀ i, i < k → (c / 2 ^ i % 2 = 1 ↔ f i = true)
  | 0, _ => ⟨0, by simp, fun i hi => absurd hi (by omega)⟩
  | k + 1, f => by
    obtain ⟨c, hc, h⟩ := bits_are k fun i => f (i + 1)
    rw [Nat.pow_succ]
    by_cases h0 : f 0 = true
    · refine ⟨2 * c + 1, by omega, fun i hi => ?_⟩
      cases i with
      | zero => rw [Nat.pow_zero, Nat.div_one]; constructor <;> intro _ <;> first | exact h0 | omega
      | succ i =>
        rw [Nat.pow_succ, Nat.mul_comm (2 ^ i) 2, ← Nat.div_div_eq_div_mul, show (2 * c + 1) / 2 = c by omega]
        exact h i (by omega)
    · refine ⟨2 * c, by omega, fun i hi => ?_⟩
      cases i with
      | zero => rw [Nat.pow_zero, Nat.div_one]; constructor <;> intro h' <;> first | exact absurd h' h0 | omega
      | succ i =>
        rw [Nat.pow_succ, Nat.mul_comm (2 ^ i) 2, ← Nat.div_div_eq_div_mul, show (2 * c) / 2 = c by omega]
        exact h i (by omega)
/-- Each way to cut is told by a number. -/
theorem mask_is (l : List Int) (m : Nat) (cut : Nat → Bool) : ∃ c, c < 2 ^ m ∧ stT (mask c) l m = stT cut l m := by
  obtain ⟨c, hc, h⟩ := bits_are m fun i => cut (i + 1)
  refine ⟨c, hc, st_congr l m fun i h1 h2 => ?_⟩
  have := h (i - 1) (by omega)
  rw [show i - 1 + 1 = i by omega] at this
  unfold mask
  cases e : cut i with
  | true => rw [decide_eq_true_eq]; exact this.2 e
  | false => rw [decide_eq_false_iff_not]; intro h3; rw [this.1 h3] at e; cases e
/-- What a look through all ways has found, of the first c of them. -/
structure Look (l : List Int) (m : Nat) (most : Int) (c : Nat) (few : Int) (great : Int) : Prop where
  none_ : ∀ x, x < c → (stT (mask x) l m).2.2 ≤ most → few < ((stT (mask x) l m).1 : Int) ∨ (few = ((stT (mask x) l m).1 : Int) ∧ great ≤ (stT (mask x) l m).2.2)
  some_ : (few = 99 ∧ great = 0 ∧ ∀ x, x < c → ¬ (stT (mask x) l m).2.2 ≤ most) ∨ ∃ x, x < c ∧ (stT (mask x) l m).2.2 ≤ most ∧ ((stT (mask x) l m).1 : Int) = few ∧ (stT (mask x) l m).2.2 = great
theorem Look.start (l : List Int) (m : Nat) (most : Int) : Look l m most 0 99 0 := ⟨fun x hx => absurd hx (by omega), .inl ⟨rfl, rfl, fun x hx => absurd hx (by omega)⟩⟩
theorem Look.yes {l : List Int} {m : Nat} {most : Int} {c : Nat} {few great : Int} (h : Look l m most c few great) (ht : (stT (mask c) l m).2.2 ≤ most) (hn : ((stT (mask c) l m).1 : Int) < few ∨ (((stT (mask c) l m).1 : Int) = few ∧ (stT (mask c) l m).2.2 < great)) : Look l m most (c + 1) ((stT (mask c) l m).1 : Int) (stT (mask c) l m).2.2 := by
  refine ⟨fun x hx hm => ?_, .inr ⟨c, by omega, ht, rfl, rfl⟩⟩
  by_cases e : x = c
  · subst e; exact .inr ⟨rfl, Int.le_refl _⟩
  · have := h.none_ x (by omega) hm
    omega
theorem Look.no {l : List Int} {m : Nat} {most : Int} {c : Nat} {few great : Int} (h : Look l m most c few great) (hn : ¬ ((stT (mask c) l m).2.2 ≤ most ∧ (((stT (mask c) l m).1 : Int) < few ∨ (((stT (mask c) l m).1 : Int) = few ∧ (stT (mask c) l m).2.2 < great)))) (h99 : ((stT (mask c) l m).1 : Int) < 99) : Look l m most (c + 1) few great := by
  refine ⟨fun x hx hm => ?_, ?_⟩
  · by_cases e : x = c
    · subst e; omega
    · exact h.none_ x (by omega) hm
  · rcases h.some_ with ⟨h1, h2, h3⟩ | ⟨x, h1, h2⟩
    · refine .inl ⟨h1, h2, fun x hx hm => ?_⟩
      by_cases e : x = c
      · subst e; omega
      · exact h3 x (by omega) hm
    · exact .inr ⟨x, by omega, h2⟩
theorem st_few (cut : Nat → Bool) (l : List Int) : ∀ k, (stT cut l k).1 ≤ k + 1
  | 0 => Nat.le_refl _
  | k + 1 => by
    have := st_few cut l k
    by_cases h : cut (k + 1) = true
    · rw [st_cut _ _ _ h]; simp only; omega
    · rw [st_on _ _ _ h]; simp only; omega
/-- All ways looked through: as few pieces as the greedy way takes, and the least bound. -/
theorem Look.all {l : List Int} {m : Nat} {most b : Int} {few great : Int} (hl : ∀ i, 0 ≤ l.getD i 0) (hm : l.length = m + 1) (hb : Least l m most b) (h : Look l m most (2 ^ m) few great) : few = (many b l m : Int) ∧ great = b := by
  obtain ⟨c, hc, e⟩ := mask_is l m (gcut b l)
  have ht := hb.top hl hm
  have hn := (st_gst b l m).1
  have h1 := h.none_ c hc (by rw [e, ht]; exact hb.le)
  rw [e, ht, hn] at h1
  rcases h.some_ with ⟨_, _, h3⟩ | ⟨x, hx, h2, h3, h4⟩
  · exact absurd (show (stT (mask c) l m).2.2 ≤ most by rw [e, ht]; exact hb.le) (h3 c hc)
  · obtain ⟨k1, k2⟩ := hb.best hl hm (mask x) h2
    have h5 : few = (many b l m : Int) := by omega
    exact ⟨h5, by have := k2 (by omega); omega⟩
/-- The place where the j-th piece begins. -/
def prev (o : List Nat) (j : Nat) : Nat := if j = 0 then 0 else o.getD (j - 1) 0
theorem prev_next (o : List Nat) (j : Nat) : prev o (j + 1) = o.getD j 0 := by unfold prev; rw [if_neg (by omega)]; rfl
theorem getD_left (o : List Nat) (x : Nat) {j : Nat} (h : j < o.length) : (o ++ [x]).getD j 0 = o.getD j 0 := by rw [List.getD_eq_getElem?_getD, List.getD_eq_getElem?_getD, List.getElem?_append_left h]
theorem getD_last (o : List Nat) (x : Nat) : (o ++ [x]).getD o.length 0 = x := by rw [List.getD_eq_getElem?_getD, List.getElem?_append_right (Nat.le_refl _), Nat.sub_self]; rfl
theorem prev_left (o : List Nat) (x : Nat) {j : Nat} (h : j ≤ o.length) : prev (o ++ [x]) j = prev o j := by
  cases j with
  | zero => rfl
  | succ j => rw [prev_next, prev_next, getD_left o x (by omega)]
/-- A piece that the greedy way ended: it is not empty, its sizes are not above the bound, with the next one they are. -/
structure Full (b : Int) (l : List Int) (o : List Nat) (k j : Nat) : Prop where
  rise : prev o j < o.getD j 0
  inside : o.getD j 0 ≤ k
  sum : seg l (prev o j) (o.getD j 0) ≤ b
  more : b < seg l (prev o j) (o.getD j 0) + l.getD (o.getD j 0) 0
theorem gst_pieces (b : Int) (l : List Int) (hb : ∀ i, l.getD i 0 ≤ b) : ∀ k, (∀ j, j < (gst b l k).1.length → Full b l (gst b l k).1 k j) ∧ prev (gst b l k).1 (gst b l k).1.length ≤ k ∧ (gst b l k).2 = seg l (prev (gst b l k).1 (gst b l k).1.length) (k + 1) ∧ (gst b l k).2 ≤ b
  | 0 => ⟨fun j hj => absurd hj (by simp [gst]), Nat.le_refl _, by show l.getD 0 0 = seg l 0 1; rw [seg_next l (Nat.le_refl 0), seg_none]; omega, hb 0⟩
  | k + 1 => by
    obtain ⟨h1, h2, h3, h4⟩ := gst_pieces b l hb k
    by_cases h : b < (gst b l k).2 + l.getD (k + 1) 0
    · rw [gst_cut _ _ _ h]
      simp only [List.length_append, List.length_cons, List.length_nil, Nat.zero_add]
      have e : prev ((gst b l k).1 ++ [k + 1]) ((gst b l k).1.length + 1) = k + 1 := by rw [prev_next, getD_last]
      refine ⟨fun j hj => ?_, by rw [e]; exact Nat.le_refl _, by rw [e, seg_next l (Nat.le_refl _), seg_none]; omega, hb (k + 1)⟩
      by_cases hjl : j < (gst b l k).1.length
      · have f := h1 j hjl
        constructor
        · rw [prev_left _ _ (by omega), getD_left _ _ hjl]; exact f.rise
        · rw [getD_left _ _ hjl]; have := f.inside; omega
        · rw [prev_left _ _ (by omega), getD_left _ _ hjl]; exact f.sum
        · rw [prev_left _ _ (by omega), getD_left _ _ hjl]; exact f.more
      · obtain rfl : j = (gst b l k).1.length := by omega
        constructor
        · rw [prev_left _ _ (Nat.le_refl _), getD_last]; omega
        · rw [getD_last]; exact Nat.le_refl _
        · rw [prev_left _ _ (Nat.le_refl _), getD_last, ← h3]; exact h4
        · rw [prev_left _ _ (Nat.le_refl _), getD_last, ← h3]; exact h
    · rw [gst_on _ _ _ h]
      refine ⟨fun j hj => ?_, by simp only; omega, by simp only; rw [seg_next l (by omega), ← h3], by simp only; omega⟩
      have f := h1 j hj
      exact ⟨f.rise, Nat.le_succ_of_le f.inside, f.sum, f.more⟩
theorem mem_gst (b : Int) (l : List Int) : ∀ k i, i ∈ (gst b l k).1 ↔ (1 ≤ i ∧ i ≤ k ∧ gcut b l i = true)
  | 0, i => ⟨fun h => (by cases h), fun h => absurd h.2.1 (by omega)⟩
  | k + 1, i => by
    have ih := mem_gst b l k i
    by_cases h : b < (gst b l k).2 + l.getD (k + 1) 0
    · have hc : gcut b l (k + 1) = true := by unfold gcut; exact decide_eq_true h
      rw [gst_cut _ _ _ h]
      simp only [List.mem_append, List.mem_singleton]
      rw [ih]
      constructor
      · rintro (⟨h1, h2, h3⟩ | rfl)
        · exact ⟨h1, by omega, h3⟩
        · exact ⟨by omega, Nat.le_refl _, hc⟩
      · rintro ⟨h1, h2, h3⟩
        by_cases e : i = k + 1
        · exact .inr e
        · exact .inl ⟨h1, by omega, h3⟩
    · have hc : ¬ gcut b l (k + 1) = true := by unfold gcut; rw [decide_eq_true_eq]; exact h
      rw [gst_on _ _ _ h, ih]
      constructor
      · rintro ⟨h1, h2, h3⟩; exact ⟨h1, by omega, h3⟩
      · rintro ⟨h1, h2, h3⟩
        by_cases e : i = k + 1
        · subst e; exact absurd h3 hc
        · exact ⟨h1, by omega, h3⟩
/-- The greatest piece of a row of ends. -/
def topOf (l : List Int) (es : List Nat) (m : Nat) : Int := (stT (fun i => decide (i ∈ es)) l m).2.2
theorem ends_top (b : Int) (l : List Int) (m : Nat) : topOf l (ends b l m) m = (stT (gcut b l) l m).2.2 := by
  unfold topOf
  rw [st_congr l m fun i h1 h2 => ?_]
  show decide (i ∈ (gst b l m).1 ++ [m + 1]) = gcut b l i
  have h := mem_gst b l m i
  cases e : gcut b l i with
  | true => rw [decide_eq_true_eq, List.mem_append]; exact .inl (h.2 ⟨h1, h2, e⟩)
  | false =>
    rw [decide_eq_false_iff_not, List.mem_append, h, e, List.mem_singleton]
    rintro (⟨_, _, h3⟩ | h3)
    · cases h3
    · omega
theorem Least.topOf {l : List Int} {m : Nat} {most b : Int} (hl : ∀ i, 0 ≤ l.getD i 0) (hm : l.length = m + 1) (h : Least l m most b) : topOf l (ends b l m) m = b := (ends_top b l m).trans (h.top hl hm)
/-- All pieces of the greedy way, the last one too: behind the last nothing stands. -/
theorem ends_pieces (b : Int) (l : List Int) (hb : ∀ i, l.getD i 0 ≤ b) (m : Nat) (j : Nat) (hj : j < (ends b l m).length) : prev (ends b l m) j < (ends b l m).getD j 0 ∧ (ends b l m).getD j 0 ≤ m + 1 ∧ seg l (prev (ends b l m) j) ((ends b l m).getD j 0) ≤ b ∧
    ((ends b l m).getD j 0 ≤ m → b < seg l (prev (ends b l m) j) ((ends b l m).getD j 0) + l.getD ((ends b l m).getD j 0) 0) ∧ (j + 1 = (ends b l m).length → (ends b l m).getD j 0 = m + 1) := by
  obtain ⟨h1, h2, h3, h4⟩ := gst_pieces b l hb m
  rw [ends_len] at hj ⊢
  unfold many at hj ⊢
  unfold ends
  by_cases hjl : j < (gst b l m).1.length
  · have f := h1 j hjl
    rw [prev_left _ _ (by omega), getD_left _ _ hjl]
    have := f.inside
    exact ⟨f.rise, by omega, f.sum, fun _ => f.more, fun e => by omega⟩
  · obtain rfl : j = (gst b l m).1.length := by omega
    rw [prev_left _ _ (Nat.le_refl _), getD_last]
    exact ⟨by omega, Nat.le_refl _, by rw [← h3]; exact h4, fun e => by omega, fun _ => rfl⟩
end Part
end Go.Proofs.Ytejcpfplmlpilaa

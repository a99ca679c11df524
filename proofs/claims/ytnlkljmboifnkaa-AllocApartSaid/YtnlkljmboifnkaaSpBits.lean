/- Plain mathematics: 64 bits as the set of the numbers below 64 that spans have; how many they are. No program, no conditions but those that stand in each lemma. -/
import Derived.Test.YtnlkljmboifnkaaSpBackNums
namespace Go.Proofs.Ytnlkljmboifnkaa
namespace Spans
/-- The bits of those below n that p takes. -/
def bitsV (p : Nat → Bool) : Nat → BitVec 64
  | 0 => 0#64
  | k + 1 => if p k then bitsV p k ||| (1#64 <<< k) else bitsV p k
theorem shl_bit (k i : Nat) (hi : i < 64) : (1#64 <<< k).getLsbD i = decide (i = k) := by
  rw [BitVec.getLsbD_shiftLeft]
  by_cases h : i = k
  · subst h
    simp [hi]
  · by_cases h2 : i < k
    · simp [h2, h]
    · have : i - k ≠ 0 := by omega
      simp [hi, h, BitVec.getLsbD_one, this]
theorem bitsV_get (p : Nat → Bool) : ∀ (n i : Nat), i < 64 → (bitsV p n).getLsbD i = (decide (i < n) && p i)
  | 0, i, _ => by simp [bitsV]
  | n + 1, i, hi => by
    have ih := bitsV_get p n i hi
    rw [bitsV]
    by_cases hp : p n = true
    · rw [if_pos hp, BitVec.getLsbD_or, ih, shl_bit n i hi]
      by_cases h : i = n
      · subst h
        simp [hp]
      · have : decide (i < n + 1) = decide (i < n) := by rw [decide_eq_decide]; omega
        rw [this]; simp [h]
    · rw [if_neg hp, ih]
      by_cases h : i = n
      · subst h
        simp at hp
        simp [hp]
      · have : decide (i < n + 1) = decide (i < n) := by rw [decide_eq_decide]; omega
        rw [this]
/-- The bits from a on, j of them. -/
def spanV (a : Nat) : Nat → BitVec 64
  | 0 => 0#64
  | j + 1 => spanV a j ||| (1#64 <<< (a + j))
theorem spanV_get (a : Nat) : ∀ (j i : Nat), i < 64 → (spanV a j).getLsbD i = (decide (a ≤ i) && decide (i < a + j))
  | 0, i, _ => by
    rw [spanV, Bool.eq_iff_iff]
    simp
  | j + 1, i, hi => by
    rw [spanV, BitVec.getLsbD_or, spanV_get a j i hi, shl_bit _ i hi, Bool.eq_iff_iff]
    simp
    omega
/-- The word tells the set. -/
def Tells (l : List P) (W : BitVec 64) : Prop := VL l ∧ (∀ x ∈ l, x.2 ≤ 64) ∧ ∀ k : Nat, k < 64 → (In l (k : Int) ↔ W.getLsbD k = true)
theorem Tells.nil : Tells [] 0#64 := ⟨VL.nil, fun _ h => (by cases h), fun k _ => by simp [In.nil]⟩
theorem in_low {l : List P} (h : ∀ x ∈ l, x.2 ≤ 64) {n : Int} (hn : In l n) : n < 64 := by
  obtain ⟨x, hx, h1⟩ := hn
  have := h x hx
  unfold has1 at h1
  omega
theorem low_of {l : List P} (hv : VL l) (h : ∀ n, In l n → n < 64) : ∀ x ∈ l, x.2 ≤ 64 := fun x hx => by
  have hr := hv.1 x hx
  unfold R at hr
  have := h (x.2 - 1) ⟨x, hx, by unfold has1; omega⟩
  omega
theorem has_nat (a b k : Nat) : has1 ((a : Int), (b : Int)) (k : Int) ↔ a ≤ k ∧ k < b := by unfold has1; simp only; omega
theorem R_nat {a j : Nat} (hj : 0 < j) (h : a + j ≤ 64) : R ((a : Int), ((a + j : Nat) : Int)) := by unfold R; simp only; omega
theorem Tells.add {l : List P} {W : BitVec 64} (h : Tells l W) {a j : Nat} (hj : 0 < j) (haj : a + j ≤ 64) : Tells (addL l ((a : Int), ((a + j : Nat) : Int))) (W ||| spanV a j) := by
  have hs := R_nat hj haj
  refine ⟨addL_valid h.1 hs, low_of (addL_valid h.1 hs) fun n hn => ?_, fun k hk => ?_⟩
  · rcases (addL_in h.1 hs n).1 hn with hn | hn
    · exact in_low h.2.1 hn
    · unfold has1 at hn; simp only at hn; omega
  · rw [addL_in h.1 hs, h.2.2 k hk, has_nat, BitVec.getLsbD_or, spanV_get a j k hk]
    simp
theorem Tells.remove {l : List P} {W : BitVec 64} (h : Tells l W) {a j : Nat} (hj : 0 < j) (haj : a + j ≤ 64) : Tells (remL l ((a : Int), ((a + j : Nat) : Int))) (W &&& ~~~(spanV a j)) := by
  have hs := R_nat hj haj
  refine ⟨remL_valid h.1 hs, low_of (remL_valid h.1 hs) fun n hn => in_low h.2.1 ((remL_in h.1 hs n).1 hn).1, fun k hk => ?_⟩
  rw [remL_in h.1 hs, h.2.2 k hk, has_nat, BitVec.getLsbD_and, BitVec.getLsbD_not, spanV_get a j k hk]
  simp [hk]
  intro _
  omega
/-- What the law's set tells. -/
def oneAt (l : List P) (k : Nat) : Bool := hasB l ((k : Int), (k : Int) + 1)
theorem Tells.set {l : List P} {W : BitVec 64} (h : Tells l W) : bitsV (oneAt l) 64 = W := by
  apply BitVec.eq_of_getLsbD_eq
  intro i hi
  have hi' : i < 64 := hi
  rw [bitsV_get _ 64 i hi', Bool.eq_iff_iff]
  have e := hasB_one h.1 (i : Int) (by omega) (by unfold top; omega)
  have e2 := h.2.2 i hi'
  simp only [Bool.and_eq_true, decide_eq_true_eq, hi', true_and]
  exact e.trans e2
theorem Tells.meets {l : List P} {W : BitVec 64} (h : Tells l W) {a j : Nat} (hj : 0 < j) (haj : a + j ≤ 64) : meetsB l ((a : Int), ((a + j : Nat) : Int)) = !decide (W &&& spanV a j = 0#64) := by
  have hs := R_nat hj haj
  rw [Bool.eq_iff_iff, meetsB_iff h.1 hs]
  simp only [Bool.not_eq_true', decide_eq_false_iff_not]
  constructor
  · rintro ⟨n, h1, h2⟩ e
    have h3 := h2
    unfold has1 at h3
    simp only at h3
    obtain ⟨k, rfl⟩ := Int.eq_ofNat_of_zero_le (show 0 ≤ n by omega)
    have hk : k < 64 := by omega
    have h4 := (h.2.2 k hk).1 h1
    have h5 : (W &&& spanV a j).getLsbD k = true := by
      rw [BitVec.getLsbD_and, h4, spanV_get a j k hk]
      simp
      omega
    rw [e] at h5
    simp at h5
  · intro e
    have h6 : ∃ i, i < 64 ∧ (W &&& spanV a j).getLsbD i = true := by
      rcases Classical.em (∃ i, i < 64 ∧ (W &&& spanV a j).getLsbD i = true) with h7 | h7
      · exact h7
      · refine absurd ?_ e
        apply BitVec.eq_of_getLsbD_eq
        intro i hi
        cases hb : (W &&& spanV a j).getLsbD i with
        | false => simp
        | true => exact absurd ⟨i, hi, hb⟩ h7
    obtain ⟨i, hi, hb⟩ := h6
    rw [BitVec.getLsbD_and, Bool.and_eq_true, spanV_get a j i hi] at hb
    refine ⟨(i : Int), (h.2.2 i hi).2 hb.1, (has_nat a (a + j) i).2 ?_⟩
    simpa using hb.2
/-- How many bits there are below n. -/
def cntV (W : BitVec 64) : Nat → Int
  | 0 => 0
  | k + 1 => cntV W k + if W.getLsbD k then 1 else 0
def cnt (p : Nat → Bool) : Nat → Int
  | 0 => 0
  | k + 1 => cnt p k + if p k then 1 else 0
theorem cntV_bounds (W : BitVec 64) : ∀ k : Nat, 0 ≤ cntV W k ∧ cntV W k ≤ (k : Int)
  | 0 => by simp [cntV]
  | k + 1 => by
    have := cntV_bounds W k
    rw [cntV]
    split <;> omega
theorem cnt_congr {p q : Nat → Bool} : ∀ (n : Nat), (∀ k, k < n → p k = q k) → cnt p n = cnt q n
  | 0, _ => rfl
  | n + 1, h => by rw [cnt, cnt, cnt_congr n (fun k hk => h k (by omega)), h n (by omega)]
theorem cntV_cnt (W : BitVec 64) : ∀ n, cntV W n = cnt (fun k => W.getLsbD k) n
  | 0 => rfl
  | n + 1 => by rw [cntV, cnt, cntV_cnt W n]
theorem cnt_or {p q : Nat → Bool} : ∀ (n : Nat), (∀ k, k < n → ¬ (p k = true ∧ q k = true)) → cnt (fun k => p k || q k) n = cnt p n + cnt q n
  | 0, _ => rfl
  | n + 1, h => by
    have h1 := h n (by omega)
    rw [cnt, cnt, cnt, cnt_or n fun k hk => h k (by omega)]
    cases hp : p n <;> cases hq : q n <;> simp_all <;> omega
theorem cnt_span (a b : Int) (h0 : 0 ≤ a) (hab : a ≤ b) : ∀ n : Nat, cnt (fun k => decide (a ≤ (k : Int)) && decide ((k : Int) < b)) n = max 0 (min b (n : Int) - a)
  | 0 => by simp only [cnt]; omega
  | n + 1 => by
    rw [cnt, cnt_span a b h0 hab n]
    by_cases h1 : a ≤ (n : Int) <;> by_cases h2 : (n : Int) < b <;> simp [h1, h2] <;> omega
def inB (l : List P) (k : Nat) : Bool := l.any fun x => decide (x.1 ≤ (k : Int)) && decide ((k : Int) < x.2)
theorem inB_iff (l : List P) (k : Nat) : inB l k = true ↔ In l (k : Int) := by
  unfold inB In has1
  simp
theorem sum_cnt : ∀ (l : List P), VL l → (∀ x ∈ l, x.2 ≤ 64) → sum l = cnt (inB l) 64
  | [], _, _ => by
    have : ∀ n, cnt (inB []) n = 0 := fun n => by
      induction n with
      | zero => rfl
      | succ n ih => rw [cnt, ih]; rfl
    rw [this]; rfl
  | x :: l, hv, h => by
    obtain ⟨hx, hall, hv'⟩ := VL.cons.1 hv
    have ih := sum_cnt l hv' fun y hy => h y (by simp [hy])
    have hx2 := h x (by simp)
    unfold R at hx
    rw [sum_cons, ih]
    have e : cnt (inB (x :: l)) 64 = cnt (fun k => (decide (x.1 ≤ (k : Int)) && decide ((k : Int) < x.2)) || inB l k) 64 := cnt_congr 64 fun k _ => by simp [inB]
    rw [e, cnt_or 64 (fun k _ => by
      rintro ⟨h1, h2⟩
      obtain ⟨y, hy, h3⟩ := (inB_iff l k).1 h2
      have := hall y hy
      unfold has1 at h3
      simp at h1
      omega), cnt_span x.1 x.2 (by omega) (by omega) 64]
    omega
theorem Tells.total {l : List P} {W : BitVec 64} (h : Tells l W) : totalL l = cntV W 64 := by
  unfold totalL
  rw [if_pos ((validB_iff l).2 h.1), sum_cnt l h.1 h.2.1, cntV_cnt]
  refine cnt_congr 64 fun k hk => ?_
  rw [Bool.eq_iff_iff, inB_iff]
  exact h.2.2 k hk
theorem len_le_sum : ∀ (l : List P), (∀ x ∈ l, R x) → (l.length : Int) ≤ sum l
  | [], _ => by simp [sum]
  | x :: l, h => by
    have := len_le_sum l fun y hy => h y (by simp [hy])
    have hx := h x (by simp)
    unfold R at hx
    rw [sum_cons, List.length_cons]
    omega
theorem Tells.len {l : List P} {W : BitVec 64} (h : Tells l W) : l.length ≤ 64 := by
  have h1 := len_le_sum l h.1.1
  have h2 := h.total
  unfold totalL at h2
  rw [if_pos ((validB_iff l).2 h.1)] at h2
  have := (cntV_bounds W 64).2
  omega
end Spans
end Go.Proofs.Ytnlkljmboifnkaa

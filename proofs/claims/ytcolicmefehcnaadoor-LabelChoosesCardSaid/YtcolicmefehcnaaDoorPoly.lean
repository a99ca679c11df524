/- The plain mathematics of the sum CRC-32C over words of 32 bits: one step of one bit is linear and loses nothing; a row of bytes is folded by eight steps a byte; products modulo the polynomial; a turned bit. No conditions but those that stand in each lemma. -/
namespace Go.Proofs.YtcolicmefehcnaaDoor

/-- A word of the sum. -/
abbrev Wd := BitVec 32
/-- What a bit that is pushed out leaves. -/
def polyW : Wd := 2197175160#32
/-- One bit is pushed out. -/
def stepW (s : Wd) : Wd := (s >>> 1) ^^^ (if s.getLsbD 0 then polyW else 0#32)
/-- n bits are pushed out. -/
def stepsW : Nat → Wd → Wd
  | 0, s => s
  | n + 1, s => stepsW n (stepW s)

theorem xorW_right (a b c : Wd) : (a ^^^ b) ^^^ c = (a ^^^ c) ^^^ b := by rw [BitVec.xor_assoc, BitVec.xor_comm b, BitVec.xor_assoc]
theorem xorW_four (a b c d : Wd) : (a ^^^ b) ^^^ (c ^^^ d) = (a ^^^ c) ^^^ (b ^^^ d) := by rw [← BitVec.xor_assoc, xorW_right a b c, BitVec.xor_assoc (a ^^^ c)]
theorem stepW_xor (a b : Wd) : stepW (a ^^^ b) = stepW a ^^^ stepW b := by
  unfold stepW
  rw [BitVec.getLsbD_xor, BitVec.ushiftRight_xor_distrib]
  generalize a >>> 1 = x
  generalize b >>> 1 = y
  cases a.getLsbD 0 <;> cases b.getLsbD 0
  · simp only [Bool.bne_false, Bool.false_eq_true, if_false, BitVec.xor_zero]
  · simp only [Bool.bne_true, Bool.not_false, if_true, Bool.false_eq_true, if_false, BitVec.xor_zero]; exact BitVec.xor_assoc ..
  · simp only [Bool.bne_false, if_true, Bool.false_eq_true, if_false, BitVec.xor_zero]; exact xorW_right ..
  · simp only [Bool.bne_true, Bool.not_true, if_true, Bool.false_eq_true, if_false, BitVec.xor_zero]; rw [xorW_four, BitVec.xor_self, BitVec.xor_zero]
theorem stepW_zero : stepW 0#32 = 0#32 := by decide
theorem stepW_eq_zero {s : Wd} (h : stepW s = 0#32) : s = 0#32 := by
  unfold stepW at h
  have hp : polyW.getLsbD 31 = true := by decide
  have hs : (s >>> 1).getLsbD 31 = false := by simp
  cases h0 : s.getLsbD 0 with
  | true =>
    rw [h0] at h
    have h31 := congrArg (fun x : Wd => x.getLsbD 31) h
    simp only [if_true, BitVec.getLsbD_xor, hs, hp] at h31
    cases h31
  | false =>
    rw [h0] at h
    simp only [Bool.false_eq_true, if_false, BitVec.xor_zero] at h
    apply BitVec.eq_of_getLsbD_eq
    intro i hi
    rcases Nat.eq_zero_or_pos i with rfl | hp
    · simpa using h0
    · have := congrArg (fun x : Wd => x.getLsbD (i - 1)) h
      simp only [BitVec.getLsbD_ushiftRight] at this
      rw [show 1 + (i - 1) = i by omega] at this
      simpa using this

theorem stepsW_xor (n : Nat) : ∀ a b : Wd, stepsW n (a ^^^ b) = stepsW n a ^^^ stepsW n b := by
  induction n with
  | zero => intro a b; rfl
  | succ n ih => intro a b; unfold stepsW; rw [stepW_xor, ih]
theorem stepsW_zero (n : Nat) : stepsW n 0#32 = 0#32 := by
  induction n with
  | zero => rfl
  | succ n ih => unfold stepsW; rw [stepW_zero, ih]
theorem stepsW_add (m : Nat) : ∀ (n : Nat) (s : Wd), stepsW (m + n) s = stepsW n (stepsW m s) := by
  induction m with
  | zero => intro n s; rw [Nat.zero_add]; rfl
  | succ m ih => intro n s; rw [Nat.add_right_comm]; show stepsW (m + n) (stepW s) = stepsW n (stepsW m (stepW s)); exact ih n _
theorem stepsW_comm (m n : Nat) (s : Wd) : stepsW m (stepsW n s) = stepsW n (stepsW m s) := by rw [← stepsW_add, ← stepsW_add, Nat.add_comm]
theorem stepsW_succ (n : Nat) (s : Wd) : stepsW (n + 1) s = stepW (stepsW n s) := stepsW_add n 1 s
theorem stepsW_eq_zero (n : Nat) : ∀ {s : Wd}, stepsW n s = 0#32 → s = 0#32 := by
  induction n with
  | zero => intro s h; exact h
  | succ n ih => intro s h; exact stepW_eq_zero (ih h)

/-- Four bits at once, by the table of half bytes. -/
theorem stepW_even {s : Wd} (h : s.getLsbD 0 = false) : stepW s = s >>> 1 := by unfold stepW; rw [h]; simp
theorem halfW_hi (s : Wd) : stepsW 4 ((s >>> 4) <<< 4) = s >>> 4 := by
  have h : ∀ k, k < 4 → (((s >>> 4) <<< 4) >>> k).getLsbD 0 = false := by
    intro k hk
    simp only [BitVec.getLsbD_ushiftRight, BitVec.getLsbD_shiftLeft]
    simp; omega
  have e : ∀ k : Nat, ((((s >>> 4) <<< 4) >>> k) >>> 1 : Wd) = ((s >>> 4) <<< 4) >>> (k + 1) := fun k => by rw [BitVec.shiftRight_add]
  show stepW (stepW (stepW (stepW _))) = _
  have e0 : ((s >>> 4) <<< 4 : Wd) = ((s >>> 4) <<< 4) >>> 0 := by simp
  rw [e0, stepW_even (h 0 (by omega)), e, stepW_even (h 1 (by omega)), e, stepW_even (h 2 (by omega)), e, stepW_even (h 3 (by omega)), e]
  apply BitVec.eq_of_getLsbD_eq
  intro i hi
  simp only [BitVec.getLsbD_ushiftRight, BitVec.getLsbD_shiftLeft]
  by_cases h' : 4 + i < 32
  · have e5 : 0 + 1 + 1 + 1 + 1 + i < 32 := by omega
    have e6 : ¬ 0 + 1 + 1 + 1 + 1 + i < 4 := by omega
    simp [e5, e6]
  · have e4 : s.getLsbD (4 + i) = false := BitVec.getLsbD_of_ge _ _ (by omega)
    have e5 : ¬ 0 + 1 + 1 + 1 + 1 + i < 32 := by omega
    simp [e4, e5]
/-- The program's table. -/
def tabW : Nat → Int
  | 0 => 0 | 1 => 274646895 | 2 => 549293790 | 3 => 820201905 | 4 => 1098587580 | 5 => 1361435347 | 6 => 1640403810 | 7 => 1905808397
  | 8 => 2197175160 | 9 => 2460548119 | 10 => 2722870694 | 11 => 2987750089 | 12 => 3280807620 | 13 => 3553878443 | 14 => 3811616794 | 15 => 4084100981
  | _ => 0
theorem tabW_steps : ∀ k : Fin 16, stepsW 4 (BitVec.ofNat 32 k.val) = BitVec.ofInt 32 (tabW k.val) := by decide +kernel
theorem halfW_split (s : Wd) : s = ((s >>> 4) <<< 4) ^^^ (s &&& 15#32) := by
  apply BitVec.eq_of_getLsbD_eq
  intro i hi
  have h15 : (15#32 : Wd).getLsbD i = decide (i < 4) := by
    have : ∀ j : Fin 32, (15#32 : Wd).getLsbD j.val = decide (j.val < 4) := by decide
    exact this ⟨i, hi⟩
  simp only [BitVec.getLsbD_xor, BitVec.getLsbD_and, BitVec.getLsbD_shiftLeft, BitVec.getLsbD_ushiftRight, h15]
  by_cases h : i < 4
  · simp [h]
  · have : 4 + (i - 4) = i := by omega
    simp [h, this, hi]
theorem halfW (s : Wd) : (s >>> 4) ^^^ BitVec.ofInt 32 (tabW (s &&& 15#32).toNat) = stepsW 4 s := by
  have hlt : (s &&& 15#32).toNat < 16 := by
    rw [BitVec.toNat_and]
    exact Nat.lt_succ_of_le (Nat.and_le_right (m := 15))
  have ht := tabW_steps ⟨_, hlt⟩
  simp only [BitVec.ofNat_toNat, BitVec.setWidth_eq] at ht
  conv => rhs; rw [halfW_split s, stepsW_xor, halfW_hi]
  rw [← ht]

/-- A row of bytes. -/
def foldW (s : Wd) : List Int → Wd
  | [] => s
  | x :: xs => foldW (stepsW 8 (s ^^^ BitVec.ofInt 32 x)) xs
theorem foldW_append (xs ys : List Int) : ∀ s : Wd, foldW s (xs ++ ys) = foldW (foldW s xs) ys := by
  induction xs with
  | nil => intro s; rfl
  | cons x xs ih => intro s; exact ih _
theorem foldW_xor (xs : List Int) : ∀ s d : Wd, foldW (s ^^^ d) xs = foldW s xs ^^^ stepsW (8 * xs.length) d := by
  induction xs with
  | nil => intro s d; rfl
  | cons x xs ih =>
    intro s d
    show foldW (stepsW 8 ((s ^^^ d) ^^^ _)) xs = foldW (stepsW 8 (s ^^^ _)) xs ^^^ _
    rw [show (s ^^^ d) ^^^ BitVec.ofInt 32 x = (s ^^^ BitVec.ofInt 32 x) ^^^ d by rw [BitVec.xor_assoc, BitVec.xor_comm d, BitVec.xor_assoc], stepsW_xor, ih, ← stepsW_add, List.length_cons, show 8 + 8 * xs.length = 8 * (xs.length + 1) by omega]
/-- What Go tells. -/
def goW (s : Wd) (xs : List Int) : Wd := ~~~(foldW (~~~s) xs)
theorem goW_parts (s : Wd) (xs ys : List Int) : goW (goW s xs) ys = goW s (xs ++ ys) := by unfold goW; rw [BitVec.not_not, foldW_append]
theorem notW (s : Wd) : ~~~s = s ^^^ BitVec.allOnes 32 := (BitVec.xor_allOnes).symm
/-- The sum of both, by both sums. -/
theorem goW_join (xs ys : List Int) : stepsW (8 * ys.length) (goW 0#32 xs) ^^^ goW 0#32 ys = goW 0#32 (xs ++ ys) := by
  rw [← goW_parts]
  generalize goW 0#32 xs = a
  unfold goW
  rw [notW (foldW (~~~(0#32 : Wd)) ys), notW (foldW (~~~a) ys), show ~~~a = ~~~(0#32 : Wd) ^^^ a by rw [notW a, notW 0#32, BitVec.xor_comm (0#32 ^^^ _), BitVec.zero_xor], foldW_xor]
  rw [BitVec.xor_comm, xorW_right]

/-- The first i rounds of a product. -/
def prodW (p q : Wd) : Nat → Wd
  | 0 => 0#32
  | i + 1 => prodW p q i ^^^ (if p.getLsbD (31 - i) then stepsW i q else 0#32)
theorem prodW_steps (p q : Wd) (n : Nat) : ∀ i : Nat, prodW p (stepsW n q) i = stepsW n (prodW p q i) := by
  intro i
  induction i with
  | zero => exact (stepsW_zero n).symm
  | succ i ih =>
    unfold prodW
    rw [ih, stepsW_xor]
    congr 1
    split
    · exact stepsW_comm i n q
    · exact (stepsW_zero n).symm
/-- The polynomial 1. -/
def oneW : Wd := 2147483648#32
theorem oneW_steps : ∀ i : Fin 32, stepsW i.val oneW = BitVec.twoPow 32 (31 - i.val) := by decide +kernel
theorem prodW_one_bits (p : Wd) : ∀ i : Nat, i ≤ 32 → ∀ k : Nat, k < 32 → (prodW p oneW i).getLsbD k = (p.getLsbD k && decide (32 - i ≤ k)) := by
  intro i
  induction i with
  | zero =>
    intro _ k hk
    have : ¬ 32 ≤ k := by omega
    simp [prodW, this]
  | succ i ih =>
    intro hi k hk
    have h1 := oneW_steps ⟨i, by omega⟩
    simp only at h1
    unfold prodW
    rw [BitVec.getLsbD_xor, ih (by omega) k hk, h1]
    by_cases hp : p.getLsbD (31 - i) = true
    · rw [if_pos hp, BitVec.getLsbD_twoPow]
      by_cases hki : k = 31 - i
      · subst hki
        have e1 : ¬ 32 - i ≤ 31 - i := by omega
        simp [hp, e1]; omega
      · have e1 : (31 - i = k) = False := by simp; omega
        have e2 : decide (32 - (i + 1) ≤ k) = decide (32 - i ≤ k) := by rw [decide_eq_decide]; omega
        rw [e2]
        simp [e1]
    · rw [if_neg hp]
      by_cases hki : k = 31 - i
      · subst hki
        simp at hp
        simp [hp]
      · have e2 : decide (32 - (i + 1) ≤ k) = decide (32 - i ≤ k) := by rw [decide_eq_decide]; omega
        rw [e2]
        simp
theorem prodW_one (p : Wd) : prodW p oneW 32 = p := by
  apply BitVec.eq_of_getLsbD_eq
  intro k hk
  rw [prodW_one_bits p 32 (Nat.le_refl _) k hk]
  simp
/-- A product by a power of x. -/
theorem prodW_pow (p : Wd) (n : Nat) : prodW p (stepsW n oneW) 32 = stepsW n p := by rw [prodW_steps, prodW_one]
theorem byteW : stepsW 8 oneW = 8388608#32 := by decide +kernel

/-- A bit of the row is turned. -/
def flipW (xs : List Int) (t : Nat) (y : Int) : List Int := xs.set (t / 8) y
theorem bitW_out : ∀ i : Fin 32, stepsW i.val (BitVec.twoPow 32 i.val) = 1#32 := by decide +kernel
theorem bitW_more (i n : Nat) (hi : i < 32) (h : i ≤ n) : stepsW (n - i) 1#32 = stepsW n (BitVec.twoPow 32 i) := by
  have h1 := bitW_out ⟨i, hi⟩
  simp only at h1
  rw [← h1, ← stepsW_add, show i + (n - i) = n by omega]
theorem foldW_set (xs : List Int) : ∀ (s : Wd) (k : Nat) (y : Int) (d : Wd), k < xs.length → BitVec.ofInt 32 y = BitVec.ofInt 32 (xs.getD k 0) ^^^ d → foldW s (xs.set k y) = foldW s xs ^^^ stepsW (8 * (xs.length - k)) d := by
  induction xs with
  | nil => intro s k y d hk; exact absurd hk (by simp)
  | cons x xs ih =>
    intro s k y d hk hy
    cases k with
    | zero =>
      show foldW (stepsW 8 (s ^^^ BitVec.ofInt 32 y)) xs = foldW (stepsW 8 (s ^^^ BitVec.ofInt 32 x)) xs ^^^ _
      have hy' : BitVec.ofInt 32 y = BitVec.ofInt 32 x ^^^ d := hy
      rw [hy', ← BitVec.xor_assoc, stepsW_xor, foldW_xor, ← stepsW_add, List.length_cons, show 8 + 8 * xs.length = 8 * (xs.length + 1 - 0) by omega]
    | succ k =>
      show foldW (stepsW 8 (s ^^^ BitVec.ofInt 32 x)) (xs.set k y) = foldW (stepsW 8 (s ^^^ BitVec.ofInt 32 x)) xs ^^^ _
      rw [ih _ k y d (by simpa using hk) hy, List.length_cons, show xs.length + 1 - (k + 1) = xs.length - k by omega]
/-- The bits of a word below i. -/
def lowW (b : Wd) : Nat → Wd
  | 0 => 0#32
  | i + 1 => lowW b i ^^^ (if b.getLsbD i then BitVec.twoPow 32 i else 0#32)
theorem lowW_bits (b : Wd) : ∀ i : Nat, ∀ k : Nat, k < 32 → (lowW b i).getLsbD k = (b.getLsbD k && decide (k < i)) := by
  intro i
  induction i with
  | zero => intro k _; simp [lowW]
  | succ i ih =>
    intro k hk
    unfold lowW
    rw [BitVec.getLsbD_xor, ih k hk]
    by_cases hki : k = i
    · subst hki
      by_cases hb : b.getLsbD k = true
      · rw [if_pos hb, BitVec.getLsbD_twoPow]; simp [hb, hk]
      · rw [if_neg hb]; simp at hb; simp [hb]
    · have e : decide (k < i + 1) = decide (k < i) := by simp; omega
      rw [e]
      split
      · rw [BitVec.getLsbD_twoPow]
        have : ¬ i = k := fun h => hki h.symm
        simp [this]
      · simp
theorem lowW_all (b : Wd) : lowW b 32 = b := by
  apply BitVec.eq_of_getLsbD_eq
  intro k hk
  rw [lowW_bits b 32 k hk]
  simp [hk]
/-- What a round that turns a bit does to the fold. -/
theorem foldW_round (xs ys : List Int) (s b : Wd) (a i : Nat) (y : Int) (hl : ys.length = xs.length) (ha : a + 32 ≤ 8 * xs.length) (hi : i < 32) (hb : b.getLsbD i = true)
    (hy : BitVec.ofInt 32 y = BitVec.ofInt 32 (ys.getD ((a + i) / 8) 0) ^^^ BitVec.twoPow 32 ((a + i) % 8))
    (h : foldW s ys = foldW s xs ^^^ stepsW (8 * xs.length - a) (lowW b i)) : foldW s (ys.set ((a + i) / 8) y) = foldW s xs ^^^ stepsW (8 * xs.length - a) (lowW b (i + 1)) := by
  rw [foldW_set ys s _ y _ (by omega) hy, h, BitVec.xor_assoc]
  congr 1
  show _ = stepsW _ (lowW b i ^^^ (if b.getLsbD i then BitVec.twoPow 32 i else 0#32))
  rw [if_pos hb, stepsW_xor, hl]
  congr 1
  rw [← bitW_more ((a + i) % 8) _ (by omega) (by omega), ← bitW_more i _ hi (by omega)]
  congr 1
  omega
theorem lowW_skip (b : Wd) (i : Nat) (hb : b.getLsbD i = false) : lowW b (i + 1) = lowW b i := by
  show lowW b i ^^^ (if b.getLsbD i then BitVec.twoPow 32 i else 0#32) = _
  rw [hb]; simp
/-- Turned bits turn the sum. -/
theorem goW_turned (xs ys : List Int) (b : Wd) (n : Nat) (h : foldW (~~~0#32) ys = foldW (~~~0#32) xs ^^^ stepsW n (lowW b 32)) : goW 0#32 ys = goW 0#32 xs ↔ b = 0#32 := by
  rw [lowW_all] at h
  unfold goW
  rw [h]
  constructor
  · intro e
    have e2 := congrArg (fun x : Wd => foldW (~~~0#32) xs ^^^ ~~~x) e
    simp only [BitVec.not_not, BitVec.xor_self, ← BitVec.xor_assoc, BitVec.zero_xor] at e2
    exact stepsW_eq_zero n e2
  · rintro rfl
    rw [stepsW_zero, BitVec.xor_zero]
theorem sumA : goW 0#32 [97] = 3251651376#32 := by decide +kernel
end Go.Proofs.YtcolicmefehcnaaDoor

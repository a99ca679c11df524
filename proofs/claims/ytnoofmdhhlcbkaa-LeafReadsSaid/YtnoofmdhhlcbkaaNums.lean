/- The plain arithmetic of codec: groups of seven bits, digits of base 256, what a row of bytes reads as. No Go text; no conditions but those that stand in each lemma. -/
namespace Go.Proofs.Ytnoofmdhhlcbkaa

/-- Groups of seven bits, the lowest first, with 128 added in all but the last one. -/
def shortOf (m : Nat) : List Int := if m < 128 then [(m : Int)] else ((m : Int) % 128 + 128) :: shortOf (m / 128)
termination_by m
decreasing_by omega

theorem shortOf_last (m : Nat) (h : m < 128) : shortOf m = [(m : Int)] := by rw [shortOf, if_pos h]
theorem shortOf_more (m : Nat) (h : 128 ≤ m) : shortOf m = ((m : Int) % 128 + 128) :: shortOf (m / 128) := by rw [shortOf, if_neg (by omega)]

theorem shortOf_bytes (m : Nat) : ∀ x ∈ shortOf m, 0 ≤ x ∧ x < 256 := by
  induction m using Nat.strongRecOn with
  | _ m ih =>
    by_cases h : m < 128
    · rw [shortOf_last m h]; intro x hx; simp at hx; omega
    · rw [shortOf_more m (by omega)]
      intro x hx
      rcases List.mem_cons.1 hx with rfl | hx
      · omega
      · exact ih (m / 128) (by omega) x hx
theorem shortOf_pos (m : Nat) : 1 ≤ (shortOf m).length := by
  rw [shortOf]; split <;> simp
theorem shortOf_len (k m : Nat) (h : m < 128 ^ (k + 1)) : (shortOf m).length ≤ k + 1 := by
  induction k generalizing m with
  | zero => rw [shortOf_last m (by simpa using h)]; simp
  | succ k ih =>
    by_cases hm : m < 128
    · rw [shortOf_last m hm]; simp
    · rw [shortOf_more m (by omega), List.length_cons]
      have := ih (m / 128) (by rw [Nat.pow_succ] at h; omega)
      omega
theorem shortOf_ten (m : Nat) (h : m < 18446744073709551616) : (shortOf m).length ≤ 10 := shortOf_len 9 m (by omega)

/-- The number whose groups of seven bits these are, the lowest first (what is added to a group is left out). -/
def valOf : List Int → Nat
  | [] => 0
  | b :: r => (b % 128).toNat + 128 * valOf r

theorem valOf_lt (l : List Int) : valOf l < 128 ^ l.length := by
  induction l with
  | nil => simp [valOf]
  | cons b r ih =>
    rw [valOf, List.length_cons, Nat.pow_succ]
    have : (b % 128).toNat < 128 := by omega
    omega
theorem valOf_snoc (l : List Int) (b : Int) : valOf (l ++ [b]) = valOf l + 128 ^ l.length * (b % 128).toNat := by
  induction l with
  | nil => simp [valOf]
  | cons c r ih =>
    rw [List.cons_append, valOf, ih, valOf, List.length_cons, Nat.pow_succ, Nat.mul_add]
    have : 128 * (128 ^ r.length * (b % 128).toNat) = 128 ^ r.length * 128 * (b % 128).toNat := by
      rw [← Nat.mul_assoc, Nat.mul_comm 128]
    omega
theorem valOf_short (m : Nat) : valOf (shortOf m) = m := by
  induction m using Nat.strongRecOn with
  | _ m ih =>
    by_cases h : m < 128
    · rw [shortOf_last m h]; simp only [valOf]; omega
    · rw [shortOf_more m (by omega), valOf, ih (m / 128) (by omega)]; omega

/-- How many bytes from 128 on stand ahead. -/
def leadOf : List Int → Nat
  | [] => 0
  | b :: r => if 128 ≤ b then leadOf r + 1 else 0
theorem leadOf_le (l : List Int) : leadOf l ≤ l.length := by
  induction l with
  | nil => simp [leadOf]
  | cons b r ih => rw [leadOf]; split <;> simp <;> omega
theorem leadOf_high (l : List Int) : ∀ i, i < leadOf l → 128 ≤ l.getD i 0 := by
  induction l with
  | nil => intro i hi; simp [leadOf] at hi
  | cons b r ih =>
    intro i hi
    rw [leadOf] at hi
    split at hi
    · cases i with
      | zero => simpa
      | succ i => simpa using ih i (by omega)
    · omega
theorem leadOf_stop (l : List Int) (h : leadOf l < l.length) : l.getD (leadOf l) 0 < 128 := by
  induction l with
  | nil => simp at h
  | cons b r ih =>
    rw [leadOf] at h ⊢
    split
    · rename_i hb
      rw [if_pos hb] at h
      simpa using ih (by simpa using h)
    · rename_i hb; simp; omega
/-- The first byte below 128 is where it is. -/
theorem leadOf_eq (l : List Int) (k : Nat) (h : ∀ i, i < k → 128 ≤ l.getD i 0) (hk : k < l.length) (hs : l.getD k 0 < 128) : leadOf l = k := by
  rcases Nat.lt_trichotomy (leadOf l) k with hlt | he | hgt
  · have h1 := h _ hlt; have h2 := leadOf_stop l (by omega); omega
  · exact he
  · have := leadOf_high l k hgt; omega
theorem leadOf_ge (l : List Int) (k : Nat) (hk : k ≤ l.length) (h : ∀ i, i < k → 128 ≤ l.getD i 0) : k ≤ leadOf l := by
  rcases Nat.lt_or_ge (leadOf l) k with hlt | he
  · have h1 := h _ hlt; have h2 := leadOf_stop l (by omega); omega
  · exact he

/-- What ReadShort tells of bytes: the number, how many bytes, the error. -/
def readOf (l : List Int) : Nat × Nat × Nat :=
  if 10 ≤ leadOf l then (0, 0, 11)
  else if leadOf l = l.length then (0, 0, 10)
  else if leadOf l = 9 ∧ 1 < l.getD 9 0 then (0, 0, 11)
  else if 0 < leadOf l ∧ l.getD (leadOf l) 0 = 0 then (0, 0, 11)
  else (valOf (l.take (leadOf l + 1)), leadOf l + 1, 0)
/-- A great number, or a byte more than it needs, at the place k where the first byte below 128 stands. -/
theorem readOf_form (l : List Int) (k : Nat) (h : ∀ i, i < k → 128 ≤ l.getD i 0) (hk : k < l.length) (hs : l.getD k 0 < 128) (h9 : k ≤ 9) (hb : k = 9 ∧ 1 < l.getD 9 0 ∨ 0 < k ∧ l.getD k 0 = 0) : readOf l = (0, 0, 11) := by
  have e := leadOf_eq l k h hk hs
  unfold readOf
  rw [if_neg (by omega), if_neg (by omega)]
  rw [e]
  by_cases h1 : k = 9 ∧ 1 < l.getD 9 0
  · rw [if_pos h1]
  · rw [if_neg h1, if_pos (by omega)]
theorem readOf_long (l : List Int) (hk : 10 ≤ l.length) (h : ∀ i, i < 10 → 128 ≤ l.getD i 0) : readOf l = (0, 0, 11) := by
  unfold readOf
  rw [if_pos (leadOf_ge l 10 hk h)]
theorem readOf_end (l : List Int) (hk : l.length < 10) (h : ∀ i, i < l.length → 128 ≤ l.getD i 0) : readOf l = (0, 0, 10) := by
  have h1 := leadOf_ge l l.length (by omega) h
  have h2 := leadOf_le l
  unfold readOf
  rw [if_neg (by omega), if_pos (by omega)]
theorem readOf_ok (l : List Int) (k : Nat) (h : ∀ i, i < k → 128 ≤ l.getD i 0) (hk : k < l.length) (hs : l.getD k 0 < 128) (h9 : k ≤ 9) (hb : ¬ (k = 9 ∧ 1 < l.getD 9 0)) (hz : ¬ (0 < k ∧ l.getD k 0 = 0)) :
    readOf l = (valOf (l.take (k + 1)), k + 1, 0) := by
  have e := leadOf_eq l k h hk hs
  unfold readOf
  rw [if_neg (by omega), if_neg (by omega), e, if_neg hb, if_neg hz]

theorem take_snoc_getD (l : List Int) (k : Nat) (h : k < l.length) : l.take (k + 1) = l.take k ++ [l.getD k 0] := by
  rw [List.take_succ_eq_append_getElem h, List.getD_eq_getElem?_getD, List.getElem?_eq_getElem h]; rfl
theorem pow7 (i : Nat) : 128 ^ i = 2 ^ (7 * i) := by
  rw [show (128 : Nat) = 2 ^ 7 by decide, ← Nat.pow_mul]
/-- A group more, by 'or' of what is shifted. -/
theorem or_group (a b i : Nat) (h : a < 2 ^ i) : a ||| b * 2 ^ i = a + 2 ^ i * b := by
  have := Nat.two_pow_add_eq_or_of_lt h b
  rw [Nat.or_comm, Nat.mul_comm b, ← this, Nat.add_comm]

/-- So many digits of base 256, the lowest first. -/
def digitsOf : Nat → Nat → List Int
  | 0, _ => []
  | k + 1, n => ((n % 256 : Nat) : Int) :: digitsOf k (n / 256)
theorem digitsOf_length (k n : Nat) : (digitsOf k n).length = k := by
  induction k generalizing n with
  | zero => rfl
  | succ k ih => rw [digitsOf, List.length_cons, ih]
theorem digitsOf_bytes (k n : Nat) : ∀ x ∈ digitsOf k n, 0 ≤ x ∧ x < 256 := by
  induction k generalizing n with
  | zero => intro x hx; cases hx
  | succ k ih =>
    intro x hx
    rw [digitsOf] at hx
    rcases List.mem_cons.1 hx with rfl | hx
    · omega
    · exact ih _ x hx
/-- The digit at a place. -/
theorem digitsOf_snoc (k n : Nat) : digitsOf (k + 1) n = digitsOf k n ++ [((n / 2 ^ (8 * k) % 256 : Nat) : Int)] := by
  induction k generalizing n with
  | zero => simp [digitsOf]
  | succ k ih =>
    rw [digitsOf, ih, digitsOf, List.cons_append]
    congr 3
    rw [Nat.div_div_eq_div_mul, show 8 * (k + 1) = 8 * k + 8 by omega, Nat.pow_add, Nat.mul_comm]
/-- The number of such digits. -/
def numOf : List Int → Nat
  | [] => 0
  | b :: r => b.toNat + 256 * numOf r
theorem numOf_lt (l : List Int) (h : ∀ x ∈ l, 0 ≤ x ∧ x < 256) : numOf l < 256 ^ l.length := by
  induction l with
  | nil => simp [numOf]
  | cons b r ih =>
    rw [numOf, List.length_cons, Nat.pow_succ]
    have h1 := h b (by simp)
    have h2 := ih fun x hx => h x (by simp [hx])
    omega
theorem numOf_snoc (l : List Int) (b : Int) : numOf (l ++ [b]) = numOf l + 256 ^ l.length * b.toNat := by
  induction l with
  | nil => simp [numOf]
  | cons c r ih =>
    rw [List.cons_append, numOf, ih, numOf, List.length_cons, Nat.pow_succ, Nat.mul_add]
    have : 256 * (256 ^ r.length * b.toNat) = 256 ^ r.length * 256 * b.toNat := by rw [← Nat.mul_assoc, Nat.mul_comm 256]
    omega
theorem pow8 (i : Nat) : 256 ^ i = 2 ^ (8 * i) := by
  rw [show (256 : Nat) = 2 ^ 8 by decide, ← Nat.pow_mul]
theorem numOf_digits (k n : Nat) : numOf (digitsOf k n) = n % 256 ^ k := by
  induction k generalizing n with
  | zero => simp [digitsOf, numOf, Nat.mod_one]
  | succ k ih =>
    rw [digitsOf, numOf, ih, Int.toNat_natCast, Nat.pow_succ, Nat.mul_comm (256 ^ k), Nat.mod_mul]
/-- One digit more ahead. -/
theorem numOf_cons_drop (l : List Int) (i : Nat) (h : i < l.length) : numOf (l.drop i) = (l.getD i 0).toNat + 256 * numOf (l.drop (i + 1)) := by
  rw [List.drop_eq_getElem_cons h, numOf, List.getD_eq_getElem?_getD, List.getElem?_eq_getElem h]; rfl
theorem valOf_cons_drop (l : List Int) (i : Nat) (h : i < l.length) : valOf (l.drop i) = (l.getD i 0 % 128).toNat + 128 * valOf (l.drop (i + 1)) := by
  rw [List.drop_eq_getElem_cons h, valOf, List.getD_eq_getElem?_getD, List.getElem?_eq_getElem h]; rfl
end Go.Proofs.Ytnoofmdhhlcbkaa

/- The plain mathematics of the sum SHA-256 over words of 32 bits, as the document has it: the words of a block, the 64 steps, the last blocks, the sum. No conditions but those that stand in each lemma. -/
namespace Go.Proofs.YtnllladoipcfkaaDoor.Sha3

/-- A word. -/
abbrev Wd := BitVec 32
/-- A number of 64 bits. -/
abbrev Qd := BitVec 64
/-- Bits that leave come in at the top. -/
def rotW (x : Wd) (n : Nat) : Wd := (x >>> n) ||| (x <<< (32 - n))
/-- Four bytes are a word, the highest first. -/
def fourW (a b c d : Int) : Wd := ((BitVec.ofInt 32 a <<< 24 ||| BitVec.ofInt 32 b <<< 16) ||| BitVec.ofInt 32 c <<< 8) ||| BitVec.ofInt 32 d
def headW (bs : List Int) (t : Nat) : Wd := fourW (bs.getD (4 * t) 0) (bs.getD (4 * t + 1) 0) (bs.getD (4 * t + 2) 0) (bs.getD (4 * t + 3) 0)
def nextW (x w7 y w16 : Wd) : Wd := (((rotW x 17 ^^^ rotW x 19) ^^^ (x >>> 10)) + w7 + ((rotW y 7 ^^^ rotW y 18) ^^^ (y >>> 3))) + w16
def wordAt (bs : List Int) (l : List Wd) (t : Nat) : Wd := if t < 16 then headW bs t else nextW (l.getD (t - 2) 0#32) (l.getD (t - 7) 0#32) (l.getD (t - 15) 0#32) (l.getD (t - 16) 0#32)
/-- The first t words of a block. -/
def wordsW (bs : List Int) : Nat → List Wd
  | 0 => []
  | t + 1 => wordsW bs t ++ [wordAt bs (wordsW bs t) t]
theorem wordsW_length (bs : List Int) : ∀ t, (wordsW bs t).length = t
  | 0 => rfl
  | t + 1 => by unfold wordsW; rw [List.length_append, wordsW_length bs t]; rfl
theorem wordsW_getD (bs : List Int) (j : Nat) : ∀ t, j < t → (wordsW bs t).getD j 0#32 = wordAt bs (wordsW bs j) j
  | 0, h => absurd h (Nat.not_lt_zero _)
  | t + 1, h => by
    show (wordsW bs t ++ [wordAt bs (wordsW bs t) t]).getD j 0#32 = _
    rw [List.getD_eq_getElem?_getD]
    by_cases hj : j < t
    · rw [List.getElem?_append_left (by rw [wordsW_length]; exact hj), ← List.getD_eq_getElem?_getD]
      exact wordsW_getD bs j t hj
    · obtain rfl : j = t := by omega
      rw [List.getElem?_append_right (by rw [wordsW_length]; exact Nat.le_refl _), wordsW_length, Nat.sub_self]
      rfl
/-- The words of a block, all 64. -/
def spreadW (bs : List Int) : List Wd := wordsW bs 64
theorem spreadW_length (bs : List Int) : (spreadW bs).length = 64 := wordsW_length bs 64
theorem spreadW_head (bs : List Int) (t : Nat) (h : t < 16) : (spreadW bs).getD t 0#32 = headW bs t := by
  unfold spreadW
  rw [wordsW_getD bs t 64 (by omega)]
  unfold wordAt
  rw [if_pos h]
theorem spreadW_next (bs : List Int) (t : Nat) (h : 16 ≤ t) (h2 : t < 64) :
    (spreadW bs).getD t 0#32 = nextW ((spreadW bs).getD (t - 2) 0#32) ((spreadW bs).getD (t - 7) 0#32) ((spreadW bs).getD (t - 15) 0#32) ((spreadW bs).getD (t - 16) 0#32) := by
  unfold spreadW
  rw [wordsW_getD bs t 64 h2]
  unfold wordAt
  rw [if_neg (by omega)]
  have e : ∀ j, j < t → (wordsW bs t).getD j 0#32 = (wordsW bs 64).getD j 0#32 := fun j hj => by rw [wordsW_getD bs j t hj, wordsW_getD bs j 64 (by omega)]
  rw [e (t - 2) (by omega), e (t - 7) (by omega), e (t - 15) (by omega), e (t - 16) (by omega)]

/-- The eight words of a state. -/
structure St where
  a : Wd
  b : Wd
  c : Wd
  d : Wd
  e : Wd
  f : Wd
  g : Wd
  h : Wd
def St.ofL (l : List Wd) : St := ⟨l.getD 0 0#32, l.getD 1 0#32, l.getD 2 0#32, l.getD 3 0#32, l.getD 4 0#32, l.getD 5 0#32, l.getD 6 0#32, l.getD 7 0#32⟩
def St.toL (s : St) : List Wd := [s.a, s.b, s.c, s.d, s.e, s.f, s.g, s.h]
theorem St.toL_length (s : St) : s.toL.length = 8 := rfl
def t1W (e f g h k w : Wd) : Wd := (((h + ((rotW e 6 ^^^ rotW e 11) ^^^ rotW e 25)) + ((e &&& f) ^^^ (~~~e &&& g))) + k) + w
def t2W (a b c : Wd) : Wd := ((rotW a 2 ^^^ rotW a 13) ^^^ rotW a 22) + (((a &&& b) ^^^ (a &&& c)) ^^^ (b &&& c))
def stepS (s : St) (k w : Wd) : St := ⟨t1W s.e s.f s.g s.h k w + t2W s.a s.b s.c, s.a, s.b, s.c, s.d + t1W s.e s.f s.g s.h k w, s.e, s.f, s.g⟩
/-- The first t steps. -/
def mixS (ks ws : List Wd) (s : St) : Nat → St
  | 0 => s
  | t + 1 => stepS (mixS ks ws s t) (ks.getD t 0#32) (ws.getD t 0#32)
/-- What a block makes of a state's words. -/
def blockW (ks hs : List Wd) (bs : List Int) : List Wd := List.zipWith (· + ·) hs (mixS ks (spreadW bs) (St.ofL hs) 64).toL
theorem blockW_length (ks hs : List Wd) (bs : List Int) (h : hs.length = 8) : (blockW ks hs bs).length = 8 := by
  unfold blockW
  rw [List.length_zipWith, h]
  rfl
theorem blockW_getD (ks hs : List Wd) (bs : List Int) (h : hs.length = 8) (i : Nat) (hi : i < 8) : (blockW ks hs bs).getD i 0#32 = hs.getD i 0#32 + (mixS ks (spreadW bs) (St.ofL hs) 64).toL.getD i 0#32 := by
  unfold blockW
  simp only [List.getD_eq_getElem?_getD]
  rw [List.getElem?_zipWith, List.getElem?_eq_getElem (by omega : i < hs.length), List.getElem?_eq_getElem (by rw [St.toL_length]; exact hi)]
  rfl

/-- Words as bytes, the highest first. -/
def byteAt (hs : List Wd) (i : Nat) : Int := ((hs.getD (i / 4) 0#32 >>> (24 - 8 * (i % 4))).toNat % 256 : Nat)
def laidW (hs : List Wd) : List Int := (List.range 32).map (byteAt hs)
theorem laidW_length (hs : List Wd) : (laidW hs).length = 32 := by unfold laidW; rw [List.length_map, List.length_range]
theorem laidW_getD (hs : List Wd) (i : Nat) (hi : i < 32) : (laidW hs).getD i 0 = byteAt hs i := by
  unfold laidW
  rw [List.getD_eq_getElem?_getD, List.getElem?_map, List.getElem?_range hi]
  rfl
/-- A number as eight bytes, the highest first. -/
def lenAt (q : Qd) (i : Nat) : Int := ((q >>> (56 - 8 * i)).toNat % 256 : Nat)
def lenW (q : Qd) : List Int := (List.range 8).map (lenAt q)
theorem lenW_length (q : Qd) : (lenW q).length = 8 := by unfold lenW; rw [List.length_map, List.length_range]
theorem lenW_getD (q : Qd) (i : Nat) (hi : i < 8) : (lenW q).getD i 0 = lenAt q i := by
  unfold lenW
  rw [List.getD_eq_getElem?_getD, List.getElem?_map, List.getElem?_range hi]
  rfl
/-- The number of all bits. -/
def bitsQ (n : Qd) (r : Nat) : Qd := 8#64 * (n + BitVec.ofNat 64 r)
def zerosI (n : Nat) : List Int := List.replicate n 0
/-- The last block, where the rest leaves room for the length. -/
def oneB (rest : List Int) (q : Qd) : List Int := (rest ++ 128 :: zerosI (55 - rest.length)) ++ lenW q
/-- The last but one, and the last, where it does not. -/
def twoB (rest : List Int) : List Int := rest ++ 128 :: zerosI (63 - rest.length)
def lastB (q : Qd) : List Int := zerosI 56 ++ lenW q
/-- The end with a rest of fewer than 64 bytes. -/
def endW (ks hs : List Wd) (n : Qd) (rest : List Int) : List Int :=
  if rest.length < 56 then laidW (blockW ks hs (oneB rest (bitsQ n rest.length)))
  else laidW (blockW ks (blockW ks hs (twoB rest)) (lastB (bitsQ n rest.length)))
theorem endW_length (ks hs : List Wd) (n : Qd) (rest : List Int) : (endW ks hs n rest).length = 32 := by
  unfold endW
  split <;> exact laidW_length _
/-- The state behind k whole blocks. -/
def blocksW (ks hs : List Wd) (xs : List Int) : Nat → List Wd
  | 0 => hs
  | k + 1 => blockW ks (blocksW ks hs xs k) ((xs.drop (64 * k)).take 64)
theorem blocksW_length (ks hs : List Wd) (xs : List Int) (h : hs.length = 8) : ∀ k, (blocksW ks hs xs k).length = 8
  | 0 => h
  | k + 1 => blockW_length _ _ _ (blocksW_length ks hs xs h k)
/-- The sum. -/
def sumW (ks hs : List Wd) (xs : List Int) : List Int := endW ks (blocksW ks hs xs (xs.length / 64)) (BitVec.ofNat 64 (64 * (xs.length / 64))) (xs.drop (64 * (xs.length / 64)))
theorem sumW_length (ks hs : List Wd) (xs : List Int) : (sumW ks hs xs).length = 32 := endW_length _ _ _ _

/-! A row that is filled from its beginning on. -/
section
variable {α : Type}
def partly (l : List α) (z : α) (k : Nat) : List α := l.take k ++ List.replicate (l.length - k) z
theorem partly_length (l : List α) (z : α) (k : Nat) : (partly l z k).length = l.length := by
  unfold partly
  rw [List.length_append, List.length_take, List.length_replicate]
  omega
theorem partly_none (l : List α) (z : α) : partly l z 0 = List.replicate l.length z := by unfold partly; rw [List.take_zero, List.nil_append, Nat.sub_zero]
theorem partly_all (l : List α) (z : α) (k : Nat) (h : l.length ≤ k) : partly l z k = l := by
  unfold partly
  rw [List.take_of_length_le h, Nat.sub_eq_zero_of_le h]
  exact List.append_nil _
theorem partly_getD (l : List α) (z y : α) (k j : Nat) (h : j < k) : (partly l z k).getD j y = if j < l.length then l.getD j y else y := by
  unfold partly
  rw [List.getD_eq_getElem?_getD]
  split
  · rw [List.getElem?_append_left (by rw [List.length_take]; omega), List.getElem?_take, if_pos h, List.getD_eq_getElem?_getD]
  · rw [List.getElem?_eq_none]
    · rfl
    · rw [List.length_append, List.length_take, List.length_replicate]; omega
theorem partly_set (l : List α) (z y : α) (k : Nat) (h : k < l.length) : (partly l z k).set k (l.getD k y) = partly l z (k + 1) := by
  unfold partly
  apply List.ext_getElem?
  intro i
  rw [List.getElem?_set]
  have hl : (l.take k ++ List.replicate (l.length - k) z).length = l.length := by rw [List.length_append, List.length_take, List.length_replicate]; omega
  by_cases hi : k = i
  · subst hi
    rw [if_pos rfl, if_pos (by rw [hl]; exact h), List.getElem?_append_left (by rw [List.length_take]; omega), List.getElem?_take, if_pos (by omega), List.getD_eq_getElem?_getD, List.getElem?_eq_getElem h]
    rfl
  · rw [if_neg hi]
    by_cases hlt : i < k
    · rw [List.getElem?_append_left (by rw [List.length_take]; omega), List.getElem?_append_left (by rw [List.length_take]; omega), List.getElem?_take, List.getElem?_take, if_pos hlt, if_pos (by omega)]
    · rw [List.getElem?_append_right (by rw [List.length_take]; omega), List.getElem?_append_right (by rw [List.length_take]; omega), List.length_take, List.length_take, List.getElem?_replicate, List.getElem?_replicate]
      have : (i - min k l.length < l.length - k) ↔ (i - min (k + 1) l.length < l.length - (k + 1)) := by omega
      by_cases hc : i - min k l.length < l.length - k
      · rw [if_pos hc, if_pos (this.1 hc)]
      · rw [if_neg hc, if_neg (fun x => hc (this.2 x))]
end
end Go.Proofs.YtnllladoipcfkaaDoor.Sha3

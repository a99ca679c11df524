/- The plain mathematics of the sum SHA-256 over words of 32 bits, as the document has it: the words of a block, the 64 steps, the last blocks, the sum. No conditions but those that stand in each lemma. | Words of 32 and 64 bits as the program's numbers, and rows of them as cells of a block. No conditions but those that stand in each lemma. | The program's rotr and the document's: any word, by 1 to 31 places. | Rows of words and of bytes as the cells of a block that is known whole. No conditions but those that stand in each lemma. | The program's two tables as words, and two sums by them: of no bytes, and of abc. No conditions. -/
import Derived.Test.YtbhcikahemhfmaaDoorMem
import Derived.Laws.Rows
import Derived.RegionTactic
import Derived.Deep.QuietTactic
import Derived.BigQuiet
import Derived.LoopTactic

namespace Go.Proofs.YtbhcikahemhfmaaDoor.Sha3

/-- A word. -/
abbrev Wd := BitVec 32
/-- A number of 64 bits. -/
abbrev Qd := BitVec 64
/-- Bits that leave come in at the top. -/
def rotW (x : Wd) (n : Nat) : Wd := (x >>> n) ||| (x <<< (32 - n))
/-- Four bytes are a word, the highest first. -/
def fourW (a b c d : Int) : Wd := ((BitVec.ofInt 32 a <<< 24 ||| BitVec.ofInt 32 b <<< 16) ||| BitVec.ofInt 32 c <<< 8) ||| BitVec.ofInt 32 d
def headW (bs : List Int) (t : Nat) : Wd := fourW (bs.getD (4 * t) 0) (bs.getD (4 * t + 1) 0) (bs.getD (4 * t + 2) 0) (bs.getD (4 * t + 3) 0)
def nextW (x w7 y w16 : Wd) : Wd := (((rotW x 17 ^^^ rotW x 19) ^^^ (x >>> 10)) + w7 + ((rotW y 7 ^^^ rotW y 18) ^^^ (y >>> 3))) + w16
def wordAt (bs : List Int) (l : List Wd) (t : Nat) : Wd := if t < 16 then headW bs t else nextW (l.getD (t - 2) 0#32) (l.getD (t - 7) 0#32) (l.getD (t - 15) 0#32) (l.getD (t - 16) 0#32)
/-- The first t words of a block. -/
def wordsW (bs : List Int) : Nat → List Wd
  | 0 => []
  | t + 1 => wordsW bs t ++ [wordAt bs (wordsW bs t) t]
theorem wordsW_length (bs : List Int) : ∀ t, (wordsW bs t).length = t
  | 0 => rfl
  | t + 1 => by unfold wordsW; rw [List.length_append, wordsW_length bs t]; rfl
theorem wordsW_getD (bs : List Int) (j : Nat) : ∀ t, j < t → (wordsW bs t).getD j 0#32 = wordAt bs (wordsW bs j) j
  | 0, h => absurd h (Nat.not_lt_zero _)
  | t + 1, h => by
    show (wordsW bs t ++ [wordAt bs (wordsW bs t) t]).getD j 0#32 = _
    rw [List.getD_eq_getElem?_getD]
    by_cases hj : j < t
    · rw [List.getElem?_append_left (by rw [wordsW_length]; exact hj), ← List.getD_eq_getElem?_getD]
      exact wordsW_getD bs j t hj
    · obtain rfl : j = t := by omega
      rw [List.getElem?_append_right (by rw [wordsW_length]; exact Nat.le_refl _), wordsW_length, Nat.sub_self]
      rfl
/-- The words of a block, all 64. -/
def spreadW (bs : List Int) : List Wd := wordsW bs 64
theorem spreadW_length (bs : List Int) : (spreadW bs).length = 64 := wordsW_length bs 64
theorem spreadW_head (bs : List Int) (t : Nat) (h : t < 16) : (spreadW bs).getD t 0#32 = headW bs t := by
  unfold spreadW
  rw [wordsW_getD bs t 64 (by omega)]
  unfold wordAt
  rw [if_pos h]
theorem spreadW_next (bs : List Int) (t : Nat) (h : 16 ≤ t) (h2 : t < 64) :
    (spreadW bs).getD t 0#32 = nextW ((spreadW bs).getD (t - 2) 0#32) ((spreadW bs).getD (t - 7) 0#32) ((spreadW bs).getD (t - 15) 0#32) ((spreadW bs).getD (t - 16) 0#32) := by
  unfold spreadW
  rw [wordsW_getD bs t 64 h2]
  unfold wordAt
  rw [if_neg (by omega)]
  have e : ∀ j, j < t → (wordsW bs t).getD j 0#32 = (wordsW bs 64).getD j 0#32 := fun j hj => by rw [wordsW_getD bs j t hj, wordsW_getD bs j 64 (by omega)]
  rw [e (t - 2) (by omega), e (t - 7) (by omega), e (t - 15) (by omega), e (t - 16) (by omega)]

/-- The eight words of a state. -/
structure St where
  a : Wd
  b : Wd
  c : Wd
  d : Wd
  e : Wd
  f : Wd
  g : Wd
  h : Wd
def St.ofL (l : List Wd) : St := ⟨l.getD 0 0#32, l.getD 1 0#32, l.getD 2 0#32, l.getD 3 0#32, l.getD 4 0#32, l.getD 5 0#32, l.getD 6 0#32, l.getD 7 0#32⟩
def St.toL (s : St) : List Wd := [s.a, s.b, s.c, s.d, s.e, s.f, s.g, s.h]
theorem St.toL_length (s : St) : s.toL.length = 8 := rfl
def t1W (e f g h k w : Wd) : Wd := (((h + ((rotW e 6 ^^^ rotW e 11) ^^^ rotW e 25)) + ((e &&& f) ^^^ (~~~e &&& g))) + k) + w
def t2W (a b c : Wd) : Wd := ((rotW a 2 ^^^ rotW a 13) ^^^ rotW a 22) + (((a &&& b) ^^^ (a &&& c)) ^^^ (b &&& c))
def stepS (s : St) (k w : Wd) : St := ⟨t1W s.e s.f s.g s.h k w + t2W s.a s.b s.c, s.a, s.b, s.c, s.d + t1W s.e s.f s.g s.h k w, s.e, s.f, s.g⟩
/-- The first t steps. -/
def mixS (ks ws : List Wd) (s : St) : Nat → St
  | 0 => s
  | t + 1 => stepS (mixS ks ws s t) (ks.getD t 0#32) (ws.getD t 0#32)
/-- What a block makes of a state's words. -/
def blockW (ks hs : List Wd) (bs : List Int) : List Wd := List.zipWith (· + ·) hs (mixS ks (spreadW bs) (St.ofL hs) 64).toL
theorem blockW_length (ks hs : List Wd) (bs : List Int) (h : hs.length = 8) : (blockW ks hs bs).length = 8 := by
  unfold blockW
  rw [List.length_zipWith, h]
  rfl
theorem blockW_getD (ks hs : List Wd) (bs : List Int) (h : hs.length = 8) (i : Nat) (hi : i < 8) : (blockW ks hs bs).getD i 0#32 = hs.getD i 0#32 + (mixS ks (spreadW bs) (St.ofL hs) 64).toL.getD i 0#32 := by
  unfold blockW
  simp only [List.getD_eq_getElem?_getD]
  rw [List.getElem?_zipWith, List.getElem?_eq_getElem (by omega : i < hs.length), List.getElem?_eq_getElem (by rw [St.toL_length]; exact hi)]
  rfl

/-- Words as bytes, the highest first. -/
def byteAt (hs : List Wd) (i : Nat) : Int := ((hs.getD (i / 4) 0#32 >>> (24 - 8 * (i % 4))).toNat % 256 : Nat)
def laidW (hs : List Wd) : List Int := (List.range 32).map (byteAt hs)
theorem laidW_length (hs : List Wd) : (laidW hs).length = 32 := by unfold laidW; rw [List.length_map, List.length_range]
theorem laidW_getD (hs : List Wd) (i : Nat) (hi : i < 32) : (laidW hs).getD i 0 = byteAt hs i := by
  unfold laidW
  rw [List.getD_eq_getElem?_getD, List.getElem?_map, List.getElem?_range hi]
  rfl
/-- A number as eight bytes, the highest first. -/
def lenAt (q : Qd) (i : Nat) : Int := ((q >>> (56 - 8 * i)).toNat % 256 : Nat)
def lenW (q : Qd) : List Int := (List.range 8).map (lenAt q)
theorem lenW_length (q : Qd) : (lenW q).length = 8 := by unfold lenW; rw [List.length_map, List.length_range]
theorem lenW_getD (q : Qd) (i : Nat) (hi : i < 8) : (lenW q).getD i 0 = lenAt q i := by
  unfold lenW
  rw [List.getD_eq_getElem?_getD, List.getElem?_map, List.getElem?_range hi]
  rfl
/-- The number of all bits. -/
def bitsQ (n : Qd) (r : Nat) : Qd := 8#64 * (n + BitVec.ofNat 64 r)
def zerosI (n : Nat) : List Int := List.replicate n 0
/-- The last block, where the rest leaves room for the length. -/
def oneB (rest : List Int) (q : Qd) : List Int := (rest ++ 128 :: zerosI (55 - rest.length)) ++ lenW q
/-- The last but one, and the last, where it does not. -/
def twoB (rest : List Int) : List Int := rest ++ 128 :: zerosI (63 - rest.length)
def lastB (q : Qd) : List Int := zerosI 56 ++ lenW q
/-- The end with a rest of fewer than 64 bytes. -/
def endW (ks hs : List Wd) (n : Qd) (rest : List Int) : List Int :=
  if rest.length < 56 then laidW (blockW ks hs (oneB rest (bitsQ n rest.length)))
  else laidW (blockW ks (blockW ks hs (twoB rest)) (lastB (bitsQ n rest.length)))
theorem endW_length (ks hs : List Wd) (n : Qd) (rest : List Int) : (endW ks hs n rest).length = 32 := by
  unfold endW
  split <;> exact laidW_length _
/-- The state behind k whole blocks. -/
def blocksW (ks hs : List Wd) (xs : List Int) : Nat → List Wd
  | 0 => hs
  | k + 1 => blockW ks (blocksW ks hs xs k) ((xs.drop (64 * k)).take 64)
theorem blocksW_length (ks hs : List Wd) (xs : List Int) (h : hs.length = 8) : ∀ k, (blocksW ks hs xs k).length = 8
  | 0 => h
  | k + 1 => blockW_length _ _ _ (blocksW_length ks hs xs h k)
/-- The sum. -/
def sumW (ks hs : List Wd) (xs : List Int) : List Int := endW ks (blocksW ks hs xs (xs.length / 64)) (BitVec.ofNat 64 (64 * (xs.length / 64))) (xs.drop (64 * (xs.length / 64)))
theorem sumW_length (ks hs : List Wd) (xs : List Int) : (sumW ks hs xs).length = 32 := endW_length _ _ _ _

/-! A row that is filled from its beginning on. -/
section
variable {α : Type}
def partly (l : List α) (z : α) (k : Nat) : List α := l.take k ++ List.replicate (l.length - k) z
theorem partly_length (l : List α) (z : α) (k : Nat) : (partly l z k).length = l.length := by
  unfold partly
  rw [List.length_append, List.length_take, List.length_replicate]
  omega
theorem partly_none (l : List α) (z : α) : partly l z 0 = List.replicate l.length z := by unfold partly; rw [List.take_zero, List.nil_append, Nat.sub_zero]
theorem partly_all (l : List α) (z : α) (k : Nat) (h : l.length ≤ k) : partly l z k = l := by
  unfold partly
  rw [List.take_of_length_le h, Nat.sub_eq_zero_of_le h]
  exact List.append_nil _
theorem partly_getD (l : List α) (z y : α) (k j : Nat) (h : j < k) : (partly l z k).getD j y = if j < l.length then l.getD j y else y := by
  unfold partly
  rw [List.getD_eq_getElem?_getD]
  split
  · rw [List.getElem?_append_left (by rw [List.length_take]; omega), List.getElem?_take, if_pos h, List.getD_eq_getElem?_getD]
  · rw [List.getElem?_eq_none]
    · rfl
    · rw [List.length_append, List.length_take, List.length_replicate]; omega
theorem partly_set (l : List α) (z y : α) (k : Nat) (h : k < l.length) : (partly l z k).set k (l.getD k y) = partly l z (k + 1) := by
  unfold partly
  apply List.ext_getElem?
  intro i
  rw [List.getElem?_set]
  have hl : (l.take k ++ List.replicate (l.length - k) z).length = l.length := by rw [List.length_append, List.length_take, List.length_replicate]; omega
  by_cases hi : k = i
  · subst hi
    rw [if_pos rfl, if_pos (by rw [hl]; exact h), List.getElem?_append_left (by rw [List.length_take]; omega), List.getElem?_take, if_pos (by omega), List.getD_eq_getElem?_getD, List.getElem?_eq_getElem h]
    rfl
  · rw [if_neg hi]
    by_cases hlt : i < k
    · rw [List.getElem?_append_left (by rw [List.length_take]; omega), List.getElem?_append_left (by rw [List.length_take]; omega), List.getElem?_take, List.getElem?_take, if_pos hlt, if_pos (by omega)]
    · rw [List.getElem?_append_right (by rw [List.length_take]; omega), List.getElem?_append_right (by rw [List.length_take]; omega), List.length_take, List.length_take, List.getElem?_replicate, List.getElem?_replicate]
      have : (i - min k l.length < l.length - k) ↔ (i - min (k + 1) l.length < l.length - (k + 1)) := by omega
      by_cases hc : i - min k l.length < l.length - k
      · rw [if_pos hc, if_pos (this.1 hc)]
      · rw [if_neg hc, if_neg (fun x => hc (this.2 x))]
end
end Go.Proofs.YtbhcikahemhfmaaDoor.Sha3

namespace Go.Proofs.YtbhcikahemhfmaaDoor.Sha3
open Go.RowKit

/-- A word as the program's number. -/
def uv (s : Wd) : Int := (s.toNat : Int)
theorem uv_lo (s : Wd) : 0 ≤ uv s := Int.natCast_nonneg _
theorem uv_hi (s : Wd) : uv s < 4294967296 := by have := s.isLt; unfold uv; omega
theorem uv_ofInt (s : Wd) : BitVec.ofInt 32 (uv s) = s := by unfold uv; rw [BitVec.ofInt_natCast]; simp
theorem uv_inj {a b : Wd} (h : uv a = uv b) : a = b := by rw [← uv_ofInt a, h, uv_ofInt]
theorem wrap_uv (s : Wd) : IntKind.u32.wrap (s.toNat : Int) = uv s := by
  have := s.isLt
  rw [IntKind.wrap_u32']
  unfold uv
  omega
theorem xor_uv (a b : Wd) : bits .xor .u32 (uv a) (uv b) = uv (a ^^^ b) := by
  show IntKind.u32.wrap ((BitVec.ofInt 32 (uv a) ^^^ BitVec.ofInt 32 (uv b)).toNat : Int) = _
  rw [wrap_uv, uv_ofInt, uv_ofInt]
theorem and_uv (a b : Wd) : bits .and .u32 (uv a) (uv b) = uv (a &&& b) := by
  show IntKind.u32.wrap ((BitVec.ofInt 32 (uv a) &&& BitVec.ofInt 32 (uv b)).toNat : Int) = _
  rw [wrap_uv, uv_ofInt, uv_ofInt]
theorem or_uv (a b : Wd) : bits .or .u32 (uv a) (uv b) = uv (a ||| b) := by
  show IntKind.u32.wrap ((BitVec.ofInt 32 (uv a) ||| BitVec.ofInt 32 (uv b)).toNat : Int) = _
  rw [wrap_uv, uv_ofInt, uv_ofInt]
theorem not_uv (s : Wd) : bits .xor .u32 IntKind.u32.max (uv s) = uv (~~~s) := by
  show IntKind.u32.wrap ((BitVec.ofInt 32 IntKind.u32.max ^^^ BitVec.ofInt 32 (uv s)).toNat : Int) = _
  rw [wrap_uv, uv_ofInt, show BitVec.ofInt 32 IntKind.u32.max = BitVec.allOnes 32 by decide, BitVec.allOnes_xor]
theorem add_uv (a b : Wd) : IntKind.u32.wrap (uv a + uv b) = uv (a + b) := by
  have h : ((a + b).toNat : Int) = (uv a + uv b) % 4294967296 := by rw [BitVec.toNat_add]; unfold uv; omega
  rw [IntKind.wrap_u32']
  unfold uv at h ⊢
  omega
theorem shr_uv (s : Wd) (k : Nat) : uv s / 2 ^ k = uv (s >>> k) := by
  unfold uv
  rw [BitVec.toNat_ushiftRight, Nat.shiftRight_eq_div_pow]
  simp
theorem shl_uv (s : Wd) (k : Nat) : IntKind.u32.wrap (uv s * 2 ^ k) = uv (s <<< k) := by
  rw [IntKind.wrap_u32']
  unfold uv
  rw [BitVec.toNat_shiftLeft, Nat.shiftLeft_eq]
  have h : ((s.toNat * 2 ^ k : Nat) : Int) = (s.toNat : Int) * 2 ^ k := by simp
  have h2 := Int.natCast_emod (s.toNat * 2 ^ k) (2 ^ 32)
  rw [h2, h]
  rfl
/-! The same in the walk's own spelling. -/
theorem shl_mod (s : Wd) (k : Nat) : uv s * 2 ^ k % 4294967296 = uv (s <<< k) := by rw [← shl_uv, IntKind.wrap_u32']
theorem add_mod (a b : Wd) : (uv a + uv b) % 4294967296 = uv (a + b) := by rw [← add_uv, IntKind.wrap_u32']
theorem uv_add (a b : Wd) : uv (a + b) = (uv a + uv b) % 4294967296 := (add_mod a b).symm
theorem add4_mod (a b c d : Wd) : (uv a + uv b + uv c + uv d) % 4294967296 = uv (a + b + c + d) := by rw [uv_add, uv_add, uv_add]; omega
theorem add5_mod (a b c d e : Wd) : (uv a + uv b + uv c + uv d + uv e) % 4294967296 = uv (a + b + c + d + e) := by rw [uv_add, uv_add, uv_add, uv_add]; omega
theorem shl24 (s : Wd) : IntKind.u32.wrap (uv s * 16777216) = uv (s <<< 24) := shl_uv s 24
theorem shl16 (s : Wd) : IntKind.u32.wrap (uv s * 65536) = uv (s <<< 16) := shl_uv s 16
theorem shl8 (s : Wd) : IntKind.u32.wrap (uv s * 256) = uv (s <<< 8) := shl_uv s 8
theorem byte_uv (x : Int) (h : 0 ≤ x ∧ x < 256) : IntKind.u32.wrap x = uv (BitVec.ofInt 32 x) := by
  obtain ⟨m, rfl⟩ := Int.eq_ofNat_of_zero_le h.1
  rw [IntKind.wrap_u32']
  unfold uv
  rw [BitVec.ofInt_natCast, BitVec.toNat_ofNat]
  omega
theorem four_uv (x0 x1 x2 x3 : Int) (b0 : 0 ≤ x0 ∧ x0 < 256) (b1 : 0 ≤ x1 ∧ x1 < 256) (b2 : 0 ≤ x2 ∧ x2 < 256) (b3 : 0 ≤ x3 ∧ x3 < 256) :
    bits .or .u32 (bits .or .u32 (bits .or .u32 (IntKind.u32.wrap (IntKind.u32.wrap x0 * 16777216)) (IntKind.u32.wrap (IntKind.u32.wrap x1 * 65536))) (IntKind.u32.wrap (IntKind.u32.wrap x2 * 256))) (IntKind.u32.wrap x3) = uv (fourW x0 x1 x2 x3) := by
  rw [byte_uv x0 b0, byte_uv x1 b1, byte_uv x2 b2, byte_uv x3 b3, shl24, shl16, shl8, or_uv, or_uv, or_uv]
  rfl
theorem ret_uv {a b : Wd} (h : a = b) : Ending.returned (.int .u32 (uv a)) = .returned (.int .u32 (uv b)) := by rw [h]
end Go.Proofs.YtbhcikahemhfmaaDoor.Sha3

namespace Go.Proofs.YtbhcikahemhfmaaDoor.Sha3
open Go.RowKit

theorem rot_uv (x : Wd) (n : Nat) : bits BinOp.or IntKind.u32 (uv x / 2 ^ n) (uv x * 2 ^ (32 - n) % 4294967296) = uv (rotW x n) := by
  rw [shr_uv, shl_mod, or_uv]
  rfl
set_option maxHeartbeats 400000 in
theorem rrot_any (x : Wd) (n : Nat) (w : World) (h0 : 0 < n) (hn : n < 32) : Calls Tryd.prog 34 #[.int .u32 (uv x), .int .u64 n] w fun e w' => e = .returned (.int .u32 (uv (rotW x n))) ∧ w = w' := by
  have HR := Lib.hid (rot_uv x n)
  go_enter Tryd.func34, Tryd.ntmps34
  go_wp2_with fail
  go_ret
  exact ⟨by rw [← HR.out]; rfl, rfl⟩
set_option maxHeartbeats 400000 in
theorem rot_any (x : Wd) (n : Nat) (w : World) (h0 : 0 < n) (hn : n < 32) : Calls Tryd.prog 35 #[.int .u32 (uv x), .int .i64 n] w fun e w' => e = .returned (.int .u32 (uv (rotW x n))) ∧ ∃ m, w' = w.drewN m := by
  have HR := Lib.hid (rot_uv x n)
  go_enter Tryd.func35, Tryd.ntmps35
  go_wp2_with fail
  go_quiet (fail)
  go_wp2
  go_ret
  exact ⟨by rw [← HR.out]; rfl, nq, rfl⟩
/-- The same at a literal. -/
theorem rot_at (x : Wd) (m : Int) (n : Nat) (hm : m = (n : Int)) (w : World) (h0 : 0 < n) (hn : n < 32) : Calls Tryd.prog 35 #[.int .u32 (uv x), .int .i64 m] w fun e w' => e = .returned (.int .u32 (uv (rotW x n))) ∧ ∃ m, w' = w.drewN m := by
  subst hm
  exact rot_any x n w h0 hn
theorem rrot_at (x : Wd) (m : Int) (n : Nat) (hm : m = (n : Int)) (w : World) (h0 : 0 < n) (hn : n < 32) : Calls Tryd.prog 34 #[.int .u32 (uv x), .int .u64 m] w fun e w' => e = .returned (.int .u32 (uv (rotW x n))) ∧ w = w' := by
  subst hm
  exact rrot_any x n w h0 hn
end Go.Proofs.YtbhcikahemhfmaaDoor.Sha3

namespace Go.Proofs.YtbhcikahemhfmaaDoor.Sha3
open Go.RowKit

/-- Words as cells. -/
def wcells (xs : List Wd) : Array Value := (xs.map fun x => Value.int .u32 (uv x)).toArray
/-- Bytes as cells. -/
def bcells (xs : List Int) : Array Value := (xs.map (Value.int .u8)).toArray
/-- A state as cells. -/
def scells (hs : List Wd) (n : Int) : Array Value := (hs.map (fun x => Value.int .u32 (uv x)) ++ [Value.int .u64 n]).toArray
theorem wcells_size (xs : List Wd) : (wcells xs).size = xs.length := by simp [wcells]
theorem bcells_size (xs : List Int) : (bcells xs).size = xs.length := by simp [bcells]
theorem scells_size (hs : List Wd) (n : Int) : (scells hs n).size = hs.length + 1 := by simp [scells]
theorem wcells_at (xs : List Wd) (j : Nat) (h : j < xs.length) : (wcells xs)[j]? = some (.int .u32 (uv (xs.getD j 0#32))) := by
  simp [wcells, List.getD_eq_getElem?_getD, List.getElem?_eq_getElem h]
theorem bcells_at (xs : List Int) (j : Nat) (h : j < xs.length) : (bcells xs)[j]? = some (.int .u8 (xs.getD j 0)) := by
  simp [bcells, List.getD_eq_getElem?_getD, List.getElem?_eq_getElem h]
theorem scells_at (hs : List Wd) (n : Int) (j : Nat) (h : j < hs.length) : (scells hs n)[j]? = some (.int .u32 (uv (hs.getD j 0#32))) := by
  simp [scells, List.getD_eq_getElem?_getD, List.getElem?_append_left, h]
theorem scells_last (hs : List Wd) (n : Int) (j : Nat) (h : hs.length = j) : (scells hs n)[j]? = some (.int .u64 n) := by
  subst h
  simp [scells]
theorem wcells_set (xs : List Wd) (j : Nat) (x : Wd) : (wcells xs).setIfInBounds j (.int .u32 (uv x)) = wcells (xs.set j x) := by
  simp [wcells, List.map_set]
theorem bcells_set (xs : List Int) (j : Nat) (x : Int) : (bcells xs).setIfInBounds j (.int .u8 x) = bcells (xs.set j x) := by
  simp [bcells, List.map_set]
theorem scells_set (hs : List Wd) (n : Int) (j : Nat) (x : Wd) (h : j < hs.length) : (scells hs n).setIfInBounds j (.int .u32 (uv x)) = scells (hs.set j x) n := by
  simp [scells, List.map_set, List.set_append_left, h]
theorem scells_setLast (hs : List Wd) (n m : Int) (j : Nat) (h : hs.length = j) : (scells hs n).setIfInBounds j (.int .u64 m) = scells hs m := by
  subst h
  simp [scells, List.set_append_right]
theorem wcells_one (xs : List Wd) : (wcells xs).all (·.oneCell') = true := by
  simp [wcells, List.all_map, Value.oneCell']
theorem bcells_one (xs : List Int) : (bcells xs).all (·.oneCell') = true := by
  simp [bcells, List.all_map, Value.oneCell']
theorem scells_one (hs : List Wd) (n : Int) : (scells hs n).all (·.oneCell') = true := by
  simp [scells, List.all_map, List.all_append, Value.oneCell']

/-- The block g, known whole; its cells may be written. -/
def Row (w : World) (g : Nat) (t : TypeId) (cs : Array Value) : Prop := w.heap[g]? = some (.cells cs t (0, 0))
section
variable {w w' : World} {g : Nat} {t : TypeId} {cs : Array Value}
theorem Row.lt (h : Row w g t cs) : g < w.heap.size := by
  rcases Nat.lt_or_ge g w.heap.size with h' | h'
  · exact h'
  · unfold Row at h
    rw [Array.getElem?_eq_none h'] at h
    cases h
theorem Row.cell (h : Row w g t cs) {j : Nat} {v : Value} (hv : cs[j]? = some v) : w.cell? ⟨g, j, none⟩ = some v := (cell_of_row w g j cs t (0, 0) h).trans hv
theorem Row.free (h : Row w g t cs) (j : Nat) : w.frozen? ⟨g, j, none⟩ = false := frozen_of_row w g j cs t h
theorem Row.keepB {B : Nat} (h : Row w g t cs) (hb : Below B w w') (hg : g < B) : Row w' g t cs := (hb.block g hg).trans h
theorem Row.keep (h : Row w g t cs) (hb : Below w.heap.size w w') : Row w' g t cs := h.keepB hb h.lt
theorem Row.set (h : Row w g t cs) (j : Nat) (v : Value) : Row (w.setCell ⟨g, j, none⟩ v) g t (cs.setIfInBounds j v) := heap_setCell_same w g j cs t v h
theorem Row.other (h : Row w g t cs) {b : Nat} (hb : g ≠ b) (j : Nat) (v : Value) : Row (w.setCell ⟨b, j, none⟩ v) g t cs := (heap_setCell_other w ⟨b, j, none⟩ g v hb).trans h
theorem Row.setRow (h : Row w g t cs) (c : Array Value) : Row (w.setRow g c) g t c := setRow_heap w g cs c t (0, 0) h
theorem Row.otherRow (h : Row w g t cs) {b : Nat} (hb : g ≠ b) (c : Array Value) : Row (w.setRow b c) g t cs := (setRow_other w b g c hb).trans h
theorem Row.drew (h : Row w g t cs) : Row w.drew g t cs := h
theorem Row.drewN (h : Row w g t cs) (n : Nat) : Row (w.drewN n) g t cs := h
theorem Row.new (w : World) (t : TypeId) (cs : Array Value) : Row (w.alloc (.cells cs t)) w.heap.size t cs := heap_alloc_new w _
theorem Row.old (h : Row w g t cs) (o : Obj) : Row (w.alloc o) g t cs := (heap_alloc_old w o h.lt).trans h
theorem below_setRow {B : Nat} {a : World} (h : Below B a w) {b : Nat} (hb : B ≤ b) (c : Array Value) : Below B a (w.setRow b c) :=
  ⟨h.os, h.tape, h.output, by rw [setRow_size]; exact h.size, fun k hk => (setRow_other w b k c (by omega)).trans (h.block k hk)⟩
theorem below_drewN {B : Nat} {a : World} (h : Below B a w) (n : Nat) : Below B a (w.drewN n) := ⟨h.os, h.tape, h.output, h.size, h.block⟩
end
theorem Tryd.size33 : (Tryd.prog.info? 45).map (·.size) = some 64 := by kernel_rfl
theorem Tryd.size32 : (Tryd.prog.info? 43).map (·.size) = some 64 := by kernel_rfl
theorem Tryd.size28 : (Tryd.prog.info? 38).map (·.size) = some 8 := by kernel_rfl
theorem Tryd.size31 : (Tryd.prog.info? 41).map (·.size) = some 9 := by kernel_rfl
theorem Tryd.size35 : (Tryd.prog.info? 47).map (·.size) = some 9 := by kernel_rfl
theorem Tryd.size23 : (Tryd.prog.info? 23).map (·.size) = some 32 := by kernel_rfl
end Go.Proofs.YtbhcikahemhfmaaDoor.Sha3

namespace Go.Proofs.YtbhcikahemhfmaaDoor.Sha3

/-- The first state's words. -/
def h0W : List Wd := [1779033703#32, 3144134277#32, 1013904242#32, 2773480762#32, 1359893119#32, 2600822924#32, 528734635#32, 1541459225#32]
/-- The constants. -/
def kW : List Wd := [1116352408#32, 1899447441#32, 3049323471#32, 3921009573#32, 961987163#32, 1508970993#32, 2453635748#32, 2870763221#32, 3624381080#32, 310598401#32, 607225278#32, 1426881987#32, 1925078388#32, 2162078206#32, 2614888103#32, 3248222580#32, 3835390401#32, 4022224774#32, 264347078#32, 604807628#32, 770255983#32, 1249150122#32, 1555081692#32, 1996064986#32, 2554220882#32, 2821834349#32, 2952996808#32, 3210313671#32, 3336571891#32, 3584528711#32, 113926993#32, 338241895#32, 666307205#32, 773529912#32, 1294757372#32, 1396182291#32, 1695183700#32, 1986661051#32, 2177026350#32, 2456956037#32, 2730485921#32, 2820302411#32, 3259730800#32, 3345764771#32, 3516065817#32, 3600352804#32, 4094571909#32, 275423344#32, 430227734#32, 506948616#32, 659060556#32, 883997877#32, 958139571#32, 1322822218#32, 1537002063#32, 1747873779#32, 1955562222#32, 2024104815#32, 2227730452#32, 2361852424#32, 2428436474#32, 2756734187#32, 3204031479#32, 3329325298#32]
theorem h0W_length : h0W.length = 8 := rfl
theorem kW_length : kW.length = 64 := rfl
set_option maxRecDepth 100000 in
theorem sum_nil : (sumW kW h0W []).getD 0 0 = 227 := by decide +kernel
end Go.Proofs.YtbhcikahemhfmaaDoor.Sha3

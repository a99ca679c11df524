/- The plain mathematics of the sum MD5 over words of 32 bits, as the document has it: the words of a block, the 64 steps, the last blocks, the sum; words of 32 and 64 bits as the program's numbers, and rows of them as cells of a block. No conditions but those that stand in each lemma. -/
import Derived.Test.YtfjkejdnbegomaaDoorMem
import Derived.Laws.Rows
import Derived.RegionTactic
import Derived.Deep.QuietTactic
import Derived.BigQuiet
import Derived.LoopTactic

namespace Go.Proofs.YtfjkejdnbegomaaDoor.Md5

/-- A word. -/
abbrev Wd := BitVec 32
/-- A number of 64 bits. -/
abbrev Qd := BitVec 64
/-- Bits that leave come in at the bottom. -/
def rolW (x : Wd) (n : Nat) : Wd := (x <<< n) ||| (x >>> (32 - n))
/-- Four bytes are a word, the lowest first. -/
def fourW (a b c d : Int) : Wd := ((BitVec.ofInt 32 a ||| BitVec.ofInt 32 b <<< 8) ||| BitVec.ofInt 32 c <<< 16) ||| BitVec.ofInt 32 d <<< 24
def headW (bs : List Int) (t : Nat) : Wd := fourW (bs.getD (4 * t) 0) (bs.getD (4 * t + 1) 0) (bs.getD (4 * t + 2) 0) (bs.getD (4 * t + 3) 0)
/-- The words of a block. -/
def readW (bs : List Int) : List Wd := (List.range 16).map (headW bs)
theorem readW_length (bs : List Int) : (readW bs).length = 16 := by unfold readW; rw [List.length_map, List.length_range]
theorem readW_getD (bs : List Int) (t : Nat) (h : t < 16) : (readW bs).getD t 0#32 = headW bs t := by
  unfold readW
  rw [List.getD_eq_getElem?_getD, List.getElem?_map, List.getElem?_range h]
  rfl

/-- The four words of a state. -/
structure St where
  a : Wd
  b : Wd
  c : Wd
  d : Wd
def St.ofL (l : List Wd) : St := ⟨l.getD 0 0#32, l.getD 1 0#32, l.getD 2 0#32, l.getD 3 0#32⟩
def St.toL (s : St) : List Wd := [s.a, s.b, s.c, s.d]
theorem St.toL_length (s : St) : s.toL.length = 4 := rfl
/-- What a step makes of three words, which word of the block it takes, and by how many places it turns. -/
def fW (i : Nat) (b c d : Wd) : Wd :=
  if i < 16 then (b &&& c) ||| (~~~b &&& d) else if i < 32 then (d &&& b) ||| (~~~d &&& c) else if i < 48 then (b ^^^ c) ^^^ d else c ^^^ (b ||| ~~~d)
def kI (i : Nat) : Nat := if i < 16 then i else if i < 32 then 5 * i + 1 else if i < 48 then 3 * i + 5 else 7 * i
def turnsL : List Nat := [7, 12, 17, 22, 5, 9, 14, 20, 4, 11, 16, 23, 6, 10, 15, 21]
def turnN (j : Nat) : Nat := turnsL.getD j 1
theorem turns_all : ∀ j : Fin 16, 0 < turnN j.val ∧ turnN j.val < 32 := by decide
theorem turn_lo (j : Nat) : 0 < turnN j ∧ turnN j < 32 := by
  by_cases h : j < 16
  · exact turns_all ⟨j, h⟩
  · unfold turnN
    rw [List.getD_eq_getElem?_getD, List.getElem?_eq_none (by show 16 ≤ j; omega)]
    exact ⟨by decide, by decide⟩
def stepS (i : Nat) (s : St) (t x : Wd) : St := ⟨s.d, s.b + rolW (((s.a + fW i s.b s.c s.d) + x) + t) (turnN (i / 16 * 4 + i % 4)), s.b, s.c⟩
/-- The first k steps. -/
def mixS (ts xs : List Wd) (s : St) : Nat → St
  | 0 => s
  | k + 1 => stepS k (mixS ts xs s k) (ts.getD k 0#32) (xs.getD (kI k % 16) 0#32)
/-- What a block makes of a state's words. -/
def blockW (ks hs : List Wd) (bs : List Int) : List Wd := List.zipWith (· + ·) hs (mixS ks (readW bs) (St.ofL hs) 64).toL
theorem blockW_length (ks hs : List Wd) (bs : List Int) (h : hs.length = 4) : (blockW ks hs bs).length = 4 := by
  unfold blockW
  rw [List.length_zipWith, h]
  rfl
theorem blockW_getD (ks hs : List Wd) (bs : List Int) (h : hs.length = 4) (i : Nat) (hi : i < 4) : (blockW ks hs bs).getD i 0#32 = hs.getD i 0#32 + (mixS ks (readW bs) (St.ofL hs) 64).toL.getD i 0#32 := by
  unfold blockW
  simp only [List.getD_eq_getElem?_getD]
  rw [List.getElem?_zipWith, List.getElem?_eq_getElem (by omega : i < hs.length), List.getElem?_eq_getElem (by rw [St.toL_length]; exact hi)]
  rfl

/-- Words as bytes, the lowest first. -/
def byteAt (hs : List Wd) (i : Nat) : Int := ((hs.getD (i / 4) 0#32 >>> (8 * (i % 4))).toNat % 256 : Nat)
def laidW (hs : List Wd) : List Int := (List.range 16).map (byteAt hs)
theorem laidW_length (hs : List Wd) : (laidW hs).length = 16 := by unfold laidW; rw [List.length_map, List.length_range]
theorem laidW_getD (hs : List Wd) (i : Nat) (hi : i < 16) : (laidW hs).getD i 0 = byteAt hs i := by
  unfold laidW
  rw [List.getD_eq_getElem?_getD, List.getElem?_map, List.getElem?_range hi]
  rfl
/-- A number as eight bytes, the lowest first. -/
def lenAt (q : Qd) (i : Nat) : Int := ((q >>> (8 * i)).toNat % 256 : Nat)
def lenW (q : Qd) : List Int := (List.range 8).map (lenAt q)
theorem lenW_length (q : Qd) : (lenW q).length = 8 := by unfold lenW; rw [List.length_map, List.length_range]
theorem lenW_getD (q : Qd) (i : Nat) (hi : i < 8) : (lenW q).getD i 0 = lenAt q i := by
  unfold lenW
  rw [List.getD_eq_getElem?_getD, List.getElem?_map, List.getElem?_range hi]
  rfl
/-- The number of all bits. -/
def bitsQ (n : Qd) (r : Nat) : Qd := 8#64 * (n + BitVec.ofNat 64 r)
def zerosI (n : Nat) : List Int := List.replicate n 0
/-- The last block, where the rest leaves room for the length. -/
def oneB (rest : List Int) (q : Qd) : List Int := (rest ++ 128 :: zerosI (55 - rest.length)) ++ lenW q
/-- The last but one, and the last, where it does not. -/
def twoB (rest : List Int) : List Int := rest ++ 128 :: zerosI (63 - rest.length)
def lastB (q : Qd) : List Int := zerosI 56 ++ lenW q
/-- The end with a rest of fewer than 64 bytes. -/
def endW (ks hs : List Wd) (n : Qd) (rest : List Int) : List Int :=
  if rest.length < 56 then laidW (blockW ks hs (oneB rest (bitsQ n rest.length)))
  else laidW (blockW ks (blockW ks hs (twoB rest)) (lastB (bitsQ n rest.length)))
theorem endW_length (ks hs : List Wd) (n : Qd) (rest : List Int) : (endW ks hs n rest).length = 16 := by
  unfold endW
  split <;> exact laidW_length _
/-- The state behind k whole blocks. -/
def blocksW (ks hs : List Wd) (xs : List Int) : Nat → List Wd
  | 0 => hs
  | k + 1 => blockW ks (blocksW ks hs xs k) ((xs.drop (64 * k)).take 64)
theorem blocksW_length (ks hs : List Wd) (xs : List Int) (h : hs.length = 4) : ∀ k, (blocksW ks hs xs k).length = 4
  | 0 => h
  | k + 1 => blockW_length _ _ _ (blocksW_length ks hs xs h k)
/-- The sum. -/
def sumW (ks hs : List Wd) (xs : List Int) : List Int := endW ks (blocksW ks hs xs (xs.length / 64)) (BitVec.ofNat 64 (64 * (xs.length / 64))) (xs.drop (64 * (xs.length / 64)))
theorem sumW_length (ks hs : List Wd) (xs : List Int) : (sumW ks hs xs).length = 16 := endW_length _ _ _ _

/-! A row that is filled from its beginning on. -/
section
variable {α : Type}
def partly (l : List α) (z : α) (k : Nat) : List α := l.take k ++ List.replicate (l.length - k) z
theorem partly_length (l : List α) (z : α) (k : Nat) : (partly l z k).length = l.length := by
  unfold partly
  rw [List.length_append, List.length_take, List.length_replicate]
  omega
theorem partly_none (l : List α) (z : α) : partly l z 0 = List.replicate l.length z := by unfold partly; rw [List.take_zero, List.nil_append, Nat.sub_zero]
theorem partly_all (l : List α) (z : α) (k : Nat) (h : l.length ≤ k) : partly l z k = l := by
  unfold partly
  rw [List.take_of_length_le h, Nat.sub_eq_zero_of_le h]
  exact List.append_nil _
theorem partly_getD (l : List α) (z y : α) (k j : Nat) (h : j < k) : (partly l z k).getD j y = if j < l.length then l.getD j y else y := by
  unfold partly
  rw [List.getD_eq_getElem?_getD]
  split
  · rw [List.getElem?_append_left (by rw [List.length_take]; omega), List.getElem?_take, if_pos h, List.getD_eq_getElem?_getD]
  · rw [List.getElem?_eq_none]
    · rfl
    · rw [List.length_append, List.length_take, List.length_replicate]; omega
theorem partly_set (l : List α) (z y : α) (k : Nat) (h : k < l.length) : (partly l z k).set k (l.getD k y) = partly l z (k + 1) := by
  unfold partly
  apply List.ext_getElem?
  intro i
  rw [List.getElem?_set]
  have hl : (l.take k ++ List.replicate (l.length - k) z).length = l.length := by rw [List.length_append, List.length_take, List.length_replicate]; omega
  by_cases hi : k = i
  · subst hi
    rw [if_pos rfl, if_pos (by rw [hl]; exact h), List.getElem?_append_left (by rw [List.length_take]; omega), List.getElem?_take, if_pos (by omega), List.getD_eq_getElem?_getD, List.getElem?_eq_getElem h]
    rfl
  · rw [if_neg hi]
    by_cases hlt : i < k
    · rw [List.getElem?_append_left (by rw [List.length_take]; omega), List.getElem?_append_left (by rw [List.length_take]; omega), List.getElem?_take, List.getElem?_take, if_pos hlt, if_pos (by omega)]
    · rw [List.getElem?_append_right (by rw [List.length_take]; omega), List.getElem?_append_right (by rw [List.length_take]; omega), List.length_take, List.length_take, List.getElem?_replicate, List.getElem?_replicate]
      have : (i - min k l.length < l.length - k) ↔ (i - min (k + 1) l.length < l.length - (k + 1)) := by omega
      by_cases hc : i - min k l.length < l.length - k
      · rw [if_pos hc, if_pos (this.1 hc)]
      · rw [if_neg hc, if_neg (fun x => hc (this.2 x))]
end
end Go.Proofs.YtfjkejdnbegomaaDoor.Md5

namespace Go.Proofs.YtfjkejdnbegomaaDoor.Md5
open Go.RowKit

/-- A word as the program's number. -/
def uv (s : Wd) : Int := (s.toNat : Int)
theorem uv_lo (s : Wd) : 0 ≤ uv s := Int.natCast_nonneg _
theorem uv_hi (s : Wd) : uv s < 4294967296 := by have := s.isLt; unfold uv; omega
theorem uv_ofInt (s : Wd) : BitVec.ofInt 32 (uv s) = s := by unfold uv; rw [BitVec.ofInt_natCast]; simp
theorem uv_inj {a b : Wd} (h : uv a = uv b) : a = b := by rw [← uv_ofInt a, h, uv_ofInt]
theorem wrap_uv (s : Wd) : IntKind.u32.wrap (s.toNat : Int) = uv s := by
  have := s.isLt
  rw [IntKind.wrap_u32']
  unfold uv
  omega
theorem xor_uv (a b : Wd) : bits .xor .u32 (uv a) (uv b) = uv (a ^^^ b) := by
  show IntKind.u32.wrap ((BitVec.ofInt 32 (uv a) ^^^ BitVec.ofInt 32 (uv b)).toNat : Int) = _
  rw [wrap_uv, uv_ofInt, uv_ofInt]
theorem and_uv (a b : Wd) : bits .and .u32 (uv a) (uv b) = uv (a &&& b) := by
  show IntKind.u32.wrap ((BitVec.ofInt 32 (uv a) &&& BitVec.ofInt 32 (uv b)).toNat : Int) = _
  rw [wrap_uv, uv_ofInt, uv_ofInt]
theorem or_uv (a b : Wd) : bits .or .u32 (uv a) (uv b) = uv (a ||| b) := by
  show IntKind.u32.wrap ((BitVec.ofInt 32 (uv a) ||| BitVec.ofInt 32 (uv b)).toNat : Int) = _
  rw [wrap_uv, uv_ofInt, uv_ofInt]
theorem not_uv (s : Wd) : bits .xor .u32 IntKind.u32.max (uv s) = uv (~~~s) := by
  show IntKind.u32.wrap ((BitVec.ofInt 32 IntKind.u32.max ^^^ BitVec.ofInt 32 (uv s)).toNat : Int) = _
  rw [wrap_uv, uv_ofInt, show BitVec.ofInt 32 IntKind.u32.max = BitVec.allOnes 32 by decide, BitVec.allOnes_xor]
theorem add_uv (a b : Wd) : IntKind.u32.wrap (uv a + uv b) = uv (a + b) := by
  have h : ((a + b).toNat : Int) = (uv a + uv b) % 4294967296 := by rw [BitVec.toNat_add]; unfold uv; omega
  rw [IntKind.wrap_u32']
  unfold uv at h ⊢
  omega
theorem shr_uv (s : Wd) (k : Nat) : uv s / 2 ^ k = uv (s >>> k) := by
  unfold uv
  rw [BitVec.toNat_ushiftRight, Nat.shiftRight_eq_div_pow]
  simp
theorem shl_uv (s : Wd) (k : Nat) : IntKind.u32.wrap (uv s * 2 ^ k) = uv (s <<< k) := by
  rw [IntKind.wrap_u32']
  unfold uv
  rw [BitVec.toNat_shiftLeft, Nat.shiftLeft_eq]
  have h : ((s.toNat * 2 ^ k : Nat) : Int) = (s.toNat : Int) * 2 ^ k := by simp
  have h2 := Int.natCast_emod (s.toNat * 2 ^ k) (2 ^ 32)
  rw [h2, h]
  rfl
/-! The same in the walk's own spelling. -/
theorem shl_mod (s : Wd) (k : Nat) : uv s * 2 ^ k % 4294967296 = uv (s <<< k) := by rw [← shl_uv, IntKind.wrap_u32']
theorem add_mod (a b : Wd) : (uv a + uv b) % 4294967296 = uv (a + b) := by rw [← add_uv, IntKind.wrap_u32']
theorem uv_add (a b : Wd) : uv (a + b) = (uv a + uv b) % 4294967296 := (add_mod a b).symm
theorem add4_mod (a b c d : Wd) : (uv a + uv b + uv c + uv d) % 4294967296 = uv (a + b + c + d) := by rw [uv_add, uv_add, uv_add]; omega
theorem add5_mod (a b c d e : Wd) : (uv a + uv b + uv c + uv d + uv e) % 4294967296 = uv (a + b + c + d + e) := by rw [uv_add, uv_add, uv_add, uv_add]; omega
theorem shl24 (s : Wd) : IntKind.u32.wrap (uv s * 16777216) = uv (s <<< 24) := shl_uv s 24
theorem shl16 (s : Wd) : IntKind.u32.wrap (uv s * 65536) = uv (s <<< 16) := shl_uv s 16
theorem shl8 (s : Wd) : IntKind.u32.wrap (uv s * 256) = uv (s <<< 8) := shl_uv s 8
theorem byte_uv (x : Int) (h : 0 ≤ x ∧ x < 256) : IntKind.u32.wrap x = uv (BitVec.ofInt 32 x) := by
  obtain ⟨m, rfl⟩ := Int.eq_ofNat_of_zero_le h.1
  rw [IntKind.wrap_u32']
  unfold uv
  rw [BitVec.ofInt_natCast, BitVec.toNat_ofNat]
  omega
theorem four_uv (x0 x1 x2 x3 : Int) (b0 : 0 ≤ x0 ∧ x0 < 256) (b1 : 0 ≤ x1 ∧ x1 < 256) (b2 : 0 ≤ x2 ∧ x2 < 256) (b3 : 0 ≤ x3 ∧ x3 < 256) :
    bits .or .u32 (bits .or .u32 (bits .or .u32 (IntKind.u32.wrap x0) (IntKind.u32.wrap (IntKind.u32.wrap x1 * 256))) (IntKind.u32.wrap (IntKind.u32.wrap x2 * 65536))) (IntKind.u32.wrap (IntKind.u32.wrap x3 * 16777216)) = uv (fourW x0 x1 x2 x3) := by
  rw [byte_uv x0 b0, byte_uv x1 b1, byte_uv x2 b2, byte_uv x3 b3, shl24, shl16, shl8, or_uv, or_uv, or_uv]
  rfl
theorem ret_uv {a b : Wd} (h : a = b) : Ending.returned (.int .u32 (uv a)) = .returned (.int .u32 (uv b)) := by rw [h]
end Go.Proofs.YtfjkejdnbegomaaDoor.Md5

namespace Go.Proofs.YtfjkejdnbegomaaDoor.Md5
open Go.RowKit

theorem rol_uv (x : Wd) (n : Nat) : bits BinOp.or IntKind.u32 (uv x * 2 ^ n % 4294967296) (uv x / 2 ^ (32 - n)) = uv (rolW x n) := by
  rw [shr_uv, shl_mod, or_uv]
  rfl
set_option maxHeartbeats 400000 in
theorem rol_any (x : Wd) (n : Nat) (w : World) (h0 : 0 < n) (hn : n < 32) : Calls Tryd.prog 23 #[.int .u32 (uv x), .int .i64 n] w fun e w' => e = .returned (.int .u32 (uv (rolW x n))) ∧ ∃ m, w' = w.drewN m := by
  have HR := Lib.hid (rol_uv x n)
  go_enter Tryd.func23, Tryd.ntmps23
  go_wp2_with fail
  go_quiet (fail)
  go_wp2
  go_ret
  exact ⟨by rw [← HR.out]; rfl, nq, rfl⟩
theorem rol_int (x : Wd) (m : Int) (w : World) (h0 : 0 < m) (hn : m < 32) : Calls Tryd.prog 23 #[.int .u32 (uv x), .int .i64 m] w fun e w' => e = .returned (.int .u32 (uv (rolW x m.toNat))) ∧ ∃ m, w' = w.drewN m := by
  obtain ⟨n, rfl⟩ := Int.eq_ofNat_of_zero_le (Int.le_of_lt h0)
  exact rol_any x n w (by omega) (by omega)
end Go.Proofs.YtfjkejdnbegomaaDoor.Md5

namespace Go.Proofs.YtfjkejdnbegomaaDoor.Md5
open Go.RowKit

/-- Words as cells. -/
def wcells (xs : List Wd) : Array Value := (xs.map fun x => Value.int .u32 (uv x)).toArray
/-- Bytes as cells. -/
def bcells (xs : List Int) : Array Value := (xs.map (Value.int .u8)).toArray
/-- A state as cells. -/
def scells (hs : List Wd) (n : Int) : Array Value := (hs.map (fun x => Value.int .u32 (uv x)) ++ [Value.int .u64 n]).toArray
theorem wcells_size (xs : List Wd) : (wcells xs).size = xs.length := by simp [wcells]
theorem bcells_size (xs : List Int) : (bcells xs).size = xs.length := by simp [bcells]
theorem scells_size (hs : List Wd) (n : Int) : (scells hs n).size = hs.length + 1 := by simp [scells]
theorem wcells_at (xs : List Wd) (j : Nat) (h : j < xs.length) : (wcells xs)[j]? = some (.int .u32 (uv (xs.getD j 0#32))) := by
  simp [wcells, List.getD_eq_getElem?_getD, List.getElem?_eq_getElem h]
theorem bcells_at (xs : List Int) (j : Nat) (h : j < xs.length) : (bcells xs)[j]? = some (.int .u8 (xs.getD j 0)) := by
  simp [bcells, List.getD_eq_getElem?_getD, List.getElem?_eq_getElem h]
theorem scells_at (hs : List Wd) (n : Int) (j : Nat) (h : j < hs.length) : (scells hs n)[j]? = some (.int .u32 (uv (hs.getD j 0#32))) := by
  simp [scells, List.getD_eq_getElem?_getD, List.getElem?_append_left, h]
theorem scells_last (hs : List Wd) (n : Int) (j : Nat) (h : hs.length = j) : (scells hs n)[j]? = some (.int .u64 n) := by
  subst h
  simp [scells]
theorem wcells_set (xs : List Wd) (j : Nat) (x : Wd) : (wcells xs).setIfInBounds j (.int .u32 (uv x)) = wcells (xs.set j x) := by
  simp [wcells, List.map_set]
theorem bcells_set (xs : List Int) (j : Nat) (x : Int) : (bcells xs).setIfInBounds j (.int .u8 x) = bcells (xs.set j x) := by
  simp [bcells, List.map_set]
theorem scells_set (hs : List Wd) (n : Int) (j : Nat) (x : Wd) (h : j < hs.length) : (scells hs n).setIfInBounds j (.int .u32 (uv x)) = scells (hs.set j x) n := by
  simp [scells, List.map_set, List.set_append_left, h]
theorem scells_setLast (hs : List Wd) (n m : Int) (j : Nat) (h : hs.length = j) : (scells hs n).setIfInBounds j (.int .u64 m) = scells hs m := by
  subst h
  simp [scells, List.set_append_right]
theorem wcells_one (xs : List Wd) : (wcells xs).all (·.oneCell') = true := by
  simp [wcells, List.all_map, Value.oneCell']
theorem bcells_one (xs : List Int) : (bcells xs).all (·.oneCell') = true := by
  simp [bcells, List.all_map, Value.oneCell']
theorem scells_one (hs : List Wd) (n : Int) : (scells hs n).all (·.oneCell') = true := by
  simp [scells, List.all_map, List.all_append, Value.oneCell']

/-- The block g, known whole; its cells may be written. -/
def Row (w : World) (g : Nat) (t : TypeId) (cs : Array Value) : Prop := w.heap[g]? = some (.cells cs t (0, 0))
section
variable {w w' : World} {g : Nat} {t : TypeId} {cs : Array Value}
theorem Row.lt (h : Row w g t cs) : g < w.heap.size := by
  rcases Nat.lt_or_ge g w.heap.size with h' | h'
  · exact h'
  · unfold Row at h
    rw [Array.getElem?_eq_none h'] at h
    cases h
theorem Row.cell (h : Row w g t cs) {j : Nat} {v : Value} (hv : cs[j]? = some v) : w.cell? ⟨g, j, none⟩ = some v := (cell_of_row w g j cs t (0, 0) h).trans hv
theorem Row.free (h : Row w g t cs) (j : Nat) : w.frozen? ⟨g, j, none⟩ = false := frozen_of_row w g j cs t h
theorem Row.keepB {B : Nat} (h : Row w g t cs) (hb : Below B w w') (hg : g < B) : Row w' g t cs := (hb.block g hg).trans h
theorem Row.keep (h : Row w g t cs) (hb : Below w.heap.size w w') : Row w' g t cs := h.keepB hb h.lt
theorem Row.set (h : Row w g t cs) (j : Nat) (v : Value) : Row (w.setCell ⟨g, j, none⟩ v) g t (cs.setIfInBounds j v) := heap_setCell_same w g j cs t v h
theorem Row.other (h : Row w g t cs) {b : Nat} (hb : g ≠ b) (j : Nat) (v : Value) : Row (w.setCell ⟨b, j, none⟩ v) g t cs := (heap_setCell_other w ⟨b, j, none⟩ g v hb).trans h
theorem Row.setRow (h : Row w g t cs) (c : Array Value) : Row (w.setRow g c) g t c := setRow_heap w g cs c t (0, 0) h
theorem Row.otherRow (h : Row w g t cs) {b : Nat} (hb : g ≠ b) (c : Array Value) : Row (w.setRow b c) g t cs := (setRow_other w b g c hb).trans h
theorem Row.drew (h : Row w g t cs) : Row w.drew g t cs := h
theorem Row.drewN (h : Row w g t cs) (n : Nat) : Row (w.drewN n) g t cs := h
theorem Row.new (w : World) (t : TypeId) (cs : Array Value) : Row (w.alloc (.cells cs t)) w.heap.size t cs := heap_alloc_new w _
theorem Row.old (h : Row w g t cs) (o : Obj) : Row (w.alloc o) g t cs := (heap_alloc_old w o h.lt).trans h
theorem below_setRow {B : Nat} {a : World} (h : Below B a w) {b : Nat} (hb : B ≤ b) (c : Array Value) : Below B a (w.setRow b c) :=
  ⟨h.os, h.tape, h.output, by rw [setRow_size]; exact h.size, fun k hk => (setRow_other w b k c (by omega)).trans (h.block k hk)⟩
theorem below_drewN {B : Nat} {a : World} (h : Below B a w) (n : Nat) : Below B a (w.drewN n) := ⟨h.os, h.tape, h.output, h.size, h.block⟩
end
theorem Tryd.size43 : (Tryd.prog.info? 43).map (·.size) = some 16 := by kernel_rfl
theorem Tryd.size32 : (Tryd.prog.info? 32).map (·.size) = some 64 := by kernel_rfl
theorem Tryd.size28 : (Tryd.prog.info? 28).map (·.size) = some 4 := by kernel_rfl
theorem Tryd.size31 : (Tryd.prog.info? 31).map (·.size) = some 5 := by kernel_rfl
theorem Tryd.size23 : (Tryd.prog.info? 23).map (·.size) = some 16 := by kernel_rfl
end Go.Proofs.YtfjkejdnbegomaaDoor.Md5

namespace Go.Proofs.YtfjkejdnbegomaaDoor.Md5

/-- The first state's words. -/
def h0W : List Wd := [1732584193#32, 4023233417#32, 2562383102#32, 271733878#32]
/-- The constants. -/
def kW : List Wd := [3614090360#32, 3905402710#32, 606105819#32, 3250441966#32, 4118548399#32, 1200080426#32, 2821735955#32, 4249261313#32, 1770035416#32, 2336552879#32, 4294925233#32, 2304563134#32, 1804603682#32, 4254626195#32, 2792965006#32, 1236535329#32, 4129170786#32, 3225465664#32, 643717713#32, 3921069994#32, 3593408605#32, 38016083#32, 3634488961#32, 3889429448#32, 568446438#32, 3275163606#32, 4107603335#32, 1163531501#32, 2850285829#32, 4243563512#32, 1735328473#32, 2368359562#32, 4294588738#32, 2272392833#32, 1839030562#32, 4259657740#32, 2763975236#32, 1272893353#32, 4139469664#32, 3200236656#32, 681279174#32, 3936430074#32, 3572445317#32, 76029189#32, 3654602809#32, 3873151461#32, 530742520#32, 3299628645#32, 4096336452#32, 1126891415#32, 2878612391#32, 4237533241#32, 1700485571#32, 2399980690#32, 4293915773#32, 2240044497#32, 1873313359#32, 4264355552#32, 2734768916#32, 1309151649#32, 4149444226#32, 3174756917#32, 718787259#32, 3951481745#32]
theorem h0W_length : h0W.length = 4 := rfl
theorem kW_length : kW.length = 64 := rfl
set_option maxRecDepth 100000 in
theorem sum_nil : (sumW kW h0W []).getD 0 0 = 212 := by decide +kernel
end Go.Proofs.YtfjkejdnbegomaaDoor.Md5

/- A node and its bytes (plain mathematics): what keys begin with, entries one behind the other, when a node is right; what is read off its bytes, piece by piece; that no two right nodes have the same bytes; how long they are. No conditions but those that stand in each lemma. | What has been read of bytes, against all nodes that have these bytes (plain mathematics): a step at a time; where a step fails, no right node has them. No conditions but those that stand in each lemma. -/
import Derived.Test.YtnoofmdhhlcbkaaLex
import Derived.Test.YtnoofmdhhlcbkaaOneNums
import Derived.Test.YtnoofmdhhlcbkaaText
import Derived.Test.YtnoofmdhhlcbkaaPutNums

namespace Go.Proofs.Ytnoofmdhhlcbkaa
open Go.RowKit
namespace Lf

/-- A node. -/
structure Nd where
  level : Int
  keys : List (List Int)
  vals : List (List Int)
  kids : List Pt
/-- Its parts are what their types hold. -/
structure Nd.Ok (n : Nd) : Prop where
  lo : -9223372036854775808 ≤ n.level
  hi : n.level ≤ 9223372036854775807
  keysB : ∀ l ∈ n.keys, IsBytes l
  valsB : ∀ l ∈ n.vals, IsBytes l
  kidsB : ∀ p ∈ n.kids, p.Ok
def Nd.zero : Nd := ⟨0, [], [], []⟩
theorem Nd.zero_ok : Nd.zero.Ok := ⟨by decide, by decide, (fun l hl => by cases hl), (fun l hl => by cases hl), (fun l hl => by cases hl)⟩
theorem getD_bytes {ls : List (List Int)} (h : ∀ l ∈ ls, IsBytes l) (i : Nat) : IsBytes (ls.getD i []) := by
  rw [List.getD_eq_getElem?_getD]
  cases e : ls[i]? with
  | none => intro x hx; cases hx
  | some l => exact h l (List.mem_of_getElem? e)
theorem getD_ok {ps : List Pt} (h : ∀ p ∈ ps, p.Ok) (i : Nat) : (ps.getD i Pt.zero).Ok := by
  rw [List.getD_eq_getElem?_getD]
  cases e : ps[i]? with
  | none => exact Pt.zero_ok
  | some p => exact h p (List.mem_of_getElem? e)
theorem take_next {α : Type} (d : α) (ls : List α) (i : Nat) (h : i < ls.length) : ls.take (i + 1) = ls.take i ++ [ls.getD i d] := by
  rw [List.take_add_one, List.getElem?_eq_getElem h, List.getD_eq_getElem?_getD, List.getElem?_eq_getElem h]; rfl

/-- How many bytes two texts begin with alike. -/
def sameOf : List Int → List Int → Nat
  | x :: xs, y :: ys => if x = y then sameOf xs ys + 1 else 0
  | [], _ => 0
  | _ :: _, [] => 0
theorem same_none (xs : List Int) : sameOf xs [] = 0 := by cases xs <;> rfl
theorem same_le : ∀ xs ys : List Int, sameOf xs ys ≤ xs.length ∧ sameOf xs ys ≤ ys.length
  | [], _ => ⟨Nat.zero_le _, Nat.zero_le _⟩
  | _ :: _, [] => ⟨Nat.zero_le _, Nat.zero_le _⟩
  | x :: xs, y :: ys => by
    have := same_le xs ys
    rw [sameOf, List.length_cons, List.length_cons]
    split <;> omega
theorem same_take : ∀ xs ys : List Int, xs.take (sameOf xs ys) = ys.take (sameOf xs ys)
  | [], _ => by simp [sameOf]
  | _ :: _, [] => by simp [sameOf]
  | x :: xs, y :: ys => by
    rw [sameOf]
    split
    · rename_i h; rw [List.take_succ_cons, List.take_succ_cons, h, same_take xs ys]
    · rfl
theorem same_eq : ∀ (k : Nat) (xs ys : List Int), k ≤ xs.length → k ≤ ys.length → (∀ j, j < k → xs.getD j 0 = ys.getD j 0) → (k < xs.length → k < ys.length → xs.getD k 0 ≠ ys.getD k 0) → sameOf xs ys = k
  | 0, [], _, _, _, _, _ => rfl
  | 0, _ :: _, [], _, _, _, _ => rfl
  | 0, x :: xs, y :: ys, _, _, _, h => by
    have := h (Nat.succ_pos _) (Nat.succ_pos _)
    rw [sameOf, if_neg (by simpa using this)]
  | k + 1, [], _, h, _, _, _ => absurd h (by simp)
  | k + 1, _ :: _, [], _, h, _, _ => absurd h (by simp)
  | k + 1, x :: xs, y :: ys, h1, h2, h3, h4 => by
    have h0 : x = y := by simpa using h3 0 (Nat.succ_pos _)
    rw [sameOf, if_pos h0, same_eq k xs ys (by simpa using h1) (by simpa using h2) (fun j hj => by simpa using h3 (j + 1) (by omega)) (fun a b => by simpa using h4 (by simpa using a) (by simpa using b))]
/-- What a key begins with, of the one ahead, and the others. -/
theorem key_back (key last : List Int) : last.take (sameOf key last) ++ key.drop (sameOf key last) = key := by
  rw [← same_take, List.take_append_drop]

/-- Bytes behind how many they are. -/
def textL (l : List Int) : List Int := shortOf l.length ++ l
theorem textL_bytes {l : List Int} (h : IsBytes l) : IsBytes (textL l) := IsBytes.append (shortOf_bytes _) h
theorem textOf_L (l : List Int) (h : IsBytes l) : textOf (strOfNums l) = textL l := by
  have e := numsOf_strOfNums l h
  unfold textOf textL
  rw [e]
  have := numsOf_length (strOfNums l)
  rw [e] at this
  rw [this]
theorem textL_read (l zs : List Int) (most : Int) (h : (l.length : Int) ≤ most) (h2 : l.length < 18446744073709551616) : readText (textL l ++ zs) most = (l, (textL l).length, 0) := by
  have hr : readOf (textL l ++ zs) = (l.length, (shortOf l.length).length, 0) := by
    unfold textL
    rw [List.append_assoc]
    exact read_short _ h2 _
  rw [readText_ok hr (by omega) (by unfold textL; simp only [List.length_append]; omega)]
  unfold textL
  rw [List.append_assoc, List.drop_left, List.take_left, List.length_append]
theorem short_two {m : Nat} (h : m < 16384) : (shortOf m).length ≤ 2 := shortOf_len 1 m (by omega)
theorem short_one {m : Nat} (h : m < 128) : (shortOf m).length = 1 := by rw [shortOf_last m h]; rfl
theorem short_mono {a b : Nat} (hab : a ≤ b) (hb : b < 16384) : (shortOf a).length ≤ (shortOf b).length := by
  by_cases h : b < 128
  · rw [short_one h, short_one (by omega)]; omega
  · have h1 : (shortOf b).length = (shortOf (b / 128)).length + 1 := by rw [shortOf_more b (by omega)]; rfl
    have h2 := shortOf_pos (b / 128)
    have h3 := short_two (m := a) (by omega)
    omega

/-- The key ahead. -/
def lastK (keys : List (List Int)) (i : Nat) : List Int := if i = 0 then [] else keys.getD (i - 1) []
theorem last_zero (keys : List (List Int)) : lastK keys 0 = [] := rfl
theorem last_next (keys : List (List Int)) (i : Nat) : lastK keys (i + 1) = keys.getD i [] := by unfold lastK; rw [if_neg (by omega)]; rfl
def Nd.key (n : Nd) (i : Nat) : List Int := n.keys.getD i []
def Nd.val (n : Nd) (i : Nat) : List Int := n.vals.getD i []
def Nd.kid (n : Nd) (i : Nat) : Pt := n.kids.getD i Pt.zero
def Nd.same (n : Nd) (i : Nat) : Nat := sameOf (n.key i) (lastK n.keys i)
/-- An entry's bytes: its key, and its value or its child. -/
def keyB (n : Nd) (i : Nat) : List Int := shortOf (n.same i) ++ textL ((n.key i).drop (n.same i))
def bodyB (n : Nd) (i : Nat) : List Int := if n.level = 0 then textL (n.val i) else putOf (n.kid i)
def entB (n : Nd) (i : Nat) : List Int := keyB n i ++ bodyB n i
def headB (n : Nd) : List Int := shortOf n.level.toNat ++ shortOf n.keys.length
/-- The first so many entries; those from one on. -/
def upB (n : Nd) (k : Nat) : List Int := (List.range k).flatMap (entB n)
def fromB (n : Nd) (i : Nat) : List Int := (List.range' i (n.keys.length - i)).flatMap (entB n)
def allB (n : Nd) : List Int := headB n ++ upB n n.keys.length
theorem up_zero (n : Nd) : upB n 0 = [] := rfl
theorem up_next (n : Nd) (k : Nat) : upB n (k + 1) = upB n k ++ entB n k := by
  unfold upB
  rw [List.range_succ, List.flatMap_append]
  simp
theorem up_le (n : Nd) : ∀ {k m : Nat}, k ≤ m → (upB n k).length ≤ (upB n m).length
  | k, m, h => by
    induction h with
    | refl => exact Nat.le_refl _
    | step _ ih => rw [up_next, List.length_append]; omega
theorem from_next (n : Nd) (i : Nat) (h : i < n.keys.length) : fromB n i = entB n i ++ fromB n (i + 1) := by
  unfold fromB
  rw [show n.keys.length - i = n.keys.length - (i + 1) + 1 by omega, List.range'_succ, List.flatMap_cons]
theorem from_end (n : Nd) : fromB n n.keys.length = [] := by unfold fromB; rw [Nat.sub_self]; rfl
theorem all_from (n : Nd) : allB n = headB n ++ fromB n 0 := by
  unfold allB fromB upB
  rw [Nat.sub_zero, List.range_eq_range']
theorem ent_bytes {n : Nd} (h : n.Ok) (i : Nat) : IsBytes (entB n i) := by
  unfold entB keyB bodyB
  refine IsBytes.append (IsBytes.append (shortOf_bytes _) (textL_bytes fun x hx => getD_bytes h.keysB i x (List.mem_of_mem_drop hx))) ?_
  split
  · exact textL_bytes (getD_bytes h.valsB i)
  · exact putOf_bytes _ (getD_ok h.kidsB i).shaB
theorem up_bytes {n : Nd} (h : n.Ok) : ∀ k, IsBytes (upB n k)
  | 0 => fun x hx => by cases hx
  | k + 1 => by rw [up_next]; exact (up_bytes h k).append (ent_bytes h k)
theorem all_bytes {n : Nd} (h : n.Ok) : IsBytes (allB n) := IsBytes.append (IsBytes.append (shortOf_bytes _) (shortOf_bytes _)) (up_bytes h _)

/-- Is an entry's key, is its value or its child, right? -/
def keyOk (n : Nd) (i : Nat) : Bool := decide ((n.key i).length ≤ 160) && (decide (i = 0) || Lex.lexB (lastK n.keys i) (n.key i))
def bodyOk (n : Nd) (i : Nat) : Bool := if n.level = 0 then decide ((n.val i).length ≤ 1024) else (n.kid i).right
structure Start (n : Nd) : Prop where
  lo : 0 ≤ n.level
  hi : n.level ≤ 12
  one : 1 ≤ n.keys.length
  most : n.keys.length ≤ 4096
  leaf : n.level = 0 → n.vals.length = n.keys.length ∧ n.kids.length = 0
  above : 0 < n.level → n.kids.length = n.keys.length ∧ n.vals.length = 0
structure Shape (n : Nd) : Prop where
  start : Start n
  key : ∀ i, i < n.keys.length → keyOk n i = true
  body : ∀ i, i < n.keys.length → bodyOk n i = true
structure Right (n : Nd) : Prop where
  shape : Shape n
  len : (allB n).length ≤ 4096
section
variable {n : Nd}
theorem Shape.keyLen (h : Shape n) {i : Nat} (hi : i < n.keys.length) : (n.key i).length ≤ 160 := by
  have := h.key i hi
  unfold keyOk at this
  rw [Bool.and_eq_true, decide_eq_true_eq] at this
  exact this.1
theorem Shape.rises (h : Shape n) {i : Nat} (hi : i + 1 < n.keys.length) : Lex.lexB (n.key i) (n.key (i + 1)) = true := by
  have := h.key (i + 1) hi
  unfold keyOk at this
  rw [Bool.and_eq_true, Bool.or_eq_true, decide_eq_true_eq, decide_eq_true_eq, last_next] at this
  rcases this.2 with e | e
  · omega
  · exact e
theorem Shape.below (h : Shape n) : ∀ {i j : Nat}, i < j → j < n.keys.length → Lex.lexB (n.key i) (n.key j) = true
  | i, j, hij, hj => by
    induction hij with
    | refl => exact h.rises hj
    | step _ ih => exact Lex.lex_trans (ih (by omega)) (h.rises hj)
theorem Shape.valLen (h : Shape n) (h0 : n.level = 0) {i : Nat} (hi : i < n.keys.length) : (n.val i).length ≤ 1024 := by
  have := h.body i hi
  unfold bodyOk at this
  rw [if_pos h0, decide_eq_true_eq] at this
  exact this
theorem Shape.kidRight (h : Shape n) (h0 : 0 < n.level) {i : Nat} (hi : i < n.keys.length) : (n.kid i).right = true := by
  have := h.body i hi
  unfold bodyOk at this
  rw [if_neg (by omega)] at this
  exact this
theorem same_small (n : Nd) (i : Nat) : n.same i ≤ (n.key i).length := (same_le _ _).1
theorem same_last (n : Nd) (i : Nat) : n.same i ≤ (lastK n.keys i).length := (same_le _ _).2
/-- What is read off a node's bytes, from one entry on. -/
theorem read_head (h : Start n) (zs : List Int) : readOf (headB n ++ zs) = (n.level.toNat, 1, 0) ∧ (headB n ++ zs).drop 1 = shortOf n.keys.length ++ zs := by
  have l1 : (shortOf n.level.toNat).length = 1 := short_one (by have := h.hi; omega)
  unfold headB
  rw [List.append_assoc, read_short _ (by have := h.hi; omega), l1]
  refine ⟨rfl, ?_⟩
  rw [← l1, List.drop_left]
theorem read_many (h : Start n) (zs : List Int) : readOf (shortOf n.keys.length ++ zs) = (n.keys.length, (shortOf n.keys.length).length, 0) := read_short _ (by have := h.most; omega) _
theorem from_key (i : Nat) (hi : i < n.keys.length) : fromB n i = shortOf (n.same i) ++ (textL ((n.key i).drop (n.same i)) ++ (bodyB n i ++ fromB n (i + 1))) := by
  rw [from_next n i hi, entB, keyB, List.append_assoc, List.append_assoc]
theorem read_same (h : Shape n) (i : Nat) (hi : i < n.keys.length) : readOf (fromB n i) = (n.same i, (shortOf (n.same i)).length, 0) := by
  rw [from_key i hi]
  exact read_short _ (by have := same_small n i; have := h.keyLen hi; omega) _
theorem drop_same (i : Nat) (hi : i < n.keys.length) : (fromB n i).drop (shortOf (n.same i)).length = textL ((n.key i).drop (n.same i)) ++ (bodyB n i ++ fromB n (i + 1)) := by
  rw [from_key i hi, List.drop_left]
theorem read_rest (h : Shape n) (i : Nat) (hi : i < n.keys.length) (zs : List Int) (most : Int) (hm : 160 ≤ most) : readText (textL ((n.key i).drop (n.same i)) ++ zs) most = ((n.key i).drop (n.same i), (textL ((n.key i).drop (n.same i))).length, 0) :=
  textL_read _ _ _ (by rw [List.length_drop]; have := h.keyLen hi; omega) (by rw [List.length_drop]; have := h.keyLen hi; omega)
theorem read_val (h : Shape n) (h0 : n.level = 0) (i : Nat) (hi : i < n.keys.length) (zs : List Int) (most : Int) (hm : 1024 ≤ most) : readText (bodyB n i ++ zs) most = (n.val i, (bodyB n i).length, 0) := by
  unfold bodyB
  rw [if_pos h0]
  exact textL_read _ _ _ (by have := h.valLen h0 hi; omega) (by have := h.valLen h0 hi; omega)
theorem read_right {p : Pt} (hok : p.Ok) (hr : p.right = true) (zs : List Int) : readPt (putOf p ++ zs) = p ∧ readErr (putOf p ++ zs) = 0 := by
  have h := hr
  unfold Pt.right at h
  rw [decide_eq_true_eq] at h
  have hs := (secs_bounds p.len).1
  exact read_put hok.shaL (raw_put p zs hok.shaL (by omega) (by omega) (by omega) (by omega) (by omega) hok.birth2 hok.crc1 hok.crc2) (.inr hr)
theorem body_kid (h0 : 0 < n.level) (i : Nat) : bodyB n i = putOf (n.kid i) := by unfold bodyB; rw [if_neg (by omega)]
theorem read_kid (h : Shape n) (hok : n.Ok) (h0 : 0 < n.level) (i : Nat) (hi : i < n.keys.length) (zs : List Int) : readPt (bodyB n i ++ zs) = n.kid i ∧ readErr (bodyB n i ++ zs) = 0 ∧ (bodyB n i ++ zs).drop 52 = zs := by
  have hk := getD_ok hok.kidsB i
  obtain ⟨h1, h2⟩ := read_right hk (h.kidRight h0 hi) zs
  rw [body_kid h0]
  refine ⟨h1, h2, ?_⟩
  have e := putOf_length _ hk.shaL
  conv => lhs; rw [← e]
  exact List.drop_left
/-- An entry's bytes are at most its weight: as if it had nothing of the key ahead. -/
def weightB (n : Nd) (i : Nat) : Nat := 1 + (textL (n.key i)).length + (if n.level = 0 then (textL (n.val i)).length else 52)
theorem key_weight {s l : Nat} (h : s ≤ l) (hl : l ≤ 160) : (shortOf s).length + (shortOf (l - s)).length + (l - s) ≤ 1 + (shortOf l).length + l := by
  have h1 := short_mono (a := l - s) (b := l) (by omega) (by omega)
  by_cases hs : s < 128
  · rw [short_one hs]; omega
  · have := short_two (m := s) (by omega); omega
theorem ent_weight (h : Shape n) (hok : n.Ok) (i : Nat) (hi : i < n.keys.length) : (entB n i).length ≤ weightB n i := by
  have h1 := key_weight (same_small n i) (h.keyLen hi)
  unfold entB keyB bodyB weightB textL
  simp only [List.length_append, List.length_drop]
  split
  · simp only [List.length_append]; omega
  · rw [putOf_length (n.kid i) (getD_ok hok.kidsB i).shaL]; omega
def sumW (n : Nd) : Nat → Nat
  | 0 => 0
  | k + 1 => sumW n k + weightB n k
theorem up_weight (h : Shape n) (hok : n.Ok) : ∀ k, k ≤ n.keys.length → (upB n k).length ≤ sumW n k
  | 0, _ => Nat.le_refl _
  | k + 1, hk => by
    have := up_weight h hok k (by omega)
    have := ent_weight h hok k (by omega)
    rw [up_next, List.length_append, sumW]
    omega
theorem head_len (h : Start n) : (headB n).length ≤ 3 := by
  have := short_one (m := n.level.toNat) (by have := h.hi; omega)
  have := short_two (m := n.keys.length) (by have := h.most; omega)
  unfold headB
  rw [List.length_append]
  omega
theorem all_weight (h : Shape n) (hok : n.Ok) : (allB n).length ≤ 4 + sumW n n.keys.length := by
  have := head_len h.start
  have := up_weight h hok _ (Nat.le_refl _)
  unfold allB
  rw [List.length_append]
  omega
/-- How many bytes texts have in all. -/
def lensOf (ls : List (List Int)) (k : Nat) : Nat := ((ls.take k).map List.length).sum
theorem lens_next (ls : List (List Int)) (k : Nat) : lensOf ls (k + 1) = lensOf ls k + (ls.getD k []).length := by
  unfold lensOf
  by_cases h : k < ls.length
  · rw [take_next [] ls k h, List.map_append, List.sum_append]; simp
  · rw [List.take_of_length_le (by omega), List.take_of_length_le (by omega), List.getD_eq_getElem?_getD, List.getElem?_eq_none (by omega)]; rfl
theorem ent_len (h : Shape n) (hok : n.Ok) (i : Nat) (hi : i < n.keys.length) : (entB n i).length ≤ 60 + (n.key i).length + (n.val i).length := by
  have h0 := ent_weight h hok i hi
  have h1 := short_two (m := (n.key i).length) (by have := h.keyLen hi; omega)
  unfold weightB textL at h0
  simp only [List.length_append] at h0
  by_cases hl : n.level = 0
  · rw [if_pos hl] at h0
    have h2 := short_two (m := (n.val i).length) (by have := h.valLen hl hi; omega)
    omega
  · rw [if_neg hl] at h0; omega
theorem up_len (h : Shape n) (hok : n.Ok) : ∀ k, k ≤ n.keys.length → (upB n k).length ≤ 60 * k + lensOf n.keys k + lensOf n.vals k
  | 0, _ => Nat.zero_le _
  | k + 1, hk => by
    have h1 := up_len h hok k (by omega)
    have h2 := ent_len h hok k (by omega)
    rw [up_next, List.length_append, lens_next, lens_next]
    unfold Nd.key Nd.val at h2
    omega
end
/-- No two right nodes have the same bytes. -/
theorem right_one {n m : Nd} (hn : Shape n) (hm : Shape m) (on : n.Ok) (om : m.Ok) (h : allB n = allB m) : n = m := by
  rw [all_from, all_from] at h
  obtain ⟨a1, a2⟩ := read_head hn.start (fromB n 0)
  obtain ⟨b1, b2⟩ := read_head hm.start (fromB m 0)
  rw [h, b1] at a1
  have hl : n.level = m.level := by
    have := congrArg Prod.fst a1
    have h1 := hn.start.lo
    have h2 := hm.start.lo
    simp only at this
    omega
  rw [h, b2] at a2
  have c1 := read_many hn.start (fromB n 0)
  have c2 := read_many hm.start (fromB m 0)
  rw [← a2, c2] at c1
  have hk : m.keys.length = n.keys.length := congrArg Prod.fst c1
  have h0 : fromB n 0 = fromB m 0 := by
    rw [hk] at a2
    exact (List.append_cancel_left a2).symm
  have key : ∀ i, i ≤ n.keys.length → n.keys.take i = m.keys.take i ∧ (n.level = 0 → n.vals.take i = m.vals.take i) ∧ (0 < n.level → n.kids.take i = m.kids.take i) ∧ fromB n i = fromB m i := by
    intro i
    induction i with
    | zero => intro _; exact ⟨rfl, fun _ => rfl, fun _ => rfl, h0⟩
    | succ i ih =>
      intro hi
      obtain ⟨k1, k2, k3, k4⟩ := ih (by omega)
      have hi' : i < m.keys.length := by omega
      have hlast : lastK n.keys i = lastK m.keys i := by
        cases i with
        | zero => rfl
        | succ j =>
          rw [last_next, last_next, List.getD_eq_getElem?_getD, List.getD_eq_getElem?_getD, ← List.getElem?_take_of_lt (show j < j + 1 by omega), k1, List.getElem?_take_of_lt (show j < j + 1 by omega)]
      have r1 := read_same hn i hi
      have r2 := read_same hm i hi'
      rw [k4, r2] at r1
      have hs : m.same i = n.same i := congrArg Prod.fst r1
      have d1 := drop_same (n := n) i hi
      have d2 := drop_same (n := m) i hi'
      rw [k4, ← hs, d2] at d1
      have t1 := read_rest hn i hi (bodyB n i ++ fromB n (i + 1)) 160 (by omega)
      have t2 := read_rest hm i hi' (bodyB m i ++ fromB m (i + 1)) 160 (by omega)
      rw [← hs, ← d1, t2] at t1
      have hd : (m.key i).drop (m.same i) = (n.key i).drop (m.same i) := congrArg Prod.fst t1
      have hkey : n.key i = m.key i := by
        have e1 := key_back (n.key i) (lastK n.keys i)
        have e2 := key_back (m.key i) (lastK m.keys i)
        change (lastK n.keys i).take (n.same i) ++ (n.key i).drop (n.same i) = _ at e1
        change (lastK m.keys i).take (m.same i) ++ (m.key i).drop (m.same i) = _ at e2
        rw [← e1, ← e2, hlast, ← hs, hd]
      rw [hd] at d1
      have d3 := List.append_cancel_left d1
      have keys : n.keys.take (i + 1) = m.keys.take (i + 1) := by
        rw [take_next [] _ _ hi, take_next [] _ _ hi', k1]
        unfold Nd.key at hkey
        rw [hkey]
      by_cases hlev : n.level = 0
      · have hlevm : m.level = 0 := by omega
        have v1 := read_val hn hlev i hi (fromB n (i + 1)) 1024 (by omega)
        have v2 := read_val hm hlevm i hi' (fromB m (i + 1)) 1024 (by omega)
        rw [← d3, v2] at v1
        have hv : m.val i = n.val i := congrArg Prod.fst v1
        have hb : bodyB m i = bodyB n i := by unfold bodyB; rw [if_pos hlev, if_pos hlevm, hv]
        rw [hb] at d3
        refine ⟨keys, fun _ => ?_, fun h => by omega, (List.append_cancel_left d3).symm⟩
        have l1 := (hn.start.leaf hlev).1
        have l2 := (hm.start.leaf hlevm).1
        rw [take_next [] _ _ (by omega), take_next [] _ _ (by omega), k2 hlev]
        unfold Nd.val at hv
        rw [hv]
      · have hlo := hn.start.lo
        have hp : 0 < n.level := by omega
        have hpm : 0 < m.level := by omega
        obtain ⟨p1, _, p3⟩ := read_kid hn on hp i hi (fromB n (i + 1))
        obtain ⟨q1, _, q3⟩ := read_kid hm om hpm i hi' (fromB m (i + 1))
        rw [← d3, q1] at p1
        rw [← d3, q3] at p3
        refine ⟨keys, fun h => absurd h hlev, fun _ => ?_, p3.symm⟩
        have l1 := (hn.start.above hp).1
        have l2 := (hm.start.above hpm).1
        rw [take_next Pt.zero _ _ (by omega), take_next Pt.zero _ _ (by omega), k3 hp]
        unfold Nd.kid at p1
        rw [p1]
  obtain ⟨k1, k2, k3, _⟩ := key n.keys.length (Nat.le_refl _)
  have e1 : n.keys = m.keys := by
    rw [List.take_length, List.take_of_length_le (by omega)] at k1
    exact k1
  have e2 : n.vals = m.vals := by
    by_cases hlev : n.level = 0
    · have := k2 hlev
      have l1 := (hn.start.leaf hlev).1
      have l2 := (hm.start.leaf (by omega)).1
      rw [List.take_of_length_le (by omega), List.take_of_length_le (by omega)] at this
      exact this
    · have hlo := hn.start.lo
      have l1 := (hn.start.above (by omega)).2
      have l2 := (hm.start.above (by omega)).2
      rw [List.length_eq_zero_iff.1 l1, List.length_eq_zero_iff.1 l2]
  have e3 : n.kids = m.kids := by
    by_cases hlev : n.level = 0
    · have l1 := (hn.start.leaf hlev).2
      have l2 := (hm.start.leaf (by omega)).2
      rw [List.length_eq_zero_iff.1 l1, List.length_eq_zero_iff.1 l2]
    · have hlo := hn.start.lo
      have := k3 (by omega)
      have l1 := (hn.start.above (by omega)).1
      have l2 := (hm.start.above (by omega)).1
      rw [List.take_of_length_le (by omega), List.take_of_length_le (by omega)] at this
      exact this
  cases n
  cases m
  simp only at hl e1 e2 e3
  rw [hl, e1, e2, e3]
end Lf
end Go.Proofs.Ytnoofmdhhlcbkaa

namespace Go.Proofs.Ytnoofmdhhlcbkaa
open Go.RowKit
namespace Lf

/-- No node of right shape has these bytes. -/
def NoNd (b : List Int) : Prop := ∀ N : Nd, N.Ok → Shape N → allB N ≠ b
/-- Whatever node of right shape has the bytes b: the first i entries are these, and the bytes behind them. -/
def Fits (b : List Int) (level : Int) (m i : Nat) (ks vs : List (List Int)) (ps : List Pt) (rest : List Int) : Prop :=
  ∀ N : Nd, N.Ok → Shape N → allB N = b → N.level = level ∧ N.keys.length = m ∧ N.keys.take i = ks ∧ (level = 0 → N.vals.take i = vs) ∧ (0 < level → N.kids.take i = ps) ∧ fromB N i = rest
theorem NoNd.fits {b : List Int} (h : NoNd b) {level : Int} {m i : Nat} {ks vs : List (List Int)} {ps : List Pt} {rest : List Int} : Fits b level m i ks vs ps rest := fun N h1 h2 h3 => absurd h3 (h N h1 h2)
section
variable {b rest : List Int} {level : Int} {m i : Nat} {ks vs : List (List Int)} {ps : List Pt}
theorem no_level (h : (readOf b).2.2 ≠ 0 ∨ 12 < (readOf b).1) : NoNd b := fun N _ hs e => by
  have h1 := (read_head hs.start (fromB N 0)).1
  rw [← all_from, e] at h1
  rw [h1] at h
  have := hs.start.hi
  have := hs.start.lo
  rcases h with h | h
  · exact h rfl
  · simp only at h; omega
theorem head_drop {N : Nd} (hs : Shape N) (e : allB N = b) : b.drop (readOf b).2.1 = shortOf N.keys.length ++ fromB N 0 := by
  have h1 := read_head hs.start (fromB N 0)
  rw [← all_from, e] at h1
  rw [h1.1]
  exact h1.2
theorem no_many (h : (readOf (b.drop (readOf b).2.1)).2.2 ≠ 0 ∨ 4096 < (readOf (b.drop (readOf b).2.1)).1) : NoNd b := fun N _ hs e => by
  rw [head_drop hs e, read_many hs.start] at h
  have := hs.start.most
  rcases h with h | h
  · exact h rfl
  · simp only at h; omega
theorem fits_start : Fits b ((readOf b).1 : Int) (readOf (b.drop (readOf b).2.1)).1 0 [] [] [] ((b.drop (readOf b).2.1).drop (readOf (b.drop (readOf b).2.1)).2.1) := fun N _ hs e => by
  have hd := head_drop hs e
  have h1 := (read_head hs.start (fromB N 0)).1
  rw [← all_from, e] at h1
  rw [hd, read_many hs.start, h1]
  refine ⟨?_, rfl, rfl, fun _ => rfl, fun _ => rfl, ?_⟩
  · have := hs.start.lo; simp only; omega
  · exact (List.drop_left ..).symm
/-- What stands in the bytes at an entry, for whatever node has them. -/
structure Entry (N : Nd) (i : Nat) (ks : List (List Int)) (rest : List Int) : Prop where
  num : readOf rest = (N.same i, (shortOf (N.same i)).length, 0)
  last : lastK N.keys i = lastK ks i
  small : N.same i ≤ (lastK ks i).length
  few : N.same i ≤ 160
  more : rest.drop (readOf rest).2.1 = textL ((N.key i).drop (N.same i)) ++ (bodyB N i ++ fromB N (i + 1))
  text : ∀ most : Int, 160 ≤ most → readText (rest.drop (readOf rest).2.1) most = ((N.key i).drop (N.same i), (textL ((N.key i).drop (N.same i))).length, 0)
  body : ∀ most : Int, 160 ≤ most → (rest.drop (readOf rest).2.1).drop (readText (rest.drop (readOf rest).2.1) most).2.1 = bodyB N i ++ fromB N (i + 1)
  key : (lastK ks i).take (readOf rest).1 ++ (N.key i).drop (N.same i) = N.key i
theorem last_take {keys ks : List (List Int)} {i : Nat} (h : keys.take i = ks) : lastK keys i = lastK ks i := by
  cases i with
  | zero => rfl
  | succ j => rw [last_next, last_next, ← h, List.getD_eq_getElem?_getD, List.getD_eq_getElem?_getD, List.getElem?_take_of_lt (show j < j + 1 by omega)]
theorem Fits.entry (h : Fits b level m i ks vs ps rest) (hi : i < m) {N : Nd} (ok : N.Ok) (hs : Shape N) (e : allB N = b) : Entry N i ks rest := by
  obtain ⟨_, h2, h3, _, _, h6⟩ := h N ok hs e
  subst h6
  have hi' : i < N.keys.length := by omega
  have hn := read_same hs i hi'
  have hl := last_take h3
  have hd := drop_same (n := N) i hi'
  have hm : (fromB N i).drop (readOf (fromB N i)).2.1 = textL ((N.key i).drop (N.same i)) ++ (bodyB N i ++ fromB N (i + 1)) := by rw [hn]; exact hd
  have ht : ∀ most : Int, 160 ≤ most → readText ((fromB N i).drop (readOf (fromB N i)).2.1) most = ((N.key i).drop (N.same i), (textL ((N.key i).drop (N.same i))).length, 0) := fun most hmost => by rw [hm]; exact read_rest hs i hi' _ most hmost
  refine ⟨hn, hl, by rw [← hl]; exact same_last N i, Nat.le_trans (same_small N i) (hs.keyLen hi'), hm, ht, fun most hmost => ?_, ?_⟩
  · rw [ht most hmost, hm]; exact List.drop_left
  · rw [hn, ← hl]; exact key_back _ _
theorem no_same (h : Fits b level m i ks vs ps rest) (hi : i < m) (hbad : (readOf rest).2.2 ≠ 0 ∨ (lastK ks i).length < (readOf rest).1 ∨ 160 < (readOf rest).1) : NoNd b := fun N ok hs e => by
  have E := h.entry hi ok hs e
  have := E.small
  have := E.few
  rw [E.num] at hbad
  simp only at hbad
  omega
theorem no_rest (h : Fits b level m i ks vs ps rest) (hi : i < m) (most : Int) (hm : 160 ≤ most) (hbad : (readText (rest.drop (readOf rest).2.1) most).2.2 ≠ 0) : NoNd b := fun N ok hs e => by
  have E := h.entry hi ok hs e
  rw [E.text most hm] at hbad
  exact hbad rfl
theorem no_val (h : Fits b level m i ks vs ps rest) (hi : i < m) (h0 : level = 0) (most most2 : Int) (hm : 160 ≤ most) (hm2 : 1024 ≤ most2)
    (hbad : (readText ((rest.drop (readOf rest).2.1).drop (readText (rest.drop (readOf rest).2.1) most).2.1) most2).2.2 ≠ 0) : NoNd b := fun N ok hs e => by
  have E := h.entry hi ok hs e
  obtain ⟨h1, h2, _⟩ := h N ok hs e
  rw [E.body most hm, read_val hs (by omega) i (by omega) _ most2 hm2] at hbad
  exact hbad rfl
theorem no_kid (h : Fits b level m i ks vs ps rest) (hi : i < m) (h0 : level ≠ 0) (most : Int) (hm : 160 ≤ most)
    (hbad : readErr ((rest.drop (readOf rest).2.1).drop (readText (rest.drop (readOf rest).2.1) most).2.1) ≠ 0) : NoNd b := fun N ok hs e => by
  have E := h.entry hi ok hs e
  obtain ⟨h1, h2, _⟩ := h N ok hs e
  have := hs.start.lo
  obtain ⟨_, k2, _⟩ := read_kid hs ok (by omega) i (by omega) (fromB N (i + 1))
  rw [E.body most hm, k2] at hbad
  exact hbad rfl
theorem Fits.keys (h : Fits b level m i ks vs ps rest) (hi : i < m) (most : Int) (hm : 160 ≤ most) {N : Nd} (ok : N.Ok) (hs : Shape N) (e : allB N = b) :
    N.keys.take (i + 1) = ks ++ [(lastK ks i).take (readOf rest).1 ++ (readText (rest.drop (readOf rest).2.1) most).1] := by
  have E := h.entry hi ok hs e
  obtain ⟨_, h2, h3, _⟩ := h N ok hs e
  rw [take_next [] _ _ (by omega), h3, E.text most hm]
  have := E.key
  unfold Nd.key at this ⊢
  rw [this]
/-- An entry with its value. -/
theorem Fits.next0 (h : Fits b level m i ks vs ps rest) (hi : i < m) (h0 : level = 0) (most most2 : Int) (hm : 160 ≤ most) (hm2 : 1024 ≤ most2) {r2 : List Int} (hr : r2 = (rest.drop (readOf rest).2.1).drop (readText (rest.drop (readOf rest).2.1) most).2.1) :
    Fits b level m (i + 1) (ks ++ [(lastK ks i).take (readOf rest).1 ++ (readText (rest.drop (readOf rest).2.1) most).1]) (vs ++ [(readText r2 most2).1]) ps (r2.drop (readText r2 most2).2.1) := fun N ok hs e => by
  have E := h.entry hi ok hs e
  have hk := h.keys hi most hm ok hs e
  obtain ⟨h1, h2, h3, h4, h5, h6⟩ := h N ok hs e
  have hv := read_val hs (by omega) i (by omega) (fromB N (i + 1)) most2 hm2
  rw [E.body most hm] at hr
  subst hr
  refine ⟨h1, h2, hk, fun _ => ?_, fun hp => by omega, ?_⟩
  · have := (hs.start.leaf (by omega)).1
    rw [take_next [] _ _ (by omega), h4 h0, hv]
    rfl
  · rw [hv]; exact (List.drop_left ..).symm
/-- An entry with its child. -/
theorem Fits.next1 (h : Fits b level m i ks vs ps rest) (hi : i < m) (h0 : level ≠ 0) (most : Int) (hm : 160 ≤ most) {r2 : List Int} (hr : r2 = (rest.drop (readOf rest).2.1).drop (readText (rest.drop (readOf rest).2.1) most).2.1) :
    Fits b level m (i + 1) (ks ++ [(lastK ks i).take (readOf rest).1 ++ (readText (rest.drop (readOf rest).2.1) most).1]) vs (ps ++ [readPt r2]) (r2.drop 52) := fun N ok hs e => by
  have E := h.entry hi ok hs e
  have hk := h.keys hi most hm ok hs e
  obtain ⟨h1, h2, h3, h4, h5, h6⟩ := h N ok hs e
  have hlo := hs.start.lo
  obtain ⟨k1, _, k3⟩ := read_kid hs ok (by omega) i (by omega) (fromB N (i + 1))
  rw [E.body most hm] at hr
  subst hr
  refine ⟨h1, h2, hk, fun hp => absurd hp h0, fun hp => ?_, k3.symm⟩
  have := (hs.start.above (by omega)).1
  rw [take_next Pt.zero _ _ (by omega), h5 hp, k1]
  rfl
/-- All entries are read: the node is found, and nothing stands behind it. -/
theorem Fits.done (h : Fits b level m m ks vs ps rest) (hv : level ≠ 0 → vs = []) (hp : level = 0 → ps = []) (N : Nd) (ok : N.Ok) (hs : Shape N) (e : allB N = b) : N = ⟨level, ks, vs, ps⟩ ∧ rest = [] := by
  obtain ⟨h1, h2, h3, h4, h5, h6⟩ := h N ok hs e
  have hlo := hs.start.lo
  subst h1 h2
  rw [from_end] at h6
  rw [List.take_length] at h3
  refine ⟨?_, h6.symm⟩
  have e1 : N.vals = vs := by
    by_cases h0 : N.level = 0
    · have := h4 h0
      rw [List.take_of_length_le (by have := (hs.start.leaf h0).1; omega)] at this
      exact this
    · rw [hv h0]; exact List.length_eq_zero_iff.1 (hs.start.above (by omega)).2
  have e2 : N.kids = ps := by
    by_cases h0 : N.level = 0
    · rw [hp h0]; exact List.length_eq_zero_iff.1 (hs.start.leaf h0).2
    · have := h5 (by omega)
      rw [List.take_of_length_le (by have := (hs.start.above (show 0 < N.level by omega)).1; omega)] at this
      exact this
  cases N
  simp only at h3 e1 e2
  rw [h3, e1, e2]
end
/-- How many bytes a node has, whose values are not long together. -/
theorem ent_most {n : Nd} (h : Shape n) (hok : n.Ok) (i : Nat) (hi : i < n.keys.length) : (entB n i).length ≤ (if n.level = 0 then 165 + (n.val i).length else 215) := by
  have h0 := ent_weight h hok i hi
  have hk := h.keyLen hi
  have h1 := short_two (m := (n.key i).length) (by omega)
  unfold weightB textL at h0
  simp only [List.length_append] at h0
  by_cases hl : n.level = 0
  · rw [if_pos hl] at h0 ⊢
    have h2 := short_two (m := (n.val i).length) (by have := h.valLen hl hi; omega)
    omega
  · rw [if_neg hl] at h0 ⊢; omega
theorem up_most {n : Nd} (h : Shape n) (hok : n.Ok) : ∀ k, k ≤ n.keys.length → (upB n k).length ≤ (if n.level = 0 then 165 * k + lensOf n.vals k else 215 * k)
  | 0, _ => Nat.zero_le _
  | k + 1, hk => by
    have h1 := up_most h hok k (by omega)
    have h2 := ent_most h hok k (by omega)
    rw [up_next, List.length_append, lens_next]
    unfold Nd.val at h2
    by_cases hl : n.level = 0
    · rw [if_pos hl] at h1 h2 ⊢; omega
    · rw [if_neg hl] at h1 h2 ⊢; omega
theorem all_most {n : Nd} (h : Shape n) (hok : n.Ok) (hv : n.level = 0 → lensOf n.vals n.keys.length ≤ 20000) : (allB n).length ≤ 885000 := by
  have h1 := head_len h.start
  have h2 := up_most h hok _ (Nat.le_refl _)
  have h3 := h.start.most
  unfold allB
  rw [List.length_append]
  by_cases hl : n.level = 0
  · have := hv hl; rw [if_pos hl] at h2; omega
  · rw [if_neg hl] at h2; omega
/-- What Put tells of a node: its bytes, or one of two errors. -/
def PutIs (n : Nd) (xs : List Int) (e : Int) : Prop := (Shape n ∧ (allB n).length ≤ 4096 ∧ xs = allB n ∧ e = 0) ∨ (Shape n ∧ 4096 < (allB n).length ∧ xs = [] ∧ e = 3) ∨ (¬ Shape n ∧ xs = [] ∧ e = 2)
theorem PutIs.one {n : Nd} {xs ys : List Int} {e f : Int} (h : PutIs n xs e) (k : PutIs n ys f) : xs = ys ∧ e = f := by
  rcases h with ⟨h1, h2, h3, h4⟩ | ⟨h1, h2, h3, h4⟩ | ⟨h1, h3, h4⟩ <;> rcases k with ⟨k1, k2, k3, k4⟩ | ⟨k1, k2, k3, k4⟩ | ⟨k1, k3, k4⟩
  · exact ⟨h3.trans k3.symm, by omega⟩
  · omega
  · exact absurd h1 k1
  · omega
  · exact ⟨h3.trans k3.symm, by omega⟩
  · exact absurd h1 k1
  · exact absurd k1 h1
  · exact absurd k1 h1
  · exact ⟨h3.trans k3.symm, by omega⟩
theorem PutIs.right {n : Nd} {xs : List Int} (h : PutIs n xs 0) : Right n ∧ xs = allB n := by
  rcases h with ⟨h1, h2, h3, _⟩ | ⟨_, _, _, h4⟩ | ⟨_, _, h4⟩
  · exact ⟨⟨h1, h2⟩, h3⟩
  · omega
  · omega
theorem PutIs.wrong {n : Nd} {xs : List Int} {e : Int} (h : PutIs n xs e) (he : e ≠ 0) : ¬ Right n ∧ xs = [] := by
  rcases h with ⟨_, _, _, h4⟩ | ⟨_, h2, h3, _⟩ | ⟨h1, h3, _⟩
  · exact absurd h4 he
  · exact ⟨fun r => by have := r.len; omega, h3⟩
  · exact ⟨fun r => h1 r.shape, h3⟩
/-- Of the one node that may have the bytes Put's answer decides. -/
theorem read_final {b xs : List Int} {M : Nd} {e : Int} (hM : ∀ N : Nd, N.Ok → Shape N → allB N = b → N = M) (p : PutIs M xs e) (h : e ≠ 0 ∨ xs ≠ b) : ∀ N : Nd, N.Ok → Right N → allB N ≠ b := fun N ok r hb => by
  have := hM N ok r.shape hb
  subst this
  rcases p with ⟨_, _, h3, h4⟩ | ⟨_, h2, _, _⟩ | ⟨h1, _, _⟩
  · rcases h with h | h
    · exact h h4
    · exact h (h3.trans hb)
  · have := r.len; omega
  · exact h1 r.shape
theorem no_right {b : List Int} (h : NoNd b) : ∀ N : Nd, N.Ok → Right N → allB N ≠ b := fun N ok r => h N ok r.shape
theorem long_right {b : List Int} (h : 4096 < b.length) : ∀ N : Nd, N.Ok → Right N → allB N ≠ b := fun N _ r e => by have := r.len; rw [e] at this; omega
/-- What Read tells of bytes: the right node that has them, or none. -/
def ReadIs (b : List Int) (n : Nd) (e : Int) : Prop := (e = 0 ∧ n.Ok ∧ Right n ∧ allB n = b) ∨ (e = 11 ∧ n = Nd.zero ∧ ∀ N : Nd, N.Ok → Right N → allB N ≠ b)
theorem ReadIs.one {b : List Int} {n m : Nd} {e f : Int} (h : ReadIs b n e) (k : ReadIs b m f) : n = m ∧ e = f := by
  rcases h with ⟨h1, h2, h3, h4⟩ | ⟨h1, h2, h3⟩
  · rcases k with ⟨k1, k2, k3, k4⟩ | ⟨k1, k2, k3⟩
    · exact ⟨right_one h3.shape k3.shape h2 k2 (h4.trans k4.symm), by omega⟩
    · exact absurd h4 (k3 n h2 h3)
  · rcases k with ⟨k1, k2, k3, k4⟩ | ⟨k1, k2, k3⟩
    · exact absurd k4 (h3 m k2 k3)
    · exact ⟨h2.trans k2.symm, by omega⟩
theorem read_good {b : List Int} {M : Nd} (ok : M.Ok) (p : PutIs M b 0) : ReadIs b M 0 := .inl ⟨rfl, ok, p.right.1, p.right.2.symm⟩
theorem read_none {b : List Int} (h : ∀ N : Nd, N.Ok → Right N → allB N ≠ b) : ReadIs b Nd.zero 11 := .inr ⟨rfl, rfl, h⟩
theorem read_put_is {n : Nd} (ok : n.Ok) (h : Right n) : ReadIs (allB n) n 0 := .inl ⟨rfl, ok, h, rfl⟩
end Lf
end Go.Proofs.Ytnoofmdhhlcbkaa

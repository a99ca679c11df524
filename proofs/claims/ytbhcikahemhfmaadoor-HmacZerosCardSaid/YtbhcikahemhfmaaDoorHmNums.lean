/- A code by a key, as plain reckoning over the sum: the key (or its sum), its pads, the code, a chain of codes; a key with zeros behind it has the codes of that key. No conditions but those that stand in each lemma. -/
import Derived.Test.YtbhcikahemhfmaaDoorShaSum
import Derived.Test.YtbhcikahemhfmaaDoorCells
namespace Go.Proofs.YtbhcikahemhfmaaDoor.Sha3.Hm
open Go.RowKit

theorem bytes_laid (hs : List Wd) : IsBytes (laidW hs) := fun x hx => by
  obtain ⟨i, _, rfl⟩ := List.mem_map.1 hx
  unfold byteAt
  omega
theorem bytes_sum (ks hs : List Wd) (xs : List Int) : IsBytes (sumW ks hs xs) := by
  unfold sumW endW
  split <;> exact bytes_laid _
theorem sum_row {w : World} {g : Nat} {t : TypeId} {l : List Int} (h : Row w g t (bcells l)) : Src .u8 w (some ⟨g, 0, none⟩) l := fun _ =>
  ⟨g, 0, rfl, h.lt, fun i hi => by rw [Nat.zero_add]; exact h.cell (bcells_at l i hi)⟩

/-- The key of at most 64 bytes. -/
def keyW (ks h0 : List Wd) (key : List Int) : List Int := if 64 < key.length then sumW ks h0 key else key
/-- The first k of 64 bytes of it are turned. -/
def padK (t : Int) (key : List Int) (k : Nat) : List Int := (List.range 64).map fun i => if i < k then bits .xor .u8 (key.getD i 0) t else key.getD i 0
def padW (t : Int) (key : List Int) : List Int := padK t key 64
/-- The code. -/
def macW (ks h0 : List Wd) (key b : List Int) : List Int := sumW ks h0 (padW 92 (keyW ks h0 key) ++ sumW ks h0 (padW 54 (keyW ks h0 key) ++ b))
/-- The code of each by the code ahead of it. -/
def chainW (ks h0 : List Wd) (key : List Int) (parts : List (List Int)) : List Int := parts.foldl (macW ks h0) key

theorem keyW_length (ks h0 : List Wd) (key : List Int) : (keyW ks h0 key).length ≤ 64 := by
  unfold keyW
  split
  · rw [sumW_length]; omega
  · omega
theorem keyW_bytes (ks h0 : List Wd) {key : List Int} (h : IsBytes key) : IsBytes (keyW ks h0 key) := by
  unfold keyW
  split
  · exact bytes_sum _ _ _
  · exact h
theorem padK_length (t : Int) (key : List Int) (k : Nat) : (padK t key k).length = 64 := by unfold padK; rw [List.length_map, List.length_range]
theorem padK_getD (t : Int) (key : List Int) (k i : Nat) (h : i < 64) : (padK t key k).getD i 0 = if i < k then bits .xor .u8 (key.getD i 0) t else key.getD i 0 := by
  unfold padK
  rw [List.getD_eq_getElem?_getD, List.getElem?_map, List.getElem?_range h]
  rfl
theorem padK_there (t : Int) (key : List Int) (k : Nat) (h : k < 64) : (padK t key k).getD k 0 = key.getD k 0 := by rw [padK_getD t key k k h, if_neg (by omega)]
theorem padK_none (t : Int) (key : List Int) (h : key.length ≤ 64) : padK t key 0 = key ++ zerosI (64 - key.length) := by
  apply List.ext_getElem?
  intro i
  unfold padK zerosI
  rw [List.getElem?_map]
  by_cases hi : i < 64
  · rw [List.getElem?_range hi]
    simp only [Option.map_some, Nat.not_lt_zero, if_false]
    by_cases hk : i < key.length
    · rw [List.getElem?_append_left hk, List.getD_eq_getElem?_getD, List.getElem?_eq_getElem hk]
      rfl
    · rw [List.getElem?_append_right (by omega), List.getElem?_replicate, if_pos (by omega), List.getD_eq_getElem?_getD, List.getElem?_eq_none (by omega)]
      rfl
  · rw [List.getElem?_eq_none (by rw [List.length_range]; omega), List.getElem?_eq_none (by rw [List.length_append, List.length_replicate]; omega)]
    rfl
theorem padK_next (t : Int) (key : List Int) (k : Nat) (h : k < 64) : (padK t key k).set k (bits .xor .u8 (key.getD k 0) t) = padK t key (k + 1) := by
  apply List.ext_getElem?
  intro i
  rw [List.getElem?_set, padK_length]
  unfold padK
  rw [List.getElem?_map, List.getElem?_map]
  by_cases hi : i < 64
  · rw [List.getElem?_range hi]
    simp only [Option.map_some]
    by_cases hk : k = i
    · subst hk
      rw [if_pos rfl, if_pos h, if_pos (by omega)]
    · rw [if_neg hk]
      by_cases h1 : i < k
      · rw [if_pos h1, if_pos (by omega)]
      · rw [if_neg h1, if_neg (by omega)]
  · rw [List.getElem?_eq_none (by rw [List.length_range]; omega), if_neg (by omega)]
    rfl
theorem padW_length (t : Int) (key : List Int) : (padW t key).length = 64 := padK_length t key 64
theorem xor8_byte (x t : Int) : 0 ≤ bits .xor .u8 x t ∧ bits .xor .u8 x t < 256 := by
  have e : bits .xor .u8 x t = IntKind.u8.wrap ((BitVec.ofInt 8 x ^^^ BitVec.ofInt 8 t).toNat : Int) := rfl
  rw [e, IntKind.wrap_u8']
  omega
theorem padW_bytes (t : Int) (key : List Int) : IsBytes (padW t key) := fun x hx => by
  obtain ⟨i, hi, rfl⟩ := List.mem_map.1 hx
  rw [if_pos (by simpa using hi)]
  exact xor8_byte _ _
theorem padW_zeros (t : Int) (key : List Int) (j : Nat) : padW t (key ++ zerosI j) = padW t key := by
  unfold padW padK
  refine List.map_congr_left fun i _ => ?_
  have e : (key ++ zerosI j).getD i 0 = key.getD i 0 := by
    unfold zerosI
    rw [List.getD_eq_getElem?_getD, List.getD_eq_getElem?_getD]
    by_cases hk : i < key.length
    · rw [List.getElem?_append_left hk]
    · rw [List.getElem?_append_right (by omega), List.getElem?_replicate, List.getElem?_eq_none (l := key) (by omega)]
      split <;> rfl
  rw [e]
theorem macW_length (ks h0 : List Wd) (key b : List Int) : (macW ks h0 key b).length = 32 := sumW_length _ _ _
theorem macW_bytes (ks h0 : List Wd) (key b : List Int) : IsBytes (macW ks h0 key b) := bytes_sum _ _ _
theorem macW_zeros (ks h0 : List Wd) (key b : List Int) (j : Nat) (h : key.length + j ≤ 64) : macW ks h0 (key ++ zerosI j) b = macW ks h0 key b := by
  have e1 : keyW ks h0 (key ++ zerosI j) = key ++ zerosI j := by unfold keyW zerosI; rw [if_neg (by rw [List.length_append, List.length_replicate]; omega)]
  have e2 : keyW ks h0 key = key := by unfold keyW; rw [if_neg (by omega)]
  unfold macW
  rw [e1, e2, padW_zeros, padW_zeros]
theorem chainW_next (ks h0 : List Wd) (key : List Int) (parts : List (List Int)) (k : Nat) (h : k < parts.length) : chainW ks h0 key (parts.take (k + 1)) = macW ks h0 (chainW ks h0 key (parts.take k)) (parts.getD k []) := by
  unfold chainW
  rw [List.take_succ_eq_append_getElem h, List.foldl_append, List.getD_eq_getElem?_getD, List.getElem?_eq_getElem h]
  rfl
theorem chainW_bytes (ks h0 : List Wd) : ∀ (parts : List (List Int)) {key : List Int}, IsBytes key → IsBytes (chainW ks h0 key parts)
  | [], _, h => h
  | p :: parts, key, _ => chainW_bytes ks h0 parts (key := macW ks h0 key p) (macW_bytes _ _ _ _)
theorem chainW_length (ks h0 : List Wd) : ∀ (parts : List (List Int)) (key : List Int), (chainW ks h0 key parts).length = if parts = [] then key.length else 32
  | [], _ => rfl
  | p :: parts, key => by
    have := chainW_length ks h0 parts (macW ks h0 key p)
    rw [if_neg (by simp)]
    show (chainW ks h0 (macW ks h0 key p) parts).length = 32
    rw [this, macW_length]
    split <;> rfl
end Go.Proofs.YtbhcikahemhfmaaDoor.Sha3.Hm

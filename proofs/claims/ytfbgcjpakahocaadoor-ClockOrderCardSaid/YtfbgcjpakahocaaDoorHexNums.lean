/- Digits, as plain mathematics: the kinds of bytes, small letters, two digits a byte and back. No conditions but those that stand in each lemma. -/
import Derived.Test.YtfbgcjpakahocaaDoorMem
namespace Go.Proofs.YtfbgcjpakahocaaDoor
open Go.RowKit

/-- The kind of a byte. -/
def kindI (c : Int) : Int := if 48 ≤ c ∧ c ≤ 57 then 1 else if 97 ≤ c ∧ c ≤ 102 then 2 else if 103 ≤ c ∧ c ≤ 122 then 3 else if 65 ≤ c ∧ c ≤ 90 then 4 else 0
/-- What a byte is worth as a digit of base 16; -1: it is none. -/
def valI (c : Int) : Int := if 48 ≤ c ∧ c ≤ 57 then c - 48 else if 97 ≤ c ∧ c ≤ 102 then c - 87 else -1
/-- A small letter in a great one's place. -/
def lowI (c : Int) : Int := if 65 ≤ c ∧ c ≤ 90 then c + 32 else c
theorem kindI_four (c : Int) : kindI c = 4 ↔ 65 ≤ c ∧ c ≤ 90 := by unfold kindI; omega
theorem kindI_one (c : Int) : kindI c = 1 ↔ 48 ≤ c ∧ c ≤ 57 := by unfold kindI; omega
theorem kindI_two (c : Int) : kindI c = 2 ↔ 97 ≤ c ∧ c ≤ 102 := by unfold kindI; omega
theorem kindI_low (c : Int) : kindI (lowI c) ≠ 4 := by unfold kindI lowI; omega
theorem lowI_ne (c : Int) : lowI c = c ↔ kindI c ≠ 4 := by unfold kindI lowI; omega
theorem lowI_low (c : Int) : lowI (lowI c) = lowI c := by unfold lowI; omega
theorem lowI_byte (c : Int) (h : 0 ≤ c ∧ c < 256) : 0 ≤ lowI c ∧ lowI c < 256 := by unfold lowI; omega
theorem valI_le (c : Int) : -1 ≤ valI c ∧ valI c < 16 := by unfold valI; omega

/-- The digit's byte. -/
def digI (d : Int) : Int := if d < 10 then 48 + d else 87 + d
theorem digI_byte (d : Int) (h : 0 ≤ d ∧ d < 16) : 0 ≤ digI d ∧ digI d < 256 := by unfold digI; omega
theorem valI_dig (d : Int) (h : 0 ≤ d ∧ d < 16) : valI (digI d) = d := by unfold valI digI; omega
/-- Bytes as digits, two each. -/
def hexW : List Int → List Int
  | [] => []
  | x :: r => digI (x / 16) :: digI (x % 16) :: hexW r
theorem hexW_append : ∀ (xs ys : List Int), hexW (xs ++ ys) = hexW xs ++ hexW ys
  | [], _ => rfl
  | x :: r, ys => by simp [hexW, hexW_append r ys]
theorem hexW_length : ∀ xs : List Int, (hexW xs).length = 2 * xs.length
  | [] => rfl
  | x :: r => by simp [hexW, hexW_length r]; omega
theorem hexW_bytes : ∀ (xs : List Int), IsBytes xs → IsBytes (hexW xs)
  | [], _ => IsBytes.nil
  | x :: r, h => by
    have hx := h x (List.mem_cons_self ..)
    exact IsBytes.cons (digI_byte _ (by omega)) (IsBytes.cons (digI_byte _ (by omega)) (hexW_bytes r fun y hy => h y (List.mem_cons_of_mem _ hy)))
theorem take_snoc (xs : List Int) (k : Nat) (h : k < xs.length) : xs.take (k + 1) = xs.take k ++ [xs.getD k 0] := by
  rw [List.take_succ_eq_append_getElem h, List.getD_eq_getElem?_getD, List.getElem?_eq_getElem h]
  rfl
theorem hexW_next (xs : List Int) (k : Nat) (h : k < xs.length) : hexW (xs.take (k + 1)) = hexW (xs.take k) ++ [digI (xs.getD k 0 / 16), digI (xs.getD k 0 % 16)] := by
  rw [take_snoc xs k h, hexW_append]
  rfl
/-- The small letters of a text. -/
def lowW (xs : List Int) : List Int := xs.map lowI
theorem lowW_length (xs : List Int) : (lowW xs).length = xs.length := by simp [lowW]
theorem lowW_bytes (xs : List Int) (h : IsBytes xs) : IsBytes (lowW xs) := fun y hy => by
  obtain ⟨x, hx, rfl⟩ := List.mem_map.1 hy
  exact lowI_byte x (h x hx)
theorem lowW_next (xs : List Int) (k : Nat) (h : k < xs.length) : lowW (xs.take (k + 1)) = lowW (xs.take k) ++ [lowI (xs.getD k 0)] := by
  rw [take_snoc xs k h]
  simp [lowW]
theorem lowW_low (xs : List Int) : lowW (lowW xs) = lowW xs := by
  simp only [lowW, List.map_map]
  exact List.map_congr_left fun x _ => lowI_low x
theorem lowW_getD (xs : List Int) (k : Nat) (h : k < xs.length) : (lowW xs).getD k 0 = lowI (xs.getD k 0) := by
  simp [lowW, List.getD_eq_getElem?_getD, List.getElem?_eq_getElem h]

/-- The bytes that the first n pairs of digits tell; all of them must be digits. -/
def pairAt (xs : List Int) (i : Nat) : Int := 16 * valI (xs.getD (2 * i) 0) + valI (xs.getD (2 * i + 1) 0)
def pairsW (xs : List Int) (n : Nat) : List Int := (List.range n).map (pairAt xs)
def Good (xs : List Int) (n : Nat) : Prop := ∀ i, i < n → 0 ≤ valI (xs.getD (2 * i) 0) ∧ 0 ≤ valI (xs.getD (2 * i + 1) 0)
theorem pairsW_length (xs : List Int) (n : Nat) : (pairsW xs n).length = n := by simp [pairsW]
theorem pairsW_next (xs : List Int) (n : Nat) : pairsW xs (n + 1) = pairsW xs n ++ [pairAt xs n] := by simp [pairsW, List.range_succ]
theorem Good.zero (xs : List Int) : Good xs 0 := fun _ h => absurd h (Nat.not_lt_zero _)
theorem Good.next {xs : List Int} {n : Nat} (h : Good xs n) (h0 : 0 ≤ valI (xs.getD (2 * n) 0)) (h1 : 0 ≤ valI (xs.getD (2 * n + 1) 0)) : Good xs (n + 1) := fun i hi => by
  rcases Nat.lt_or_ge i n with hl | hl
  · exact h i hl
  · obtain rfl : i = n := by omega
    exact ⟨h0, h1⟩
theorem pairsW_bytes {xs : List Int} {n : Nat} (h : Good xs n) : IsBytes (pairsW xs n) := fun x hx => by
  obtain ⟨i, hi, rfl⟩ := List.mem_map.1 hx
  have hg := h i (List.mem_range.1 hi)
  have h0 := valI_le (xs.getD (2 * i) 0)
  have h1 := valI_le (xs.getD (2 * i + 1) 0)
  unfold pairAt
  omega
theorem Good.upto {xs : List Int} {n m : Nat} (h : Good xs n) (hm : m ≤ n) : Good xs m := fun i hi => h i (by omega)
/-- What ReadHex answers. -/
def Right (xs : List Int) : Prop := xs.length % 2 = 0 ∧ Good xs (xs.length / 2)
theorem hexW_even : ∀ (xs : List Int) (k : Nat), k < xs.length → (hexW xs).getD (2 * k) 0 = digI (xs.getD k 0 / 16) ∧ (hexW xs).getD (2 * k + 1) 0 = digI (xs.getD k 0 % 16)
  | [], _, h => absurd h (Nat.not_lt_zero _)
  | x :: r, 0, _ => ⟨rfl, rfl⟩
  | x :: r, k + 1, h => by
    have := hexW_even r k (by simpa using h)
    rw [show 2 * (k + 1) = 2 * k + 1 + 1 by omega]
    simpa [hexW, List.getD_cons_succ] using this
/-- What is told is read. -/
theorem hexW_good (xs : List Int) (h : IsBytes xs) : Right (hexW xs) ∧ pairsW (hexW xs) ((hexW xs).length / 2) = xs := by
  have hl := hexW_length xs
  have hh : (hexW xs).length / 2 = xs.length := by omega
  refine ⟨⟨by omega, fun i hi => ?_⟩, ?_⟩
  · rw [hh] at hi
    obtain ⟨e0, e1⟩ := hexW_even xs i hi
    have hb := h.at_ i
    rw [e0, e1, valI_dig _ (by omega), valI_dig _ (by omega)]
    omega
  · rw [hh]
    apply List.ext_getElem (by simp [pairsW_length])
    intro i h1 h2
    obtain ⟨e0, e1⟩ := hexW_even xs i h2
    have hb := h.at_ i
    simp only [pairsW, List.getElem_map, List.getElem_range, pairAt, e0, e1]
    rw [valI_dig _ (by omega), valI_dig _ (by omega)]
    have : xs.getD i 0 = xs[i] := by simp [List.getD_eq_getElem?_getD, List.getElem?_eq_getElem h2]
    omega

/-- The digits, as the programs have them. -/
def digitsB : ByteArray := ⟨#[48, 49, 50, 51, 52, 53, 54, 55, 56, 57, 97, 98, 99, 100, 101, 102]⟩
theorem digits_at : ∀ m : Fin 16, digitsB[m.val]? = some (UInt8.ofNat (if m.val < 10 then 48 + m.val else 87 + m.val)) := by decide
theorem run_index_digit {P : Program} (w : World) (t : TypeId) (d : Int) (hu : P.underlying t = some .string) (h0 : 0 ≤ d) (h1 : d < 16) :
    (Instr.index t (.string digitsB) (.int .u8 d)).run P w = .ok (.int .u8 (digI d)) w := by
  obtain ⟨m, rfl⟩ := Int.eq_ofNat_of_zero_le h0
  have hm : m < 16 := by omega
  have hd := digits_at ⟨m, hm⟩
  have ha : (asIntOf (.int .u8 (m : Int))).run P w = .ok (.u8, (m : Int)) w := by simp [asIntOf]
  have hv : ((UInt8.ofNat (if m < 10 then 48 + m else 87 + m)).toNat : Int) = digI (m : Int) := by
    unfold digI
    rw [UInt8.toNat_ofNat']
    split <;> split <;> omega
  unfold Instr.index
  simp only [Sem.run_bind, ha, Result.andThen_ok, run_underlying hu w]
  rw [if_pos h0, Int.toNat_natCast, hd]
  simp only [Sem.run_pure]
  rw [← hv]
theorem and15 (x : Int) (h : 0 ≤ x ∧ x < 256) : bits .and .u8 x 15 = x % 16 := by
  obtain ⟨m, rfl⟩ := Int.eq_ofNat_of_zero_le h.1
  have hm : m < 256 := by omega
  have : ∀ j : Fin 256, bits .and .u8 (j.val : Int) 15 = (j.val : Int) % 16 := by decide +kernel
  exact this ⟨m, hm⟩
theorem nums_append (xs ys : List Int) : strOfNums xs ++ strOfNums ys = strOfNums (xs ++ ys) := by
  unfold strOfNums
  apply ByteArray.ext
  simp
theorem nums_size (xs : List Int) : (strOfNums xs).size = xs.length := by
  unfold strOfNums
  simp [ByteArray.size]
end Go.Proofs.YtfbgcjpakahocaaDoor

/- Decimal numerals, as plain mathematics: the digits of a number, and the number of digits. -/
import Derived.Test.YtfbgcjpakahocaaDoorHexNums
import Derived.Lib.ItoaNum
namespace Go.Proofs.YtfbgcjpakahocaaDoor
open Go.RowKit

/-- The digits of a number from 0 on. -/
def decN (u : Nat) : List Int := (Lib.decDigits u).map fun b => (b.toNat : Int)
/-- .. of any number, with a - ahead where it is below 0. -/
def decI (n : Int) : List Int := if n < 0 then 45 :: decN n.natAbs else decN n.toNat
theorem decN_small {u : Nat} (h : u < 10) : decN u = [digI u] := by
  unfold decN digI
  rw [Lib.decDigits, dif_pos h, if_pos (by omega), List.map_cons, List.map_nil, UInt8.toNat_ofNat']
  congr 1
  omega
theorem decN_big {u : Nat} (h : ¬ u < 10) : decN u = decN (u / 10) ++ [digI ((u % 10 : Nat) : Int)] := by
  unfold decN digI
  rw [Lib.decDigits, dif_neg h, if_pos (by omega), List.map_append, List.map_cons, List.map_nil, UInt8.toNat_ofNat']
  congr 2
  omega
theorem itoa_decI (n : Int) : (⟨(Lib.itoa n).toArray⟩ : ByteArray) = strOfNums (decI n) := by
  have key : ∀ l : List UInt8, (⟨l.toArray⟩ : ByteArray) = strOfNums (l.map fun b => (b.toNat : Int)) := fun l => by
    unfold strOfNums
    rw [List.map_map]
    apply ByteArray.ext
    show l.toArray = (l.map _).toArray
    congr 1
    conv => lhs; rw [← List.map_id l]
    exact List.map_congr_left fun b _ => by simp
  rw [key]
  unfold Lib.itoa decI decN
  split <;> rfl
theorem decN_len {u : Nat} : ∀ k : Nat, u < 10 ^ (k + 1) → 1 ≤ (decN u).length ∧ (decN u).length ≤ k + 1 := by
  induction u using Nat.strongRecOn with
  | _ u ih =>
    intro k h
    by_cases hu : u < 10
    · rw [decN_small hu]
      simp
    · rw [decN_big hu, List.length_append]
      cases k with
      | zero => omega
      | succ k =>
        have := ih (u / 10) (by omega) k (by rw [Nat.pow_succ] at h; omega)
        simp
        omega
theorem decN_bytes (u : Nat) : IsBytes (decN u) := fun x hx => by
  obtain ⟨b, _, rfl⟩ := List.mem_map.1 hx
  have := b.toNat_lt
  omega

/-- The number of digits read from the left. -/
def numW (xs : List Int) : Int := xs.foldl (fun a c => 10 * a + (c - 48)) 0
def AllTen (xs : List Int) : Prop := ∀ c ∈ xs, kindI c = 1
theorem numW_snoc (xs : List Int) (c : Int) : numW (xs ++ [c]) = 10 * numW xs + (c - 48) := by
  unfold numW
  rw [List.foldl_append]
  rfl
theorem AllTen.snoc {xs : List Int} {c : Int} (h : AllTen xs) (hc : kindI c = 1) : AllTen (xs ++ [c]) := fun x hx => by
  rcases List.mem_append.1 hx with hx | hx
  · exact h x hx
  · obtain rfl : x = c := by simpa using hx
    exact hc
theorem numW_bounds {xs : List Int} (h : AllTen xs) : 0 ≤ numW xs ∧ numW xs < 10 ^ xs.length := by
  induction hl : xs.length generalizing xs with
  | zero =>
    obtain rfl := List.length_eq_zero_iff.1 hl
    exact ⟨by decide, by decide⟩
  | succ k ih =>
    have hne : xs ≠ [] := fun h0 => by rw [h0] at hl; cases hl
    have e : xs = xs.dropLast ++ [xs.getLast hne] := (List.dropLast_concat_getLast hne).symm
    have h1 : AllTen xs.dropLast := fun c hc => h c ((List.dropLast_sublist xs).subset hc)
    have h2 := (kindI_one _).1 (h _ (List.getLast_mem hne))
    have h3 := ih h1 (by rw [List.length_dropLast]; omega)
    rw [e, numW_snoc, Int.pow_succ]
    omega
theorem ten_dig {d : Int} (h0 : 0 ≤ d) (h1 : d < 10) : kindI (digI d) = 1 ∧ digI d - 48 = d := by unfold digI kindI; omega
theorem numW_decN (u : Nat) : AllTen (decN u) ∧ numW (decN u) = u := by
  induction u using Nat.strongRecOn with
  | _ u ih =>
    by_cases hu : u < 10
    · have hd := ten_dig (d := (u : Int)) (by omega) (by omega)
      rw [decN_small hu]
      refine ⟨fun c hc => ?_, ?_⟩
      · obtain rfl : c = digI u := by simpa using hc
        exact hd.1
      · show 10 * 0 + (digI u - 48) = (u : Int)
        omega
    · have hd := ten_dig (d := ((u % 10 : Nat) : Int)) (by omega) (by omega)
      obtain ⟨h1, h2⟩ := ih (u / 10) (by omega)
      rw [decN_big hu]
      exact ⟨h1.snoc hd.1, by rw [numW_snoc, h2]; omega⟩
/-- Zeros ahead may stand. -/
theorem numW_zeros (xs : List Int) : numW ([48, 48] ++ xs) = numW xs := by
  unfold numW
  rw [List.foldl_append]
  rfl
theorem allTen_zeros {xs : List Int} (h : AllTen xs) : AllTen ([48, 48] ++ xs) := fun c hc => by
  rcases List.mem_append.1 hc with hc | hc
  · have : c = 48 := by simpa using hc
    subst this
    decide
  · exact h c hc
/-- What ReadDecimal answers. -/
def TenRight (xs : List Int) : Prop := 0 < xs.length ∧ xs.length ≤ 18 ∧ AllTen xs
def TenTo (xs : List Int) (e : Ending) : Prop := ∃ n ok, e = .returned (.tuple #[.int .i64 n, .bool ok]) ∧ ((TenRight xs ∧ n = numW xs ∧ ok = true) ∨ (¬ TenRight xs ∧ n = 0 ∧ ok = false))
theorem ten_none {xs : List Int} (h : ¬ TenRight xs) : TenTo xs (.returned (.tuple #[.int .i64 0, .bool false])) := ⟨0, false, rfl, .inr ⟨h, rfl, rfl⟩⟩
theorem ten_same {xs : List Int} {e e2 : Ending} (h : TenTo xs e) (h2 : TenTo xs e2) : ∃ n ok, e = .returned (.tuple #[.int .i64 n, .bool ok]) ∧ e2 = .returned (.tuple #[.int .i64 n, .bool ok]) := by
  obtain ⟨n, ok, he, hr⟩ := h
  obtain ⟨n2, ok2, he2, hr2⟩ := h2
  rcases hr with ⟨r, rfl, rfl⟩ | ⟨r, rfl, rfl⟩ <;> rcases hr2 with ⟨r2, rfl, rfl⟩ | ⟨r2, rfl, rfl⟩
  · exact ⟨_, _, he, he2⟩
  · exact absurd r r2
  · exact absurd r2 r
  · exact ⟨_, _, he, he2⟩
theorem tenRight_decN {u : Nat} (h : u < 281474976710656) : TenRight (decN u) ∧ TenRight ([48, 48] ++ decN u) := by
  have hl := decN_len (u := u) 14 (by omega)
  have ha := (numW_decN u).1
  refine ⟨⟨by omega, by omega, ha⟩, ⟨by simp, by simp; omega, allTen_zeros ha⟩⟩
theorem tenRight_take {xs : List Int} (h : TenRight xs) (k : Nat) (hk : k < xs.length) : kindI (xs.getD k 0) = 1 := h.2.2 _ (by
  rw [List.getD_eq_getElem?_getD, List.getElem?_eq_getElem hk]
  exact List.getElem_mem hk)
theorem ten_round {xs : List Int} {k : Nat} (h : AllTen (xs.take k)) (hk : k < xs.length) (h18 : xs.length ≤ 18) (hc : kindI (xs.getD k 0) = 1) :
    AllTen (xs.take (k + 1)) ∧ numW (xs.take (k + 1)) = 10 * numW (xs.take k) + (xs.getD k 0 - 48) ∧ 0 ≤ numW (xs.take k) ∧ numW (xs.take k) < 100000000000000000 := by
  rw [take_snoc xs k hk, numW_snoc]
  have hb := numW_bounds h
  rw [List.length_take, Nat.min_eq_left (by omega)] at hb
  have hp : (10 : Int) ^ k ≤ 10 ^ 17 := by
    have : (10 : Nat) ^ k ≤ 10 ^ 17 := Nat.pow_le_pow_right (by omega) (by omega)
    exact_mod_cast this
  exact ⟨h.snoc hc, rfl, hb.1, by omega⟩
end Go.Proofs.YtfbgcjpakahocaaDoor

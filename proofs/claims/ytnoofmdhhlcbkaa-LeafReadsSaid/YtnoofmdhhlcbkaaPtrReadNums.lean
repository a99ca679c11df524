/- What Read reads off bytes: the fields, and whether they are a pointer's (plain mathematics). No conditions but those that stand in each lemma. -/
import Derived.Test.YtnoofmdhhlcbkaaPtr
import Derived.Test.YtnoofmdhhlcbkaaNums
namespace Go.Proofs.Ytnoofmdhhlcbkaa
open Go.RowKit

/-- A number of 64 bits as an int. -/
def i64w (n : Int) : Int := (n + 9223372036854775808) % 18446744073709551616 - 9223372036854775808
theorem i64w_small {n : Int} (h1 : 0 ≤ n) (h2 : n < 4294967296) : i64w n = n := by unfold i64w; omega
theorem i64w_lo (n : Int) : -9223372036854775808 ≤ i64w n := by unfold i64w; omega
theorem i64w_hi (n : Int) : i64w n ≤ 9223372036854775807 := by unfold i64w; omega
/-- The number of k bytes from place o on. -/
def numAt (xs : List Int) (o k : Nat) : Int := ((numOf ((xs.drop o).take k) : Nat) : Int)
theorem numAt_lo (xs : List Int) (o k : Nat) : 0 ≤ numAt xs o k := Int.natCast_nonneg _
theorem numAt_hi4 (xs : List Int) (o : Nat) (h : IsBytes xs) : numAt xs o 4 < 4294967296 := by
  have h1 := numOf_lt ((xs.drop o).take 4) ((h.drop o).take 4)
  have h2 : (256 : Nat) ^ ((xs.drop o).take 4).length ≤ 256 ^ 4 := Nat.pow_le_pow_right (by omega) (by rw [List.length_take]; omega)
  have h3 : (256 : Nat) ^ 4 = 4294967296 := by decide
  unfold numAt
  omega
theorem numAt_hi8 (xs : List Int) (o : Nat) (h : IsBytes xs) : numAt xs o 8 < 18446744073709551616 := by
  have h1 := numOf_lt ((xs.drop o).take 8) ((h.drop o).take 8)
  have h2 : (256 : Nat) ^ ((xs.drop o).take 8).length ≤ 256 ^ 8 := Nat.pow_le_pow_right (by omega) (by rw [List.length_take]; omega)
  have h3 : (256 : Nat) ^ 8 = 18446744073709551616 := by decide
  unfold numAt
  omega
/-- The fields. -/
def rawP (xs : List Int) : Pt := ⟨numAt xs 0 4, i64w (numAt xs 8 8), numAt xs 4 4, numAt xs 16 4, (xs.drop 20).take 32⟩
theorem rawP_sha (xs : List Int) (h : 52 ≤ xs.length) : (rawP xs).sha.length = 32 := by
  show ((xs.drop 20).take 32).length = 32
  rw [List.length_take, List.length_drop]
  omega
theorem rawP_ok (xs : List Int) (hx : IsBytes xs) (h : 52 ≤ xs.length) : (rawP xs).Ok := by
  have a0 := numAt_lo xs 0 4
  have a1 := numAt_hi4 xs 0 hx
  have b0 := numAt_lo xs 4 4
  have b1 := numAt_hi4 xs 4 hx
  have c0 := numAt_lo xs 16 4
  have c1 := numAt_hi4 xs 16 hx
  exact ⟨by show _ ≤ numAt xs 0 4; omega, by show numAt xs 0 4 ≤ _; omega, i64w_lo _, i64w_hi _, by show _ ≤ numAt xs 4 4; omega, by show numAt xs 4 4 ≤ _; omega, c0, c1, rawP_sha xs h, (hx.drop 20).take 32⟩
/-- What Read tells, and its error. -/
def readOk (xs : List Int) : Bool := (rawP xs).none || (rawP xs).right
def readPt (xs : List Int) : Pt := if xs.length < 52 then Pt.zero else if readOk xs = true then rawP xs else Pt.zero
def readErr (xs : List Int) : Int := if xs.length < 52 then 10 else if readOk xs = true then 0 else 11
theorem readPt_ok (xs : List Int) (hx : IsBytes xs) : (readPt xs).Ok := by
  unfold readPt
  split
  · exact Pt.zero_ok
  · split
    · exact rawP_ok xs hx (by omega)
    · exact Pt.zero_ok
theorem numAt_take (xs : List Int) (o k m : Nat) (h : o + k ≤ m) : numAt (xs.take m) o k = numAt xs o k := by
  unfold numAt
  rw [List.drop_take, List.take_take, Nat.min_eq_left (by omega)]
end Go.Proofs.Ytnoofmdhhlcbkaa

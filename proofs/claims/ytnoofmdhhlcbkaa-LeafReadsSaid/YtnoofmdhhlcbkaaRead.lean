/- ReadShort, the program's: for any bytes (at most 800000 of them): the number, how many bytes, and the error that readOf tells; nothing is written. -/
import Derived.Test.YtnoofmdhhlcbkaaMem
import Derived.Test.YtnoofmdhhlcbkaaNums
import Derived.LoopTactic
import Derived.Laws.BitsAllLaws
namespace Go.Proofs.Ytnoofmdhhlcbkaa
open Go.RowKit

/-- At a round's head: all bytes ahead have 128, and the number is theirs. -/
def ReadAt (xs : List Int) (u i : Value) : Prop :=
  ∃ (k : Nat) (V : Int), k ≤ 9 ∧ k ≤ xs.length ∧ (∀ j, j < k → 128 ≤ xs.getD j 0) ∧ i = .int .i64 (k : Int) ∧ u = .int .u64 V ∧ V = (valOf (xs.take k) : Int)

def ReadEnds (xs : List Int) (w : World) (e : Ending) (w' : World) : Prop :=
  e = .returned (.tuple #[.int .u64 ((readOf xs).1 : Int), .int .i64 ((readOf xs).2.1 : Int), .int .i64 ((readOf xs).2.2 : Int)]) ∧ w = w'
theorem read_ends {xs : List Int} {w : World} {a b c : Nat} {n m e : Int} (h : readOf xs = (a, b, c)) (hn : n = (a : Int)) (hm : m = (b : Int)) (he : e = (c : Int)) : ReadEnds xs w (.returned (.tuple #[.int .u64 n, .int .i64 m, .int .i64 e])) w := by
  unfold ReadEnds
  rw [h, hn, hm, he]
  exact ⟨rfl, rfl⟩

theorem pow_small (k : Nat) (h : k ≤ 8) : 2 ^ (7 * k) ≤ 72057594037927936 := by
  have h1 : (2 : Nat) ^ (7 * k) ≤ 2 ^ 56 := Nat.pow_le_pow_right (by omega) (by omega)
  have h2 : (2 : Nat) ^ 56 = 72057594037927936 := by decide
  omega
/-- A group more: what the program reckons is the number of the groups. -/
theorem or_val {xs : List Int} {k : Nat} {V x : Int} (hV : V = (valOf (xs.take k) : Int)) (hk9 : k ≤ 9) (hlt : k < xs.length) (hx : x = xs.getD k 0) (h9 : k = 9 → x ≤ 1) (hb : 0 ≤ x ∧ x < 256) :
    bits .or .u64 V (IntKind.u64.wrap (x % 128 * 2 ^ (7 * k))) = (valOf (xs.take (k + 1)) : Int) := by
  have hl : (xs.take k).length = k := by rw [List.length_take]; omega
  have hv := valOf_lt (xs.take k)
  rw [hl, pow7] at hv
  have e1 : x % 128 * 2 ^ (7 * k) = (((x % 128).toNat * 2 ^ (7 * k) : Nat) : Int) := by
    rw [Int.natCast_mul, Int.toNat_of_nonneg (by omega)]
    simp
  have hbig : (x % 128).toNat * 2 ^ (7 * k) < 18446744073709551616 ∧ 2 ^ (7 * k) ≤ 9223372036854775808 := by
    by_cases h : k = 9
    · subst h
      have := h9 rfl
      have : (x % 128).toNat ≤ 1 := by omega
      have e : (2 : Nat) ^ (7 * 9) = 9223372036854775808 := by decide
      rw [e]
      omega
    · have h1 := pow_small k (by omega)
      have h2 : (x % 128).toNat < 128 := by omega
      have h3 : (x % 128).toNat * 2 ^ (7 * k) ≤ 127 * 72057594037927936 := Nat.mul_le_mul (by omega) h1
      omega
  rw [e1, hV, show IntKind.u64.wrap ((((x % 128).toNat * 2 ^ (7 * k) : Nat) : Int)) = (((x % 128).toNat * 2 ^ (7 * k) : Nat) : Int) by
    rw [IntKind.wrap_u64]; omega]
  rw [u64_or_nat _ _ (by omega) hbig.1, or_group _ _ _ hv, take_snoc_getD _ _ hlt, valOf_snoc, hl, pow7, hx]
theorem or_val9 {xs : List Int} {k : Nat} {V x : Int} (hV : V = (valOf (xs.take k) : Int)) (hk : (k : Int) = 9) (hlt : k < xs.length) (hx : x = xs.getD k 0) (h9 : x ≤ 1) (hb : 0 ≤ x ∧ x < 256) :
    bits .or .u64 V (x % 128 * 9223372036854775808) = (valOf (xs.take (k + 1)) : Int) := by
  have hk' : k = 9 := by omega
  have h := or_val hV (by omega) hlt hx (fun _ => h9) hb
  have e : (2 : Int) ^ (7 * k) = 9223372036854775808 := by rw [hk']; decide
  rw [e] at h
  rw [← h, show IntKind.u64.wrap (x % 128 * 9223372036854775808) = x % 128 * 9223372036854775808 by rw [IntKind.wrap_u64]; omega]
theorem or_val0 {xs : List Int} {k : Nat} {V x : Int} (hV : V = (valOf (xs.take k) : Int)) (hk : ¬ 0 < k) (hlt : k < xs.length) (hx : x = xs.getD k 0) (h0 : x = 0) :
    bits .or .u64 V (IntKind.u64.wrap 0) = (valOf (xs.take (k + 1)) : Int) := by
  have h := or_val hV (by omega) hlt hx (fun _ => by omega) (by omega)
  rw [h0] at h
  simpa using h
theorem read_big {xs : List Int} {k : Nat} {x : Int} (hl : ∀ j, j < k → 128 ≤ xs.getD j 0) (hk : (k : Int) = 9) (hlt : k < xs.length) (hx : x = xs.getD k 0) (h1 : 1 < x) : readOf xs = (0, 0, 11) := by
  have hk' : k = 9 := by omega
  subst hk'
  by_cases hb : x < 128
  · exact readOf_form xs 9 hl hlt (by omega) (by omega) (.inl ⟨rfl, by omega⟩)
  · exact readOf_long xs (by omega) fun j hj => by
      by_cases h : j < 9
      · exact hl j h
      · obtain rfl : j = 9 := by omega
        omega
theorem not_big {xs : List Int} {k : Nat} {x : Int} (hx : x = xs.getD k 0) (h1 : x ≤ 1) : ¬ (k = 9 ∧ 1 < xs.getD 9 0) := by
  rintro ⟨rfl, h⟩
  omega
theorem lead_more {xs : List Int} {k : Nat} {x : Int} (hl : ∀ j, j < k → 128 ≤ xs.getD j 0) (hx : x = xs.getD k 0) (h1 : 128 ≤ x) : ∀ j, j < k + 1 → 128 ≤ xs.getD j 0 := fun j hj => by
  by_cases h : j < k
  · exact hl j h
  · obtain rfl : j = k := by omega
    omega

set_option maxHeartbeats 400000 in
theorem read_any (A : Option Addr) (n c : Nat) (xs : List Int) (w : World) (hn : n = xs.length) (hs : Src .u8 w A xs) (hx : IsBytes xs) (_hl : n ≤ 800000) :
    Calls Try.prog 40 #[.slice A n c] w (ReadEnds xs w) := by
  have Hn := Lib.hid hn
  clear hn
  go_enter Try.func40, Try.ntmps40
  go_wp2_with fail
  go_loop [2, 9] (fun u i => ReadAt xs u i) (fun _ i => 10 - (intOf i).toNat)
  case atStart => exact ⟨0, 0, by omega, by omega, fun j hj => by omega, rfl, rfl, rfl⟩
  case round =>
    obtain ⟨k, V, hk9, hk, hlead, rfl, rfl, hV⟩ := hrel
    have Hl := Lib.hid hlead
    have HV := Lib.hid hV
    clear hlead hV
    by_cases hlt : k < xs.length
    · obtain ⟨b, o, rfl, hb, hc⟩ := hs (by omega)
      have hkn : k < n := by rw [Hn.out]; exact hlt
      obtain ⟨x, Hx⟩ : ∃ x, Hid (x = xs.getD k 0) := ⟨_, rfl⟩
      have hck : w.cell? ⟨b, o + k, none⟩ = some (.int .u8 x) := by rw [Hx.out]; exact hc k hlt
      have hb : 0 ≤ x ∧ x < 256 := by rw [Hx.out]; exact hx.at_ k
      have Hlt := Lib.hid hlt
      clear hs hx hc hlt hk
      go_wp2_with fail
      · go_ret3
        exact read_ends (read_big Hl.out (by assumption) Hlt.out Hx.out (by assumption)) rfl rfl rfl
      · go_ret3
        exact read_ends (readOf_form xs k Hl.out Hlt.out (by have := Hx.out; omega) hk9 (.inr ⟨by omega, by have := Hx.out; omega⟩)) rfl rfl rfl
      · go_ret3
        exact read_ends (readOf_ok xs k Hl.out Hlt.out (by have := Hx.out; omega) hk9 (not_big Hx.out (by assumption)) (by have := Hx.out; omega)) (or_val9 HV.out (by assumption) Hlt.out Hx.out (by assumption) hb) (by omega) rfl
      · go_round
        case rel => exact ⟨k + 1, _, by omega, Hlt.out, lead_more Hl.out Hx.out (by assumption), by go_num, rfl, or_val HV.out hk9 Hlt.out Hx.out (by omega) hb⟩
        case measure => simp [intOf]; omega
      · go_ret3
        exact read_ends (readOf_form xs k Hl.out Hlt.out (by have := Hx.out; omega) hk9 (.inr ⟨by omega, by have := Hx.out; omega⟩)) rfl rfl rfl
      · go_ret3
        exact read_ends (readOf_ok xs k Hl.out Hlt.out (by have := Hx.out; omega) hk9 (by omega) (by omega)) (or_val0 HV.out (by assumption) Hlt.out Hx.out (by assumption)) (by omega) rfl
      · go_ret3
        exact read_ends (readOf_ok xs k Hl.out Hlt.out (by have := Hx.out; omega) hk9 (by omega) (by have := Hx.out; omega)) (or_val HV.out hk9 Hlt.out Hx.out (by omega) hb) (by omega) rfl
    · have hkn : k = n := by rw [Hn.out]; omega
      have hge : n ≤ k := by omega
      have Hlt := Lib.hid hlt
      clear hlt hkn hs hx
      go_wp2_with fail
      go_ret3
      exact read_ends (readOf_end xs (by have := Hlt.out; omega) (fun j hj => Hl.out j (by have := Hlt.out; omega))) rfl rfl rfl
end Go.Proofs.Ytnoofmdhhlcbkaa

/- Take, the program's and the document's: for any bytes (at most 900000) and any int as the size: the number of the first bytes and what is behind them in memory of the call's own; or zero ones and false. -/
import Derived.Test.YtnoofmdhhlcbkaaMem
import Derived.Test.YtnoofmdhhlcbkaaOwn
import Derived.Test.YtnoofmdhhlcbkaaNums
import Derived.Test.YtnoofmdhhlcbkaaDraw
import Derived.LoopTactic
import Derived.Laws.BitsAllLaws
namespace Go.Proofs.Ytnoofmdhhlcbkaa
open Go.RowKit

/-- Does Take find a number of that size? -/
def takeOk (n : Nat) (size : Int) : Bool := decide (1 ≤ size ∧ size ≤ 8 ∧ size ≤ (n : Int))
def takeNum (xs : List Int) (size : Int) : Int := if takeOk xs.length size = true then (numOf (xs.take size.toNat) : Int) else 0
def takeRest (xs : List Int) (size : Int) : List Int := if takeOk xs.length size = true then xs.drop size.toNat else []
def TakeEnds (xs : List Int) (size : Int) (w : World) (e : Ending) (w' : World) : Prop :=
  ∃ A n c, e = .returned (.tuple #[.int .u64 (takeNum xs size), .slice A n c, .bool (takeOk xs.length size)]) ∧ n = (takeRest xs size).length ∧ Own w' w.heap.size A c (takeRest xs size) ∧ Ext w w'
theorem take_no {xs : List Int} {size : Int} {w w' : World} (h : takeOk xs.length size = false) (hw : Ext w w') : TakeEnds xs size w (.returned (.tuple #[.int .u64 0, .slice none 0 0, .bool false])) w' := by
  have e1 : takeNum xs size = 0 := by unfold takeNum; rw [if_neg (by rw [h]; decide)]
  have e2 : takeRest xs size = [] := by unfold takeRest; rw [if_neg (by rw [h]; decide)]
  refine ⟨none, 0, 0, by rw [e1, h], by rw [e2]; rfl, ?_, hw⟩
  rw [e2]
  exact own_nil _ _
theorem take_yes {xs : List Int} {k n1 c1 : Nat} {A1 : Option Addr} {V : Int} {w w' : World} (h1 : 1 ≤ k) (h8 : k ≤ 8) (hk : k ≤ xs.length) (hV : V = (numOf (xs.take k) : Int)) (hn : n1 = (xs.drop k).length) (ho : Own w' w.heap.size A1 c1 (xs.drop k)) (hw : Ext w w') :
    TakeEnds xs (k : Int) w (.returned (.tuple #[.int .u64 V, .slice A1 n1 c1, .bool true])) w' := by
  have h : takeOk xs.length (k : Int) = true := by unfold takeOk; simp; omega
  have e1 : takeNum xs (k : Int) = V := by unfold takeNum; rw [if_pos h, hV, Int.toNat_natCast]
  have e2 : takeRest xs (k : Int) = xs.drop k := by unfold takeRest; rw [if_pos h, Int.toNat_natCast]
  exact ⟨A1, n1, c1, by rw [e1, h], by rw [e2]; exact hn, by rw [e2]; exact ho, hw⟩

/-- A byte more, by 'or' of what is shifted. -/
theorem or_num {xs : List Int} {i : Nat} {V x : Int} (hV : V = (numOf (xs.take i) : Int)) (hi : i ≤ 7) (hlt : i < xs.length) (hx : x = xs.getD i 0) (hb : 0 ≤ x ∧ x < 256) (hbs : IsBytes xs) :
    bits .or .u64 V (IntKind.u64.wrap (x * 2 ^ (8 * i))) = (numOf (xs.take (i + 1)) : Int) := by
  have hl : (xs.take i).length = i := by rw [List.length_take]; omega
  have hv := numOf_lt (xs.take i) (hbs.take i)
  rw [hl, pow8] at hv
  have hp : (2 : Nat) ^ (8 * i) ≤ 72057594037927936 := by
    have h1 : (2 : Nat) ^ (8 * i) ≤ 2 ^ 56 := Nat.pow_le_pow_right (by omega) (by omega)
    have h2 : (2 : Nat) ^ 56 = 72057594037927936 := by decide
    omega
  have e1 : x * 2 ^ (8 * i) = ((x.toNat * 2 ^ (8 * i) : Nat) : Int) := by
    rw [Int.natCast_mul, Int.toNat_of_nonneg (by omega)]
    simp
  have hbig : x.toNat * 2 ^ (8 * i) ≤ 255 * 72057594037927936 := Nat.mul_le_mul (by omega) hp
  rw [e1, hV, show IntKind.u64.wrap (((x.toNat * 2 ^ (8 * i) : Nat) : Int)) = ((x.toNat * 2 ^ (8 * i) : Nat) : Int) by rw [IntKind.wrap_u64]; omega]
  rw [u64_or_nat _ _ (by omega) (by omega), or_group _ _ _ hv, take_snoc_getD _ _ hlt, numOf_snoc, hl, pow8, hx]

def NumAt (xs : List Int) (k : Nat) (u i : Value) : Prop :=
  ∃ (j : Nat) (V : Int), j ≤ k ∧ i = .int .i64 (j : Int) ∧ u = .int .u64 V ∧ V = (numOf (xs.take j) : Int)

set_option maxHeartbeats 1000000 in
theorem take_bad (A : Option Addr) (n c : Nat) (xs : List Int) (size : Int) (w : World) (hn : n = xs.length) (hl : n ≤ 900000) (hs1 : -9223372036854775808 ≤ size) (hs2 : size ≤ 9223372036854775807) (hbad : takeOk n size = false) :
    Calls Try.prog 56 #[.slice A n c, .int .i64 size] w (TakeEnds xs size w) := by
  have HB : Hid (takeOk xs.length size = false) := by rw [← hn]; exact hbad
  have hb : size < 1 ∨ 8 < size ∨ (n : Int) < size := by
    unfold takeOk at hbad
    simp at hbad
    omega
  clear hbad hn
  by_cases h1 : size < 1
  · clear hb
    go_enter Try.func56, Try.ntmps56
    go_wp2
    go_ret3
    exact take_no HB.out (Ext.refl _)
  · by_cases h8 : 8 < size
    · clear hb
      go_enter Try.func56, Try.ntmps56
      go_wp2
      go_ret3
      exact take_no HB.out (Ext.refl _)
    · have h3 : (n : Int) < size := by omega
      clear hb
      go_enter Try.func56, Try.ntmps56
      go_wp2
      go_ret3
      exact take_no HB.out ((Below.refl _ _).alloc (Nat.le_refl _) _)

set_option maxHeartbeats 1000000 in
theorem take_good (b o n c : Nat) (xs : List Int) (k : Nat) (w : World) (hn : n = xs.length) (hs : Src .u8 w (some ⟨b, o, none⟩) xs) (hx : IsBytes xs) (hl : n ≤ 900000) (hc : n ≤ c) (_hcm : c ≤ 9223372036854775807) (h1 : 1 ≤ k) (h8 : k ≤ 8) (hk : k ≤ n) :
    Calls Try.prog 56 #[.slice (some ⟨b, o, none⟩) n c, .int .i64 (k : Int)] w (TakeEnds xs (k : Int) w) := by
  have Hn := Lib.hid hn
  have Hs := Lib.hid hs
  have Hx := Lib.hid hx
  clear hn hs hx
  have k3 : (n : Int) ≤ (c : Int) := by omega
  go_enter Try.func56, Try.ntmps56
  go_wp2
  go_loop [4, 23] (fun u i => NumAt xs k u i) (fun _ i => 10 - (intOf i).toNat)
  case atStart => exact ⟨0, 0, by omega, rfl, rfl, rfl⟩
  case round =>
    obtain ⟨j, V, hj, rfl, rfl, hV⟩ := hrel
    have HV := Lib.hid hV
    clear hV
    by_cases hlt : j < k
    · obtain ⟨x, HX⟩ : ∃ x, Hid (x = xs.getD j 0) := ⟨_, rfl⟩
      have hcA : (w.alloc (.cells #[.int .u64 (n : Int)] 52)).cell? ⟨b, o + j, none⟩ = some (.int .u8 x) := by
        obtain ⟨b', o', he, _, hcell⟩ := Src.keep Hs.out ((Below.refl _ _).alloc (Nat.le_refl _) (.cells #[.int .u64 (n : Int)] 52)) (by rw [← Hn.out]; omega)
        injection he with he
        injection he with hb ho _
        subst hb; subst ho
        rw [HX.out]
        exact hcell j (by rw [← Hn.out]; omega)
      have hbx : 0 ≤ x ∧ x < 256 := by rw [HX.out]; exact Hx.out.at_ j
      go_wp2_with fail
      go_round
      case rel => exact ⟨j + 1, _, by omega, by go_num, rfl, or_num HV.out (by omega) (by rw [← Hn.out]; omega) HX.out hbx Hx.out⟩
      case measure => simp [intOf]; omega
    · obtain rfl : j = k := by omega
      have hsrc := Src.drop Hs.out j c (by rw [← Hn.out]; omega) (by rw [← Hn.out]; omega)
      have hadd : (⟨b, o, none⟩ : Addr).add j = ⟨b, o + j, none⟩ := by unfold Addr.add; split <;> simp_all
      have hlen : n - j = (xs.drop j).length := by rw [List.length_drop, ← Hn.out]
      have HL := Lib.hid hlen
      clear hlen
      by_cases hcj : c = j
      · rw [if_pos hcj] at hsrc
        have HS := Lib.hid hsrc
        clear hsrc hadd
        subst hcj
        go_wp2_with fail
        refine (own_any (some ⟨b, o, none⟩) 0 0 (xs.drop c) _ (by rw [List.length_drop, ← Hn.out]; omega) (Src.keep HS.out ((Below.refl _ _).alloc (Nat.le_refl _) _)) (by omega)).mono ?_
        rintro e w2 ⟨v2, rfl, A2, n2, c2, rfl, hn2, ho2, hb2⟩
        have HN2 := Lib.hid hn2
        clear hn2
        go_wp2_with fail
        go_ret3
        exact take_yes h1 h8 (by rw [← Hn.out]; omega) HV.out HN2.out (ho2.more (by simp)) (Ext.trans ((Below.refl _ _).alloc (Nat.le_refl _) _) hb2)
      · rw [if_neg hcj] at hsrc
        simp only [Option.map_some, hadd] at hsrc
        have HS := Lib.hid hsrc
        clear hsrc hadd
        have hcj' : j < c := by omega
        go_wp2_with fail
        refine (own_any (some ⟨b, o + j, none⟩) (n - j) (c - j) (xs.drop j) _ HL.out (Src.keep HS.out ((Below.refl _ _).alloc (Nat.le_refl _) _)) (by omega)).mono ?_
        rintro e w2 ⟨v2, rfl, A2, n2, c2, rfl, hn2, ho2, hb2⟩
        have HN2 := Lib.hid hn2
        clear hn2
        go_wp2_with fail
        go_ret3
        exact take_yes h1 h8 (by rw [← Hn.out]; omega) HV.out HN2.out (ho2.more (by simp)) (Ext.trans ((Below.refl _ _).alloc (Nat.le_refl _) _) hb2)

/-- Take, for any bytes and any size. -/
theorem take_any (A : Option Addr) (n c : Nat) (xs : List Int) (size : Int) (w : World) (hn : n = xs.length) (hs : Src .u8 w A xs) (hx : IsBytes xs) (hl : n ≤ 900000) (hc : n ≤ c) (hcm : c ≤ 9223372036854775807) (hs1 : -9223372036854775808 ≤ size) (hs2 : size ≤ 9223372036854775807) :
    Calls Try.prog 56 #[.slice A n c, .int .i64 size] w (TakeEnds xs size w) := by
  cases hk : takeOk n size with
  | false => exact take_bad A n c xs size w hn hl hs1 hs2 hk
  | true =>
    have h : 1 ≤ size ∧ size ≤ 8 ∧ size ≤ (n : Int) := of_decide_eq_true hk
    obtain ⟨k, rfl⟩ := Int.eq_ofNat_of_zero_le (a := size) (by omega)
    obtain ⟨b, o, rfl, _, _⟩ := hs (by omega)
    exact take_good b o n c xs k w hn hs hx hl hc hcm (by omega) (by omega) (by omega)

end Go.Proofs.Ytnoofmdhhlcbkaa

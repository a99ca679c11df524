/- ReadShort, the document's own: for any bytes (at most 800000 of them): the number, how many bytes, and the error that readOf tells; nothing is written. -/
import Derived.Test.YtnoofmdhhlcbkaaRead
namespace Go.Proofs.Ytnoofmdhhlcbkaa
open Go.RowKit

def LeadAt (xs : List Int) (i : Value) : Prop :=
  ∃ k : Nat, k ≤ 10 ∧ k ≤ xs.length ∧ (∀ j, j < k → 128 ≤ xs.getD j 0) ∧ i = .int .i64 (k : Int)
/-- At the head of the second loop: what is behind is reckoned. -/
def BackAt (l : List Int) (u i : Value) : Prop :=
  ∃ (k : Nat) (q V : Int), k ≤ l.length ∧ q = (k : Int) - 1 ∧ i = .int .i64 q ∧ u = .int .u64 V ∧ V = (valOf (l.drop k) : Int)

theorem valOf_drop_le (l : List Int) (j : Nat) : valOf (l.drop j) ≤ valOf l := by
  induction l generalizing j with
  | nil => simp
  | cons b r ih =>
    cases j with
    | zero => simp
    | succ j => rw [List.drop_succ_cons, valOf]; have := ih j; omega
theorem val_fits {xs : List Int} {k : Nat} {x : Int} (hk9 : k ≤ 9) (hlt : k < xs.length) (hx : x = xs.getD k 0) (h9 : k = 9 → x ≤ 1) (hb : 0 ≤ x ∧ x < 256) : valOf (xs.take (k + 1)) < 18446744073709551616 := by
  have hl : (xs.take k).length = k := by rw [List.length_take]; omega
  have hv := valOf_lt (xs.take k)
  rw [take_snoc_getD _ _ hlt, valOf_snoc, ← hx]
  rw [hl, pow7] at hv ⊢
  by_cases h : k = 9
  · subst h
    have := h9 rfl
    have e : (2 : Nat) ^ (7 * 9) = 9223372036854775808 := by decide
    rw [e] at hv ⊢
    have : (x % 128).toNat ≤ 1 := by omega
    omega
  · have h1 := pow_small k (by omega)
    have h2 : 2 ^ (7 * k) * (x % 128).toNat ≤ 72057594037927936 * 127 := Nat.mul_le_mul h1 (by omega)
    omega
theorem take_at (xs : List Int) (k j : Nat) (h : j < k + 1) : (xs.take (k + 1)).getD j 0 = xs.getD j 0 := by
  rw [List.getD_eq_getElem?_getD, List.getD_eq_getElem?_getD, List.getElem?_take, if_pos h]
/-- A round of the second loop. -/
theorem back_step {xs : List Int} {k j : Nat} {V : Int} (hlt : k < xs.length) (hf : valOf (xs.take (k + 1)) < 18446744073709551616) (hj : j + 1 ≤ (xs.take (k + 1)).length) (hV : V = (valOf ((xs.take (k + 1)).drop (j + 1)) : Int)) (hb : IsBytes xs) :
    V * 128 + xs.getD j 0 % 128 = (valOf ((xs.take (k + 1)).drop j) : Int) ∧ V * 128 + xs.getD j 0 % 128 < 18446744073709551616 ∧ 0 ≤ V ∧ j ≤ k := by
  have hl : (xs.take (k + 1)).length = k + 1 := by rw [List.length_take]; omega
  have h1 := valOf_cons_drop (xs.take (k + 1)) j (by omega)
  have h2 := valOf_drop_le (xs.take (k + 1)) j
  have h3 := hb.at_ j
  rw [take_at xs k j (by omega)] at h1
  omega
theorem back_start (xs : List Int) (k : Nat) (hlt : k < xs.length) : BackAt (xs.take (k + 1)) (.int .u64 0) (.int .i64 (k : Int)) :=
  ⟨k + 1, k, 0, by rw [List.length_take]; omega, by omega, rfl, rfl, by rw [List.drop_of_length_le (by rw [List.length_take]; omega)]; rfl⟩

set_option maxHeartbeats 1000000 in
theorem readRef_any (A : Option Addr) (n c : Nat) (xs : List Int) (w : World) (hn : n = xs.length) (hs : Src .u8 w A xs) (hx : IsBytes xs) (_hl : n ≤ 800000) :
    Calls Try.prog 44 #[.slice A n c] w (ReadEnds xs w) := by
  have Hn := Lib.hid hn
  clear hn
  go_enter Try.func44, Try.ntmps44
  go_wp2_with fail
  go_loop [5] (fun i => LeadAt xs i) (fun i => 10 - (intOf i).toNat)
  case atStart => exact ⟨0, by omega, by omega, fun j hj => by omega, rfl⟩
  case round =>
    obtain ⟨k, hk9, hk, hlead, rfl⟩ := hrel
    have Hl := Lib.hid hlead
    clear hlead
    by_cases hlt : k < xs.length ∧ k < 10
    · obtain ⟨hlt, h10⟩ := hlt
      obtain ⟨b, o, rfl, hb, hc⟩ := hs (by omega)
      have hkn : k < n := by rw [Hn.out]; exact hlt
      obtain ⟨x, Hx⟩ : ∃ x, Hid (x = xs.getD k 0) := ⟨_, rfl⟩
      have hck : w.cell? ⟨b, o + k, none⟩ = some (.int .u8 x) := by rw [Hx.out]; exact hc k hlt
      have hb : 0 ≤ x ∧ x < 256 := by rw [Hx.out]; exact hx.at_ k
      have Hlt := Lib.hid hlt
      have Hc := Lib.hid hc
      have HX := Lib.hid hx
      by_cases hx128 : 128 ≤ x
      · clear hs hx hc hlt hk
        go_wp2_with fail
        go_round
        case rel => exact ⟨k + 1, by omega, Hlt.out, lead_more Hl.out Hx.out hx128, by go_num⟩
        case measure => simp [intOf]; omega
      · have t10 : ((k : Int) == 10) = false := beq_eq_false_iff_ne.2 (by omega)
        have tn : ((k : Int) == (n : Int)) = false := beq_eq_false_iff_ne.2 (by omega)
        clear hs hc hlt hk hx
        by_cases hbad : (k = 9 ∧ 1 < x) ∨ (0 < k ∧ x = 0)
        · have hr : readOf xs = (0, 0, 11) := by
            have e := Hx.out
            refine readOf_form xs k Hl.out Hlt.out (by omega) (by omega) ?_
            rcases hbad with ⟨h1, h2⟩ | ⟨h1, h2⟩
            · subst h1; exact .inl ⟨rfl, by omega⟩
            · exact .inr ⟨h1, by omega⟩
          have Hr := Lib.hid hr
          clear hr
          by_cases h9 : k = 9
          · have t9 : ((k : Int) == 9) = true := by simp [h9]
            have hc9 : w.cell? ⟨b, o + 9, none⟩ = some (.int .u8 x) := by rw [← h9]; exact hck
            have i9 : (9 : Int) < (n : Int) := by omega
            have p9 : 0 < k := by omega
            by_cases h1 : 1 < x
            · clear hbad h9
              go_wp2_with fail
              go_ret3
              exact read_ends Hr.out rfl rfl rfl
            · have tz : (x == 0) = true := by rw [beq_iff_eq]; omega
              clear hbad h9
              go_wp2_with fail
              go_ret3
              exact read_ends Hr.out rfl rfl rfl
          · have t9 : ((k : Int) == 9) = false := beq_eq_false_iff_ne.2 (by omega)
            have p9 : 0 < k := by omega
            have tz : (x == 0) = true := by rw [beq_iff_eq]; omega
            clear hbad h9
            go_wp2_with fail
            go_ret3
            exact read_ends Hr.out rfl rfl rfl
        · have hr := readOf_ok xs k Hl.out Hlt.out (by rw [← Hx.out]; omega) (by omega) (by rintro ⟨h1, h2⟩; subst h1; have := Hx.out; omega) (by rw [← Hx.out]; omega)
          have hf := val_fits (k := k) (by omega) Hlt.out Hx.out (by omega) hb
          have Hr := Lib.hid hr
          have Hf := Lib.hid hf
          clear hr hf
          by_cases h9 : k = 9
          · have t9 : ((k : Int) == 9) = true := by simp [h9]
            have hc9 : w.cell? ⟨b, o + 9, none⟩ = some (.int .u8 x) := by rw [← h9]; exact hck
            have i9 : (9 : Int) < (n : Int) := by omega
            have p9 : 0 < k := by omega
            have h1 : ¬ 1 < x := by omega
            have tz : (x == 0) = false := beq_eq_false_iff_ne.2 (by omega)
            clear hbad h9
            go_wp2_with fail
            go_loop [6, 7] (fun u i => BackAt (xs.take (k + 1)) u i) (fun _ i => (intOf i + 1).toNat)
            case atStart => exact back_start xs k Hlt.out
            case round =>
              obtain ⟨j0, q, V, hj, hq, rfl, rfl, hV⟩ := hrel
              rcases j0 with _ | j
              · obtain rfl : q = -1 := by omega
                have HV := Lib.hid hV
                clear hV hq hj
                go_wp2_with fail
                go_ret3
                exact read_ends Hr.out HV.out (by omega) rfl
              · obtain rfl : q = (j : Int) := by omega
                obtain ⟨hs1, hs2, hs3, hs4⟩ := back_step Hlt.out Hf.out hj hV HX.out
                obtain ⟨y, Hy⟩ : ∃ y, Hid (y = xs.getD j 0) := ⟨_, rfl⟩
                have hcj : w.cell? ⟨b, o + j, none⟩ = some (.int .u8 y) := by rw [Hy.out]; exact Hc.out j (by have := Hlt.out; omega)
                have hbj : 0 ≤ y ∧ y < 256 := by rw [Hy.out]; exact HX.out.at_ j
                have hs5 : V * 128 + y % 128 < 18446744073709551616 := by rw [Hy.out]; exact hs2
                have HS : Hid (V * 128 + y % 128 = (valOf ((xs.take (k + 1)).drop j) : Int)) := by rw [Hy.out]; exact hs1
                clear hs1 hs2 hV hq
                go_wp2_with fail
                go_round
                case rel => exact ⟨j, _, _, by omega, rfl, rfl, rfl, HS.out⟩
                case measure => simp [intOf]
          · have t9 : ((k : Int) == 9) = false := beq_eq_false_iff_ne.2 (by omega)
            by_cases p9 : 0 < k
            · have tz : (x == 0) = false := beq_eq_false_iff_ne.2 (by omega)
              clear hbad h9
              go_wp2_with fail
              go_loop [6, 7] (fun u i => BackAt (xs.take (k + 1)) u i) (fun _ i => (intOf i + 1).toNat)
              case atStart => exact back_start xs k Hlt.out
              case round =>
                obtain ⟨j0, q, V, hj, hq, rfl, rfl, hV⟩ := hrel
                rcases j0 with _ | j
                · obtain rfl : q = -1 := by omega
                  have HV := Lib.hid hV
                  clear hV hq hj
                  go_wp2_with fail
                  go_ret3
                  exact read_ends Hr.out HV.out (by omega) rfl
                · obtain rfl : q = (j : Int) := by omega
                  obtain ⟨hs1, hs2, hs3, hs4⟩ := back_step Hlt.out Hf.out hj hV HX.out
                  obtain ⟨y, Hy⟩ : ∃ y, Hid (y = xs.getD j 0) := ⟨_, rfl⟩
                  have hcj : w.cell? ⟨b, o + j, none⟩ = some (.int .u8 y) := by rw [Hy.out]; exact Hc.out j (by have := Hlt.out; omega)
                  have hbj : 0 ≤ y ∧ y < 256 := by rw [Hy.out]; exact HX.out.at_ j
                  have hs5 : V * 128 + y % 128 < 18446744073709551616 := by rw [Hy.out]; exact hs2
                  have HS : Hid (V * 128 + y % 128 = (valOf ((xs.take (k + 1)).drop j) : Int)) := by rw [Hy.out]; exact hs1
                  clear hs1 hs2 hV hq
                  go_wp2_with fail
                  go_round
                  case rel => exact ⟨j, _, _, by omega, rfl, rfl, rfl, HS.out⟩
                  case measure => simp [intOf]
            · clear hbad h9
              go_wp2_with fail
              go_loop [6, 7] (fun u i => BackAt (xs.take (k + 1)) u i) (fun _ i => (intOf i + 1).toNat)
              case atStart => exact back_start xs k Hlt.out
              case round =>
                obtain ⟨j0, q, V, hj, hq, rfl, rfl, hV⟩ := hrel
                rcases j0 with _ | j
                · obtain rfl : q = -1 := by omega
                  have HV := Lib.hid hV
                  clear hV hq hj
                  go_wp2_with fail
                  go_ret3
                  exact read_ends Hr.out HV.out (by omega) rfl
                · obtain rfl : q = (j : Int) := by omega
                  obtain ⟨hs1, hs2, hs3, hs4⟩ := back_step Hlt.out Hf.out hj hV HX.out
                  obtain ⟨y, Hy⟩ : ∃ y, Hid (y = xs.getD j 0) := ⟨_, rfl⟩
                  have hcj : w.cell? ⟨b, o + j, none⟩ = some (.int .u8 y) := by rw [Hy.out]; exact Hc.out j (by have := Hlt.out; omega)
                  have hbj : 0 ≤ y ∧ y < 256 := by rw [Hy.out]; exact HX.out.at_ j
                  have hs5 : V * 128 + y % 128 < 18446744073709551616 := by rw [Hy.out]; exact hs2
                  have HS : Hid (V * 128 + y % 128 = (valOf ((xs.take (k + 1)).drop j) : Int)) := by rw [Hy.out]; exact hs1
                  clear hs1 hs2 hV hq
                  go_wp2_with fail
                  go_round
                  case rel => exact ⟨j, _, _, by omega, rfl, rfl, rfl, HS.out⟩
                  case measure => simp [intOf]
    · have e := Hn.out
      by_cases h10 : k = 10
      · have t10 : ((k : Int) == 10) = true := by simp [h10]
        have hr : readOf xs = (0, 0, 11) := readOf_long xs (by omega) (fun j hj => Hl.out j (by omega))
        have Hr := Lib.hid hr
        by_cases hkl : k < n
        · obtain ⟨b, o, rfl, hb, hc⟩ := hs (by omega)
          have hk10 : ¬ k < 10 := by omega
          clear hr hx e hlt h10 hk hc
          go_wp2_with fail
          go_ret3
          exact read_ends Hr.out rfl rfl rfl
        · clear hr hx e hlt h10 hk hs
          go_wp2_with fail
          go_ret3
          exact read_ends Hr.out rfl rfl rfl
      · have t10 : ((k : Int) == 10) = false := beq_eq_false_iff_ne.2 (by omega)
        have tn : ((k : Int) == (n : Int)) = true := by rw [beq_iff_eq]; omega
        have hkl : ¬ k < n := by omega
        have hr : readOf xs = (0, 0, 10) := readOf_end xs (by omega) (fun j hj => Hl.out j (by omega))
        have Hr := Lib.hid hr
        clear hr hx e hlt h10 hk hs
        go_wp2_with fail
        go_ret3
        exact read_ends Hr.out rfl rfl rfl
end Go.Proofs.Ytnoofmdhhlcbkaa

/- The document's Take, for any bytes (at most 900000) and any int as the size: as the program's. -/
import Derived.Test.YtnoofmdhhlcbkaaTake
namespace Go.Proofs.Ytnoofmdhhlcbkaa
open Go.RowKit

theorem numOf_drop_le (l : List Int) (h : IsBytes l) (j : Nat) : numOf (l.drop j) ≤ numOf l := by
  induction l generalizing j with
  | nil => simp
  | cons b r ih =>
    cases j with
    | zero => simp
    | succ j => rw [List.drop_succ_cons, numOf]; have := ih (fun x hx => h x (by simp [hx])) j; omega
/-- At the head of the document's loop: what is behind is reckoned. -/
def NumBack (l : List Int) (u i : Value) : Prop :=
  ∃ (j : Nat) (q V : Int), j ≤ l.length ∧ q = (j : Int) - 1 ∧ i = .int .i64 q ∧ u = .int .u64 V ∧ V = (numOf (l.drop j) : Int)
theorem num_step {xs : List Int} {k j : Nat} {V : Int} (hk : k ≤ xs.length) (h8 : k ≤ 8) (hb : IsBytes xs) (hj : j + 1 ≤ (xs.take k).length) (hV : V = (numOf ((xs.take k).drop (j + 1)) : Int)) :
    V * 256 + xs.getD j 0 = (numOf ((xs.take k).drop j) : Int) ∧ V * 256 + xs.getD j 0 < 18446744073709551616 ∧ 0 ≤ V ∧ j < k := by
  have hl : (xs.take k).length = k := by rw [List.length_take]; omega
  have h1 := numOf_cons_drop (xs.take k) j (by omega)
  have h2 := numOf_drop_le (xs.take k) (hb.take k) j
  have h3 := hb.at_ j
  have h4 := numOf_lt (xs.take k) (hb.take k)
  have h5 : (256 : Nat) ^ (xs.take k).length ≤ 256 ^ 8 := Nat.pow_le_pow_right (by omega) (by omega)
  have h6 : (256 : Nat) ^ 8 = 18446744073709551616 := by decide
  have h7 : (xs.take k).getD j 0 = xs.getD j 0 := by rw [List.getD_eq_getElem?_getD, List.getD_eq_getElem?_getD, List.getElem?_take, if_pos (by omega)]
  rw [h7] at h1
  omega

set_option maxHeartbeats 1000000 in
theorem takeRef_bad (A : Option Addr) (n c : Nat) (xs : List Int) (size : Int) (w : World) (hn : n = xs.length) (_hl : n ≤ 900000) (hs1 : -9223372036854775808 ≤ size) (hs2 : size ≤ 9223372036854775807) (hbad : takeOk n size = false) :
    Calls Try.prog 46 #[.slice A n c, .int .i64 size] w (TakeEnds xs size w) := by
  have HB : Hid (takeOk xs.length size = false) := by rw [← hn]; exact hbad
  have hb : size < 1 ∨ 8 < size ∨ (n : Int) < size := by
    unfold takeOk at hbad
    simp at hbad
    omega
  clear hbad hn
  by_cases h1 : size < 1
  · clear hb
    go_enter Try.func46, Try.ntmps46
    go_wp2
    go_ret3
    exact take_no HB.out (Ext.refl _)
  · by_cases h8 : 8 < size
    · clear hb
      go_enter Try.func46, Try.ntmps46
      go_wp2
      go_ret3
      exact take_no HB.out (Ext.refl _)
    · have h3 : (n : Int) < size := by omega
      clear hb
      go_enter Try.func46, Try.ntmps46
      go_wp2
      go_ret3
      exact take_no HB.out (Ext.refl _)

set_option maxHeartbeats 1000000 in
theorem takeRef_good (b o n c : Nat) (xs : List Int) (k : Nat) (w : World) (hn : n = xs.length) (hs : Src .u8 w (some ⟨b, o, none⟩) xs) (hx : IsBytes xs) (hl : n ≤ 900000) (hc : n ≤ c) (_hcm : c ≤ 9223372036854775807) (h1 : 1 ≤ k) (h8 : k ≤ 8) (hk : k ≤ n) :
    Calls Try.prog 46 #[.slice (some ⟨b, o, none⟩) n c, .int .i64 (k : Int)] w (TakeEnds xs (k : Int) w) := by
  have Hn := Lib.hid hn
  have Hs := Lib.hid hs
  have Hx := Lib.hid hx
  clear hn hs hx
  have k3 : (n : Int) ≤ (c : Int) := by omega
  go_enter Try.func46, Try.ntmps46
  go_wp2
  go_loop [7, 8] (fun u i => NumBack (xs.take k) u i) (fun _ i => (intOf i + 1).toNat)
  case atStart => exact ⟨k, _, 0, by rw [List.length_take, ← Hn.out]; omega, rfl, rfl, rfl, by rw [List.drop_of_length_le (by rw [List.length_take]; omega)]; rfl⟩
  case round =>
    obtain ⟨j0, q, V, hj, hq, rfl, rfl, hV⟩ := hrel
    rcases j0 with _ | j
    · obtain rfl : q = -1 := by omega
      have HV := Lib.hid hV
      clear hV hq hj
      have hsrc := Src.drop Hs.out k c (by rw [← Hn.out]; omega) (by rw [← Hn.out]; omega)
      have hadd : (⟨b, o, none⟩ : Addr).add k = ⟨b, o + k, none⟩ := by unfold Addr.add; split <;> simp_all
      by_cases hck : c = k
      · rw [if_pos hck] at hsrc
        have HS := Lib.hid hsrc
        clear hsrc hadd
        subst hck
        go_wp2_with (at_builtin; refine wpList_append_src rfl _ _ rfl w.heap.size _ _ _ [] rfl rfl (own_made w _ (Nat.le_refl _)) (some ⟨b, o, none⟩) 0 0 (xs.drop c) rfl (by rw [List.length_drop, ← Hn.out]; omega) (Src.keep HS.out ((Below.refl _ _).alloc (Nat.le_refl _) _)) (by omega) (by simp) ?_; rintro v w2 ⟨A2, n2, c2, rfl, hn2, ho2, hb2⟩; have HN2 := Lib.hid hn2; clear hn2)
        go_ret3
        exact take_yes h1 h8 (by rw [← Hn.out]; omega) HV.out HN2.out ho2 (((Below.refl _ _).alloc (Nat.le_refl _) _).trans hb2)
      · rw [if_neg hck] at hsrc
        simp only [Option.map_some, hadd] at hsrc
        have HS := Lib.hid hsrc
        clear hsrc hadd
        have hck' : k < c := by omega
        go_wp2_with (at_builtin; refine wpList_append_src rfl _ _ rfl w.heap.size _ _ _ [] rfl rfl (own_made w _ (Nat.le_refl _)) (some ⟨b, o + k, none⟩) (n - k) (c - k) (xs.drop k) rfl (by rw [List.length_drop, ← Hn.out]) (Src.keep HS.out ((Below.refl _ _).alloc (Nat.le_refl _) _)) (by omega) (by simp) ?_; rintro v w2 ⟨A2, n2, c2, rfl, hn2, ho2, hb2⟩; have HN2 := Lib.hid hn2; clear hn2)
        go_ret3
        exact take_yes h1 h8 (by rw [← Hn.out]; omega) HV.out HN2.out ho2 (((Below.refl _ _).alloc (Nat.le_refl _) _).trans hb2)
    · obtain rfl : q = (j : Int) := by omega
      obtain ⟨s1, s2, s3, s4⟩ := num_step (by rw [← Hn.out]; exact hk) h8 Hx.out hj hV
      obtain ⟨x, HX⟩ : ∃ x, Hid (x = xs.getD j 0) := ⟨_, rfl⟩
      have hcj : w.cell? ⟨b, o + j, none⟩ = some (.int .u8 x) := by
        obtain ⟨b', o', he, _, hcell⟩ := Hs.out (by rw [← Hn.out]; omega)
        injection he with he
        injection he with hb ho _
        subst hb; subst ho
        rw [HX.out]
        exact hcell j (by rw [← Hn.out]; omega)
      have hbx : 0 ≤ x ∧ x < 256 := by rw [HX.out]; exact Hx.out.at_ j
      have s5 : V * 256 + x < 18446744073709551616 := by rw [HX.out]; exact s2
      have HS : Hid (V * 256 + x = (numOf ((xs.take k).drop j) : Int)) := by rw [HX.out]; exact s1
      have jn : (j : Int) < (n : Int) := by omega
      clear s1 s2 hV hq
      go_wp2_with fail
      go_round
      case rel => exact ⟨j, _, _, by omega, rfl, rfl, rfl, HS.out⟩
      case measure => simp [intOf]

theorem takeRef_any (A : Option Addr) (n c : Nat) (xs : List Int) (size : Int) (w : World) (hn : n = xs.length) (hs : Src .u8 w A xs) (hx : IsBytes xs) (hl : n ≤ 900000) (hc : n ≤ c) (hcm : c ≤ 9223372036854775807) (hs1 : -9223372036854775808 ≤ size) (hs2 : size ≤ 9223372036854775807) :
    Calls Try.prog 46 #[.slice A n c, .int .i64 size] w (TakeEnds xs size w) := by
  cases hk : takeOk n size with
  | false => exact takeRef_bad A n c xs size w hn hl hs1 hs2 hk
  | true =>
    have h : 1 ≤ size ∧ size ≤ 8 ∧ size ≤ (n : Int) := of_decide_eq_true hk
    obtain ⟨k, rfl⟩ := Int.eq_ofNat_of_zero_le (a := size) (by omega)
    obtain ⟨b, o, rfl, _, _⟩ := hs (by omega)
    exact takeRef_good b o n c xs k w hn hs hx hl hc hcm (by omega) (by omega) (by omega)
end Go.Proofs.Ytnoofmdhhlcbkaa

/- Those of a list of spans that a look takes out of it, as a list of its own: for each look that the program hands over. No conditions but those that stand in each lemma. -/
import Derived.Test.YtnlkljmboifnkaaSpFit
namespace Go.Proofs.Ytnlkljmboifnkaa
open Go.RowKit

theorem Try.spans : SpTypes Try.prog 25 23 := ⟨Try.underlying25, by kernel_rfl⟩
/-- At a round's head. -/
def TakenAt (w : World) (p : Sp → Bool) (l : List Sp) (out i : Value) (wr : World) : Prop :=
  ∃ (k : Nat) (A2 : Option Addr) (n2 c2 : Nat), k ≤ l.length ∧ i = .int .i64 (k : Int) ∧ out = .slice A2 n2 c2 ∧ n2 = ((l.take k).filter p).length ∧ SpOwn wr w.heap.size 23 A2 c2 ((l.take k).filter p) ∧ Below w.heap.size w wr
theorem filter_next (p : Sp → Bool) (l : List Sp) (k : Nat) (h : k < l.length) (x y : Int) (hx : (l.getD k spZ).1 = x) (hy : (l.getD k spZ).2 = y) : (l.take (k + 1)).filter p = (l.take k).filter p ++ if p (x, y) then [(x, y)] else [] := by
  have e : l[k] = (x, y) := by
    rw [List.getD_eq_getElem?_getD, List.getElem?_eq_getElem h] at hx hy
    exact Prod.ext hx hy
  rw [List.take_succ_eq_append_getElem h, List.filter_append, e]
  congr 1
  simp only [List.filter_cons, List.filter_nil]
theorem filter_take_le (p : Sp → Bool) (l : List Sp) (k : Nat) : ((l.take k).filter p).length ≤ l.length := by
  have h1 := List.length_filter_le p (l.take k)
  have h2 : (l.take k).length ≤ l.length := by rw [List.length_take]; omega
  omega

set_option maxHeartbeats 2000000 in
theorem taken_ahead (p : Sp → Bool) (S : Nat) (A : Option Addr) (n c : Nat) (l : List Sp) (w : World) (hn : n = l.length) (hs : SpSrc w A l) (hl : n ≤ 200000)
    (hp : ∀ (x y : Int) (w1 : World), Below w.heap.size w w1 → Calls Try.prog 34 #[.agg #[.int .i64 x, .int .i64 y], .pointer (some ⟨S, 0, none⟩)] w1 fun e w' => e = .returned (.bool (p (x, y))) ∧ Below w1.heap.size w1 w') :
    Calls Try.prog 32 #[.slice A n c, .func (.func 34) #[] #[.pointer (some ⟨S, 0, none⟩)]] w (GivesS w 23 (l.filter p)) := by
  have Hn := Lib.hid hn
  have Hs := Lib.hid hs
  have HP := Lib.hid hp
  clear hn hs hp
  go_enter Try.func32, Try.ntmps32
  go_wp2_with fail
  go_loopw [5, 11] (fun out i wr => TakenAt w p l out i wr) (fun _ i _ => n - (intOf i).toNat)
  case atStart => exact ⟨0, _, 0, 0, Nat.zero_le _, rfl, rfl, rfl, spown_made w _ _ (Nat.le_refl _), (Below.refl _ _).alloc (Nat.le_refl _) _⟩
  case round =>
    obtain ⟨k, A2, n2, c2, hk, rfl, rfl, hn2, ho2, hb⟩ := hrel
    have HN2 := Lib.hid hn2
    have HO2 := Lib.hid ho2
    clear hn2 ho2
    by_cases hlt : k < l.length
    · obtain ⟨b, o, rfl, hbl, hcell⟩ := Hs.out (by omega)
      have c0 := (hb.cell (p := ⟨b, o + k * 2, none⟩) hbl).trans (hcell k hlt).1
      have c1 := (hb.cell (p := ⟨b, o + k * 2 + 1, none⟩) hbl).trans (hcell k hlt).2
      have hkn : k < n := by have := Hn.out; omega
      have hle : n2 ≤ n := by have := filter_take_le p l k; rw [← HN2.out, ← Hn.out] at this; exact this
      have HX := fun x y => filter_next p l k hlt x y
      clear hcell
      obtain ⟨x, hx⟩ : ∃ x, (l.getD k spZ).1 = x := ⟨_, rfl⟩
      obtain ⟨y, hy⟩ : ∃ y, (l.getD k spZ).2 = y := ⟨_, rfl⟩
      have HX2 := HX x y hx hy
      rw [hx] at c0
      rw [hy] at c1
      have HP2 := HP.out x y
      obtain ⟨t, ht⟩ : ∃ t, p (x, y) = t := ⟨_, rfl⟩
      rw [ht] at HX2 HP2
      have HX3 := Lib.hid HX2
      have HP3 := Lib.hid HP2
      have hsz := hb.size
      clear HX HX2 HP2 hx hy ht HP
      go_wp2_with fail
      refine (HP3.out _ (hb.alloc hsz _)).mono ?_
      rintro e w1 ⟨rfl, hb1⟩
      obtain ⟨d0, d1, hb1'⟩ := sp_new hb1
      have hb2 := hb.trans (hb1'.mono hsz)
      have HO3 := Lib.hid (HO2.out.keep hb1')
      have hsz2 := hb2.size
      clear hb1 hb1' HO2 HP3
      cases t
      · go_wp2_with fail
        go_roundw
        case rel => exact ⟨k + 1, A2, n2, c2, by omega, by go_num, rfl, by rw [HX3.out]; simpa using HN2.out, by rw [HX3.out]; simpa using HO3.out, hb2⟩
        case measure => simp [intOf]; omega
      · go_wp2_with (at_builtin; refine wpList_append_sp Try.spans rfl _ _ rfl w.heap.size A2 n2 c2 ((l.take k).filter p) rfl HN2.out (HO3.out.keep ((Below.refl _ _).alloc (Nat.le_refl _) _)) _ _ _ [(x, y)] rfl rfl (spsrc_one _ _ rfl x y _) (by omega) (by simp; omega) ?_; rintro v w4 ⟨A4, n4, c4, rfl, hn4, ho4, hb4⟩; have HN4 := Lib.hid hn4; clear hn4)
        have hb5 := hb2.trans ((((Below.refl w1.heap.size w1).alloc (Nat.le_refl _) _).mono hsz2).trans hb4)
        go_roundw
        case rel => exact ⟨k + 1, A4, n4, c4, by omega, by go_num, rfl, by rw [HX3.out]; exact HN4.out, by rw [HX3.out]; exact ho4, hb5⟩
        case measure => simp [intOf]; omega
    · obtain rfl : k = n := by have := Hn.out; omega
      have HT := Lib.hid (show l.take k = l from List.take_of_length_le (by rw [← Hn.out]; exact Nat.le_refl _))
      go_wp2_with fail
      go_ret
      exact ⟨_, rfl, A2, n2, c2, rfl, by rw [← HT.out]; exact HN2.out, by rw [← HT.out]; exact HO2.out, hb⟩

set_option maxHeartbeats 2000000 in
theorem taken_behind (p : Sp → Bool) (S : Nat) (A : Option Addr) (n c : Nat) (l : List Sp) (w : World) (hn : n = l.length) (hs : SpSrc w A l) (hl : n ≤ 200000)
    (hp : ∀ (x y : Int) (w1 : World), Below w.heap.size w w1 → Calls Try.prog 35 #[.agg #[.int .i64 x, .int .i64 y], .pointer (some ⟨S, 0, none⟩)] w1 fun e w' => e = .returned (.bool (p (x, y))) ∧ Below w1.heap.size w1 w') :
    Calls Try.prog 32 #[.slice A n c, .func (.func 35) #[] #[.pointer (some ⟨S, 0, none⟩)]] w (GivesS w 23 (l.filter p)) := by
  have Hn := Lib.hid hn
  have Hs := Lib.hid hs
  have HP := Lib.hid hp
  clear hn hs hp
  go_enter Try.func32, Try.ntmps32
  go_wp2_with fail
  go_loopw [5, 11] (fun out i wr => TakenAt w p l out i wr) (fun _ i _ => n - (intOf i).toNat)
  case atStart => exact ⟨0, _, 0, 0, Nat.zero_le _, rfl, rfl, rfl, spown_made w _ _ (Nat.le_refl _), (Below.refl _ _).alloc (Nat.le_refl _) _⟩
  case round =>
    obtain ⟨k, A2, n2, c2, hk, rfl, rfl, hn2, ho2, hb⟩ := hrel
    have HN2 := Lib.hid hn2
    have HO2 := Lib.hid ho2
    clear hn2 ho2
    by_cases hlt : k < l.length
    · obtain ⟨b, o, rfl, hbl, hcell⟩ := Hs.out (by omega)
      have c0 := (hb.cell (p := ⟨b, o + k * 2, none⟩) hbl).trans (hcell k hlt).1
      have c1 := (hb.cell (p := ⟨b, o + k * 2 + 1, none⟩) hbl).trans (hcell k hlt).2
      have hkn : k < n := by have := Hn.out; omega
      have hle : n2 ≤ n := by have := filter_take_le p l k; rw [← HN2.out, ← Hn.out] at this; exact this
      have HX := fun x y => filter_next p l k hlt x y
      clear hcell
      obtain ⟨x, hx⟩ : ∃ x, (l.getD k spZ).1 = x := ⟨_, rfl⟩
      obtain ⟨y, hy⟩ : ∃ y, (l.getD k spZ).2 = y := ⟨_, rfl⟩
      have HX2 := HX x y hx hy
      rw [hx] at c0
      rw [hy] at c1
      have HP2 := HP.out x y
      obtain ⟨t, ht⟩ : ∃ t, p (x, y) = t := ⟨_, rfl⟩
      rw [ht] at HX2 HP2
      have HX3 := Lib.hid HX2
      have HP3 := Lib.hid HP2
      have hsz := hb.size
      clear HX HX2 HP2 hx hy ht HP
      go_wp2_with fail
      refine (HP3.out _ (hb.alloc hsz _)).mono ?_
      rintro e w1 ⟨rfl, hb1⟩
      obtain ⟨d0, d1, hb1'⟩ := sp_new hb1
      have hb2 := hb.trans (hb1'.mono hsz)
      have HO3 := Lib.hid (HO2.out.keep hb1')
      have hsz2 := hb2.size
      clear hb1 hb1' HO2 HP3
      cases t
      · go_wp2_with fail
        go_roundw
        case rel => exact ⟨k + 1, A2, n2, c2, by omega, by go_num, rfl, by rw [HX3.out]; simpa using HN2.out, by rw [HX3.out]; simpa using HO3.out, hb2⟩
        case measure => simp [intOf]; omega
      · go_wp2_with (at_builtin; refine wpList_append_sp Try.spans rfl _ _ rfl w.heap.size A2 n2 c2 ((l.take k).filter p) rfl HN2.out (HO3.out.keep ((Below.refl _ _).alloc (Nat.le_refl _) _)) _ _ _ [(x, y)] rfl rfl (spsrc_one _ _ rfl x y _) (by omega) (by simp; omega) ?_; rintro v w4 ⟨A4, n4, c4, rfl, hn4, ho4, hb4⟩; have HN4 := Lib.hid hn4; clear hn4)
        have hb5 := hb2.trans ((((Below.refl w1.heap.size w1).alloc (Nat.le_refl _) _).mono hsz2).trans hb4)
        go_roundw
        case rel => exact ⟨k + 1, A4, n4, c4, by omega, by go_num, rfl, by rw [HX3.out]; exact HN4.out, by rw [HX3.out]; exact ho4, hb5⟩
        case measure => simp [intOf]; omega
    · obtain rfl : k = n := by have := Hn.out; omega
      have HT := Lib.hid (show l.take k = l from List.take_of_length_le (by rw [← Hn.out]; exact Nat.le_refl _))
      go_wp2_with fail
      go_ret
      exact ⟨_, rfl, A2, n2, c2, rfl, by rw [← HT.out]; exact HN2.out, by rw [← HT.out]; exact HO2.out, hb⟩

set_option maxHeartbeats 2000000 in
theorem taken_right (p : Sp → Bool) (A : Option Addr) (n c : Nat) (l : List Sp) (w : World) (hn : n = l.length) (hs : SpSrc w A l) (hl : n ≤ 200000)
    (hp : ∀ (x y : Int) (w1 : World), Below w.heap.size w w1 → Calls Try.prog 33 #[.agg #[.int .i64 x, .int .i64 y]] w1 fun e w' => e = .returned (.bool (p (x, y))) ∧ Below w1.heap.size w1 w') :
    Calls Try.prog 32 #[.slice A n c, .func (.func 33) #[] #[]] w (GivesS w 23 (l.filter p)) := by
  have Hn := Lib.hid hn
  have Hs := Lib.hid hs
  have HP := Lib.hid hp
  clear hn hs hp
  go_enter Try.func32, Try.ntmps32
  go_wp2_with fail
  go_loopw [5, 11] (fun out i wr => TakenAt w p l out i wr) (fun _ i _ => n - (intOf i).toNat)
  case atStart => exact ⟨0, _, 0, 0, Nat.zero_le _, rfl, rfl, rfl, spown_made w _ _ (Nat.le_refl _), (Below.refl _ _).alloc (Nat.le_refl _) _⟩
  case round =>
    obtain ⟨k, A2, n2, c2, hk, rfl, rfl, hn2, ho2, hb⟩ := hrel
    have HN2 := Lib.hid hn2
    have HO2 := Lib.hid ho2
    clear hn2 ho2
    by_cases hlt : k < l.length
    · obtain ⟨b, o, rfl, hbl, hcell⟩ := Hs.out (by omega)
      have c0 := (hb.cell (p := ⟨b, o + k * 2, none⟩) hbl).trans (hcell k hlt).1
      have c1 := (hb.cell (p := ⟨b, o + k * 2 + 1, none⟩) hbl).trans (hcell k hlt).2
      have hkn : k < n := by have := Hn.out; omega
      have hle : n2 ≤ n := by have := filter_take_le p l k; rw [← HN2.out, ← Hn.out] at this; exact this
      have HX := fun x y => filter_next p l k hlt x y
      clear hcell
      obtain ⟨x, hx⟩ : ∃ x, (l.getD k spZ).1 = x := ⟨_, rfl⟩
      obtain ⟨y, hy⟩ : ∃ y, (l.getD k spZ).2 = y := ⟨_, rfl⟩
      have HX2 := HX x y hx hy
      rw [hx] at c0
      rw [hy] at c1
      have HP2 := HP.out x y
      obtain ⟨t, ht⟩ : ∃ t, p (x, y) = t := ⟨_, rfl⟩
      rw [ht] at HX2 HP2
      have HX3 := Lib.hid HX2
      have HP3 := Lib.hid HP2
      have hsz := hb.size
      clear HX HX2 HP2 hx hy ht HP
      go_wp2_with fail
      refine (HP3.out _ (hb.alloc hsz _)).mono ?_
      rintro e w1 ⟨rfl, hb1⟩
      obtain ⟨d0, d1, hb1'⟩ := sp_new hb1
      have hb2 := hb.trans (hb1'.mono hsz)
      have HO3 := Lib.hid (HO2.out.keep hb1')
      have hsz2 := hb2.size
      clear hb1 hb1' HO2 HP3
      cases t
      · go_wp2_with fail
        go_roundw
        case rel => exact ⟨k + 1, A2, n2, c2, by omega, by go_num, rfl, by rw [HX3.out]; simpa using HN2.out, by rw [HX3.out]; simpa using HO3.out, hb2⟩
        case measure => simp [intOf]; omega
      · go_wp2_with (at_builtin; refine wpList_append_sp Try.spans rfl _ _ rfl w.heap.size A2 n2 c2 ((l.take k).filter p) rfl HN2.out (HO3.out.keep ((Below.refl _ _).alloc (Nat.le_refl _) _)) _ _ _ [(x, y)] rfl rfl (spsrc_one _ _ rfl x y _) (by omega) (by simp; omega) ?_; rintro v w4 ⟨A4, n4, c4, rfl, hn4, ho4, hb4⟩; have HN4 := Lib.hid hn4; clear hn4)
        have hb5 := hb2.trans ((((Below.refl w1.heap.size w1).alloc (Nat.le_refl _) _).mono hsz2).trans hb4)
        go_roundw
        case rel => exact ⟨k + 1, A4, n4, c4, by omega, by go_num, rfl, by rw [HX3.out]; exact HN4.out, by rw [HX3.out]; exact ho4, hb5⟩
        case measure => simp [intOf]; omega
    · obtain rfl : k = n := by have := Hn.out; omega
      have HT := Lib.hid (show l.take k = l from List.take_of_length_le (by rw [← Hn.out]; exact Nat.le_refl _))
      go_wp2_with fail
      go_ret
      exact ⟨_, rfl, A2, n2, c2, rfl, by rw [← HT.out]; exact HN2.out, by rw [← HT.out]; exact HO2.out, hb⟩
end Go.Proofs.Ytnlkljmboifnkaa

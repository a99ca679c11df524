/- The document's Remove, for any list of at most 100000 spans, valid or not: a list of the call's own. No conditions but those that stand in each lemma. -/
import Derived.Test.YteofmhdbmngfcaaSpRefAsks
namespace Go.Proofs.Yteofmhdbmngfcaa
open Go.RowKit

theorem Try.rspans : SpTypes Try.prog 25 27 := ⟨Try.underlying25, by kernel_rfl⟩
theorem rem1_next (s : Sp) (l : List Sp) (k : Nat) (h : k < l.length) (x y : Int) (hx : l.getD k spZ = (x, y)) : (l.take (k + 1)).flatMap (Spans.rem1 s) = (l.take k).flatMap (Spans.rem1 s) ++ Spans.rem1 s (x, y) := by
  rw [List.getD_eq_getElem?_getD, List.getElem?_eq_getElem h] at hx
  rw [List.take_succ_eq_append_getElem h, List.flatMap_append, show l[k] = (x, y) from hx]
  simp
theorem rem1_len (s x : Sp) : (Spans.rem1 s x).length ≤ 2 := by
  unfold Spans.rem1
  split
  · simp
  · rw [List.length_append]
    split <;> split <;> simp
theorem rem_len (s : Sp) (l : List Sp) : (l.flatMap (Spans.rem1 s)).length ≤ 2 * l.length := by
  induction l with
  | nil => simp
  | cons x l ih => rw [List.flatMap_cons, List.length_append, List.length_cons]; have := rem1_len s x; omega
/-- At a round's head: what the first k leave. -/
def RRemAt (w : World) (s : Sp) (l : List Sp) (out i : Value) (wr : World) : Prop :=
  ∃ (k : Nat) (A2 : Option Addr) (n2 c2 : Nat), k ≤ l.length ∧ i = .int .i64 (k : Int) ∧ out = .slice A2 n2 c2 ∧ n2 = ((l.take k).flatMap (Spans.rem1 s)).length ∧ SpOwn wr w.heap.size 27 A2 c2 ((l.take k).flatMap (Spans.rem1 s)) ∧ Below w.heap.size w wr

set_option maxRecDepth 100000 in
set_option maxHeartbeats 4000000 in
theorem rremove_any (A : Option Addr) (n c : Nat) (l : List Sp) (a b : Int) (w : World) (hn : n = l.length) (hs : SpSrc w A l) (hl : n ≤ 100000) :
    Calls Try.prog 11 #[.slice A n c, .agg #[.int .i64 a, .int .i64 b]] w (GivesS w 27 (Spans.remL l (a, b))) := by
  have HV : ∀ w1, Below w.heap.size w w1 → Calls Try.prog 17 #[.slice A n c] w1 fun e w' => e = .returned (.bool (Spans.validB l)) ∧ Below w1.heap.size w1 w' := fun w1 hb => rvalid_any A n c l w1 hn (hs.keep hb) hl
  have HR : ∀ w1, Calls Try.prog 28 #[.agg #[.int .i64 a, .int .i64 b]] w1 fun e w' => e = .returned (.bool (Spans.rightB (a, b))) ∧ Below w1.heap.size w1 w' := rright_any a b
  have Hn := Lib.hid hn
  have Hs := Lib.hid hs
  obtain ⟨t, ht⟩ : ∃ t, Spans.validB l = t := ⟨_, rfl⟩
  obtain ⟨u, hu⟩ : ∃ u, Spans.rightB (a, b) = u := ⟨_, rfl⟩
  have HF := Lib.hid (fitB_of ht hu)
  rw [ht] at HV
  rw [hu] at HR
  have HV2 := Lib.hid HV
  have HR2 := Lib.hid HR
  clear HV HR ht hu hn hs
  cases t
  · go_enter Try.func11, Try.ntmps11
    go_wp2_with fail
    refine (HV2.out _ ((Below.refl _ _).alloc (Nat.le_refl _) _)).mono ?_
    rintro e w1 ⟨rfl, hb1⟩
    obtain ⟨d0, d1, hb2⟩ := sp_new hb1
    clear hb1
    go_wp2_with (at_builtin; refine wpList_append_sp Try.rspans rfl (.tmp 16) (.tmp 17) rfl w.heap.size _ 0 0 [] rfl rfl (spown_made _ _ _ hb2.size) A n c l rfl Hn.out (Hs.out.keep (hb2.alloc hb2.size _)) (by omega) (by simp; have := hb2.size; omega) ?_; rintro v' w4 ⟨A4, n4, c4, rfl, hn4, ho4, hb4'⟩; have HN4 := Lib.hid hn4; have HO4 := Lib.hid ho4; clear hn4 ho4)
    have hb9 := (hb2.alloc hb2.size (.cells #[] 27)).trans hb4'
    go_ret
    have e : Spans.remL l (a, b) = l := by unfold Spans.remL; rw [HF.out]; rfl
    exact ⟨_, rfl, A4, n4, c4, rfl, by rw [HN4.out, e]; rfl, by rw [e]; exact HO4.out, hb9⟩
  cases u
  · go_enter Try.func11, Try.ntmps11
    go_wp2_with fail
    refine (HV2.out _ ((Below.refl _ _).alloc (Nat.le_refl _) _)).mono ?_
    rintro e w1 ⟨rfl, hb1⟩
    obtain ⟨d0, d1, hb2⟩ := sp_new hb1
    clear hb1
    go_wp2_with fail
    refine (HR2.out _).mono ?_
    rintro e w2 ⟨rfl, hb3⟩
    have hb4 := hb2.trans (hb3.mono hb2.size)
    clear hb3 d0 d1
    go_wp2_with (at_builtin; refine wpList_append_sp Try.rspans rfl (.tmp 16) (.tmp 17) rfl w.heap.size _ 0 0 [] rfl rfl (spown_made _ _ _ hb4.size) A n c l rfl Hn.out (Hs.out.keep (hb4.alloc hb4.size _)) (by omega) (by simp; have := hb4.size; omega) ?_; rintro v' w4 ⟨A4, n4, c4, rfl, hn4, ho4, hb4'⟩; have HN4 := Lib.hid hn4; have HO4 := Lib.hid ho4; clear hn4 ho4)
    have hb9 := (hb4.alloc hb4.size (.cells #[] 27)).trans hb4'
    go_ret
    have e : Spans.remL l (a, b) = l := by unfold Spans.remL; rw [HF.out]; rfl
    exact ⟨_, rfl, A4, n4, c4, rfl, by rw [HN4.out, e]; rfl, by rw [e]; exact HO4.out, hb9⟩
  go_enter Try.func11, Try.ntmps11
  go_wp2_with fail
  refine (HV2.out _ ((Below.refl _ _).alloc (Nat.le_refl _) _)).mono ?_
  rintro e w1 ⟨rfl, hb1⟩
  have HW1 := Lib.hid (sp_row hb1)
  obtain ⟨d0, d1, hb2⟩ := sp_new hb1
  clear hb1
  go_wp2_with fail
  refine (HR2.out _).mono ?_
  rintro e w2 ⟨rfl, hb3⟩
  have HW2 := Lib.hid (HW1.out.keep hb3)
  have hb4 := hb2.trans (hb3.mono hb2.size)
  have hsz2 := hb4.size
  clear hb3 hb2 d0 d1 HV2 HR2 HW1
  go_wp2_with fail
  have hsz0 : w.heap.size < w2.heap.size := HW2.out.lt
  go_loopw [5, 6] (fun out i wr => RRemAt w2 (a, b) l out i wr) (fun _ i _ => n - (intOf i).toNat)
  case atStart => exact ⟨0, none, 0, 0, Nat.zero_le _, rfl, rfl, rfl, spown_nil _ _ _, Below.refl _ _⟩
  case round =>
    obtain ⟨k, A2, n2, c2, hk, rfl, rfl, hn2, ho2, hb⟩ := hrel
    have HN2 := Lib.hid hn2
    have HO3 := Lib.hid ho2
    clear hn2 ho2
    have hszr := hb.size
    by_cases hlt : k < l.length
    · obtain ⟨b0, o, hA, hbl, hcell⟩ := (Hs.out.keep hb4) (by omega)
      subst hA
      have hrow := HW2.out.keepB hb hsz0
      have d0 : wr.cell? ⟨w.heap.size, 0, none⟩ = some (.int .i64 a) := hrow.cell (j := 0) rfl
      have d1 : wr.cell? ⟨w.heap.size, 1, none⟩ = some (.int .i64 b) := hrow.cell (j := 1) rfl
      have c0 : wr.cell? ⟨b0, o + k * 2, none⟩ = some (.int .i64 (l.getD k spZ).1) := (hb.cell (p := ⟨b0, o + k * 2, none⟩) hbl).trans (hcell k hlt).1
      have c1 : wr.cell? ⟨b0, o + k * 2 + 1, none⟩ = some (.int .i64 (l.getD k spZ).2) := (hb.cell (p := ⟨b0, o + k * 2 + 1, none⟩) hbl).trans (hcell k hlt).2
      have hkn : k < n := by have := Hn.out; omega
      have hle : n2 ≤ 2 * k := by have h := rem_len (a, b) (l.take k); rw [← HN2.out, List.length_take] at h; omega
      obtain ⟨x, hx⟩ : ∃ x, (l.getD k spZ).1 = x := ⟨_, rfl⟩
      obtain ⟨y, hy⟩ : ∃ y, (l.getD k spZ).2 = y := ⟨_, rfl⟩
      have HX := Lib.hid (rem1_next (a, b) l k hlt x y (Prod.ext hx hy))
      rw [hx] at c0
      rw [hy] at c1
      have hltr := hrow.lt
      have HROW := Lib.hid hrow
      clear hcell hx hy hrow
      by_cases h1 : y ≤ a
      · have HQ := Lib.hid (show Spans.rem1 (a, b) (x, y) = [(x, y)] by unfold Spans.rem1; simp [h1])
        have hbu : Below w2.heap.size w2 _ := ((hb.alloc hszr (.cells #[.int .i64 x, .int .i64 y] 27)).alloc (by simp; omega) (.cells #[.int .i64 (x), .int .i64 (y)] 27))
        go_wp2_with (at_builtin; refine wpList_append_sp Try.rspans rfl (.tmp 41) (.tmp 43) rfl w2.heap.size A2 n2 c2 ((l.take k).flatMap (Spans.rem1 (a, b))) rfl HN2.out (HO3.out.keep (((Below.refl _ _).alloc (Nat.le_refl _) (.cells #[.int .i64 x, .int .i64 y] 27)).alloc (by simp) (.cells #[.int .i64 (x), .int .i64 (y)] 27))) _ _ _ [(x, y)] rfl rfl (spsrc_one _ _ (by simp) (x) (y) _) (by simp; omega) (by simp; omega) ?_; rintro v' w4 ⟨A4, n4, c4, rfl, hn4, ho4, hb4'⟩; have HN4 := Lib.hid hn4; have HO4 := Lib.hid ho4; clear hn4 ho4)
        have hb5 := hbu.trans hb4'
        go_roundw
        case rel => exact ⟨k + 1, A4, n4, c4, by omega, by go_num, rfl, by rw [HX.out, HQ.out]; exact HN4.out, by rw [HX.out, HQ.out]; exact HO4.out, hb5⟩
        case measure => simp [intOf]; omega
      by_cases h2 : b ≤ x
      · have HQ := Lib.hid (show Spans.rem1 (a, b) (x, y) = [(x, y)] by unfold Spans.rem1; simp [h2])
        have hbu : Below w2.heap.size w2 _ := ((hb.alloc hszr (.cells #[.int .i64 x, .int .i64 y] 27)).alloc (by simp; omega) (.cells #[.int .i64 (x), .int .i64 (y)] 27))
        go_wp2_with (at_builtin; refine wpList_append_sp Try.rspans rfl (.tmp 41) (.tmp 43) rfl w2.heap.size A2 n2 c2 ((l.take k).flatMap (Spans.rem1 (a, b))) rfl HN2.out (HO3.out.keep (((Below.refl _ _).alloc (Nat.le_refl _) (.cells #[.int .i64 x, .int .i64 y] 27)).alloc (by simp) (.cells #[.int .i64 (x), .int .i64 (y)] 27))) _ _ _ [(x, y)] rfl rfl (spsrc_one _ _ (by simp) (x) (y) _) (by simp; omega) (by simp; omega) ?_; rintro v' w4 ⟨A4, n4, c4, rfl, hn4, ho4, hb4'⟩; have HN4 := Lib.hid hn4; have HO4 := Lib.hid ho4; clear hn4 ho4)
        have hb5 := hbu.trans hb4'
        go_roundw
        case rel => exact ⟨k + 1, A4, n4, c4, by omega, by go_num, rfl, by rw [HX.out, HQ.out]; exact HN4.out, by rw [HX.out, HQ.out]; exact HO4.out, hb5⟩
        case measure => simp [intOf]; omega
      by_cases h3 : x < a <;> by_cases h4 : b < y
      · have HQ := Lib.hid (show Spans.rem1 (a, b) (x, y) = [(x, a)] ++ [(b, y)] by unfold Spans.rem1; simp [h1, h2, h3, h4])
        have XR := Lib.hid (Row.new wr 27 #[.int .i64 x, .int .i64 y])
        have hbu : Below w2.heap.size w2 _ := ((hb.alloc hszr (.cells #[.int .i64 x, .int .i64 y] 27)).alloc (by simp; omega) (.cells #[.int .i64 (x), .int .i64 (a)] 27))
        go_wp2_with (first | (at_builtin; refine wpList_append_spK Try.rspans rfl (.tmp 50) (.tmp 56) rfl w2.heap.size A2 n2 c2 ((l.take k).flatMap (Spans.rem1 (a, b))) rfl HN2.out (HO3.out.keep (((Below.refl _ _).alloc (Nat.le_refl _) (.cells #[.int .i64 x, .int .i64 y] 27)).alloc (by simp) (.cells #[.int .i64 (x), .int .i64 (a)] 27))) _ _ _ [(x, a)] rfl rfl (spsrc_one _ _ (by simp) (x) (a) _) (by simp; omega) (by simp; omega) ?_; rintro v' w4 ⟨A4, n4, c4, rfl, hn4, ho4, hb4'⟩ hkb; have xr := (XR.out.old _).keptBut hkb HO3.out.ltBlock; have sr := (((HROW.out.old _).old _).keepB hb4' hsz0); have x0 : w4.cell? ⟨wr.heap.size, 0, none⟩ = some (.int .i64 x) := xr.cell (j := 0) rfl; have x1 : w4.cell? ⟨wr.heap.size, 1, none⟩ = some (.int .i64 y) := xr.cell (j := 1) rfl; have s0 : w4.cell? ⟨w.heap.size, 0, none⟩ = some (.int .i64 a) := sr.cell (j := 0) rfl; have s1 : w4.cell? ⟨w.heap.size, 1, none⟩ = some (.int .i64 b) := sr.cell (j := 1) rfl; have hn5 : n4 ≤ n2 + 1 := (by rw [hn4, List.length_append, ← HN2.out]; exact Nat.le_refl _); have hb5 := hbu.trans hb4'; have hsz5 := hb5.size; clear xr sr hkb; have HN4 := Lib.hid hn4; have HO4 := Lib.hid ho4; clear hn4 ho4) | (at_builtin; refine wpList_append_sp Try.rspans rfl (.tmp 63) (.tmp 69) rfl w2.heap.size A4 n4 c4 ((l.take k).flatMap (Spans.rem1 (a, b)) ++ [(x, a)]) rfl HN4.out (HO4.out.keep ((Below.refl _ _).alloc (Nat.le_refl _) (.cells #[.int .i64 b, .int .i64 y] 27))) _ _ _ [(b, y)] rfl rfl (spsrc_one _ _ rfl b y _) (by simp; omega) (by simp; omega) ?_; rintro v' w5 ⟨A5, n5, c5, rfl, hn6, ho5, hb6'⟩; have HN5 := Lib.hid hn6; have HO5 := Lib.hid ho5; have hb7 := (hb5.alloc hsz5 _).trans hb6'; clear hn6 ho5))
        go_roundw
        case rel => exact ⟨k + 1, A5, n5, c5, by omega, by go_num, rfl, by rw [HX.out, HQ.out, ← List.append_assoc]; exact HN5.out, by rw [HX.out, HQ.out, ← List.append_assoc]; exact HO5.out, hb7⟩
        case measure => simp [intOf]; omega
      · have HQ := Lib.hid (show Spans.rem1 (a, b) (x, y) = [(x, a)] by unfold Spans.rem1; simp [h1, h2, h3, h4])
        have XR := Lib.hid (Row.new wr 27 #[.int .i64 x, .int .i64 y])
        have hbu : Below w2.heap.size w2 _ := ((hb.alloc hszr (.cells #[.int .i64 x, .int .i64 y] 27)).alloc (by simp; omega) (.cells #[.int .i64 (x), .int .i64 (a)] 27))
        go_wp2_with (at_builtin; refine wpList_append_spK Try.rspans rfl (.tmp 50) (.tmp 56) rfl w2.heap.size A2 n2 c2 ((l.take k).flatMap (Spans.rem1 (a, b))) rfl HN2.out (HO3.out.keep (((Below.refl _ _).alloc (Nat.le_refl _) (.cells #[.int .i64 x, .int .i64 y] 27)).alloc (by simp) (.cells #[.int .i64 (x), .int .i64 (a)] 27))) _ _ _ [(x, a)] rfl rfl (spsrc_one _ _ (by simp) (x) (a) _) (by simp; omega) (by simp; omega) ?_; rintro v' w4 ⟨A4, n4, c4, rfl, hn4, ho4, hb4'⟩ hkb; have xr := (XR.out.old _).keptBut hkb HO3.out.ltBlock; have sr := (((HROW.out.old _).old _).keepB hb4' hsz0); have x0 : w4.cell? ⟨wr.heap.size, 0, none⟩ = some (.int .i64 x) := xr.cell (j := 0) rfl; have x1 : w4.cell? ⟨wr.heap.size, 1, none⟩ = some (.int .i64 y) := xr.cell (j := 1) rfl; have s0 : w4.cell? ⟨w.heap.size, 0, none⟩ = some (.int .i64 a) := sr.cell (j := 0) rfl; have s1 : w4.cell? ⟨w.heap.size, 1, none⟩ = some (.int .i64 b) := sr.cell (j := 1) rfl; have hn5 : n4 ≤ n2 + 1 := (by rw [hn4, List.length_append, ← HN2.out]; exact Nat.le_refl _); have hb5 := hbu.trans hb4'; have hsz5 := hb5.size; clear xr sr hkb; have HN4 := Lib.hid hn4; have HO4 := Lib.hid ho4; clear hn4 ho4)
        go_roundw
        case rel => exact ⟨k + 1, A4, n4, c4, by omega, by go_num, rfl, by rw [HX.out, HQ.out]; exact HN4.out, by rw [HX.out, HQ.out]; exact HO4.out, hb5⟩
        case measure => simp [intOf]; omega
      · have HQ := Lib.hid (show Spans.rem1 (a, b) (x, y) = [(b, y)] by unfold Spans.rem1; simp [h1, h2, h3, h4])
        have hbu : Below w2.heap.size w2 _ := ((hb.alloc hszr (.cells #[.int .i64 x, .int .i64 y] 27)).alloc (by simp; omega) (.cells #[.int .i64 (b), .int .i64 (y)] 27))
        go_wp2_with (at_builtin; refine wpList_append_sp Try.rspans rfl (.tmp 63) (.tmp 69) rfl w2.heap.size A2 n2 c2 ((l.take k).flatMap (Spans.rem1 (a, b))) rfl HN2.out (HO3.out.keep (((Below.refl _ _).alloc (Nat.le_refl _) (.cells #[.int .i64 x, .int .i64 y] 27)).alloc (by simp) (.cells #[.int .i64 (b), .int .i64 (y)] 27))) _ _ _ [(b, y)] rfl rfl (spsrc_one _ _ (by simp) (b) (y) _) (by simp; omega) (by simp; omega) ?_; rintro v' w4 ⟨A4, n4, c4, rfl, hn4, ho4, hb4'⟩; have HN4 := Lib.hid hn4; have HO4 := Lib.hid ho4; clear hn4 ho4)
        have hb5 := hbu.trans hb4'
        go_roundw
        case rel => exact ⟨k + 1, A4, n4, c4, by omega, by go_num, rfl, by rw [HX.out, HQ.out]; exact HN4.out, by rw [HX.out, HQ.out]; exact HO4.out, hb5⟩
        case measure => simp [intOf]; omega
      · have HQ := Lib.hid (show Spans.rem1 (a, b) (x, y) = [] by unfold Spans.rem1; simp [h1, h2, h3, h4])
        go_wp2_with fail
        go_roundw
        case rel => exact ⟨k + 1, A2, n2, c2, by omega, by go_num, rfl, by rw [HX.out, HQ.out]; simpa using HN2.out, by rw [HX.out, HQ.out]; simpa using HO3.out.keep ((Below.refl wr.heap.size wr).alloc (Nat.le_refl _) (.cells #[.int .i64 x, .int .i64 y] 27)), hb.alloc hszr _⟩
        case measure => simp [intOf]; omega
    · obtain rfl : k = n := by have := Hn.out; omega
      have HT := Lib.hid (show (l.take k).flatMap (Spans.rem1 (a, b)) = Spans.remL l (a, b) by
        have hfit : Spans.fitB l (a, b) = true := HF.out
        obtain ⟨hvl, hr⟩ := (Spans.fitB_iff _ _).1 hfit
        rw [List.take_of_length_le (by rw [← Hn.out]; exact Nat.le_refl _)]
        unfold Spans.remL
        rw [if_pos hfit, Spans.remV_eq hvl hr])
      have hb9 := hb4.trans (hb.mono hsz2)
      go_wp2_with fail
      go_ret
      exact ⟨_, rfl, A2, n2, c2, rfl, by rw [← HT.out]; exact HN2.out, by rw [← HT.out]; exact HO3.out.more hsz2, hb9⟩
end Go.Proofs.Yteofmhdbmngfcaa

/- The document's Add, for any list of at most 100000 spans, valid or not: a list of the call's own. No conditions but those that stand in each lemma. -/
import Derived.Test.YteofmhdbmngfcaaSpRefRemove
namespace Go.Proofs.Yteofmhdbmngfcaa
open Go.RowKit

theorem SpOwn.setBelow {w : World} {B : Nat} {T : TypeId} {A : Option Addr} {c : Nat} {l : List Sp} (h : SpOwn w B T A c l) {p : Addr} (hp : p.block < B) (v : Value) : SpOwn (w.setCell p v) B T A c l := by
  refine World.ownsRow.kept (row := some p.block) h ⟨rfl, rfl, rfl, by simp, fun k _ hk => heap_setCell_other w p k v (fun e => hk (by rw [e]))⟩ ?_
  cases A with
  | none => exact .inl rfl
  | some a =>
    refine .inr fun e => ?_
    have := SpOwn.row h p.block e
    omega
theorem addR_drop (l : List Sp) (k : Nat) (h : k < l.length) (x y : Int) (hx : l.getD k spZ = (x, y)) (s : Sp) (p : Bool) :
    Spans.addR (l.drop k) s p = if y < s.1 then (x, y) :: Spans.addR (l.drop (k + 1)) s p else if s.2 < x then (if p then (x, y) :: Spans.addR (l.drop (k + 1)) s true else s :: (x, y) :: Spans.addR (l.drop (k + 1)) s true) else Spans.addR (l.drop (k + 1)) (if x < s.1 then x else s.1, if s.2 < y then y else s.2) p := by
  rw [List.getD_eq_getElem?_getD, List.getElem?_eq_getElem h] at hx
  rw [List.drop_eq_getElem_cons h, show l[k] = (x, y) from hx]
  rfl
/-- At a round's head: what is done, and what is still to come, are the answer. -/
def RAddAt (w w2 : World) (l : List Sp) (s : Sp) (out placed i : Value) (wr : World) : Prop :=
  ∃ (k : Nat) (A2 : Option Addr) (n2 c2 : Nat) (u v : Int) (done : List Sp) (p : Bool), k ≤ l.length ∧ i = .int .i64 (k : Int) ∧ placed = .bool p ∧ out = .slice A2 n2 c2 ∧ n2 = done.length ∧ SpOwn wr w2.heap.size 27 A2 c2 done ∧
    Row wr w.heap.size 27 #[.int .i64 u, .int .i64 v] ∧ done ++ Spans.addR (l.drop k) (u, v) p = Spans.addR l s false ∧ done.length ≤ 2 * k ∧ Below w.heap.size w wr ∧ w2.heap.size ≤ wr.heap.size

set_option maxRecDepth 100000 in
set_option maxHeartbeats 8000000 in
theorem radd_any (A : Option Addr) (n c : Nat) (l : List Sp) (a b : Int) (w : World) (hn : n = l.length) (hs : SpSrc w A l) (hl : n ≤ 100000) :
    Calls Try.prog 9 #[.slice A n c, .agg #[.int .i64 a, .int .i64 b]] w (GivesS w 27 (Spans.addL l (a, b))) := by
  have HV : ∀ w1, Below w.heap.size w w1 → Calls Try.prog 17 #[.slice A n c] w1 fun e w' => e = .returned (.bool (Spans.validB l)) ∧ Below w1.heap.size w1 w' := fun w1 hb => rvalid_any A n c l w1 hn (hs.keep hb) hl
  have HR : ∀ w1, Calls Try.prog 28 #[.agg #[.int .i64 a, .int .i64 b]] w1 fun e w' => e = .returned (.bool (Spans.rightB (a, b))) ∧ Below w1.heap.size w1 w' := rright_any a b
  have Hn := Lib.hid hn
  have Hs := Lib.hid hs
  obtain ⟨t, ht⟩ : ∃ t, Spans.validB l = t := ⟨_, rfl⟩
  obtain ⟨u, hu⟩ : ∃ u, Spans.rightB (a, b) = u := ⟨_, rfl⟩
  have HF := Lib.hid (fitB_of ht hu)
  rw [ht] at HV
  rw [hu] at HR
  have HV2 := Lib.hid HV
  have HR2 := Lib.hid HR
  clear HV HR ht hu hn hs
  cases t
  · go_enter Try.func9, Try.ntmps9
    go_wp2_with fail
    refine (HV2.out _ ((Below.refl _ _).alloc (Nat.le_refl _) _)).mono ?_
    rintro e w1 ⟨rfl, hb1⟩
    obtain ⟨d0, d1, hb2⟩ := sp_new hb1
    clear hb1
    go_wp2_with (at_builtin; refine wpList_append_sp Try.rspans rfl (.tmp 17) (.tmp 18) rfl w.heap.size _ 0 0 [] rfl rfl (spown_made _ _ _ hb2.size) A n c l rfl Hn.out (Hs.out.keep (hb2.alloc hb2.size _)) (by omega) (by simp; have := hb2.size; omega) ?_; rintro v' w4 ⟨A4, n4, c4, rfl, hn4, ho4, hb4'⟩; have HN4 := Lib.hid hn4; have HO4 := Lib.hid ho4; clear hn4 ho4)
    have hb9 := (hb2.alloc hb2.size (.cells #[] 27)).trans hb4'
    go_ret
    have e : Spans.addL l (a, b) = l := by unfold Spans.addL; rw [HF.out]; rfl
    exact ⟨_, rfl, A4, n4, c4, rfl, by rw [HN4.out, e]; rfl, by rw [e]; exact HO4.out, hb9⟩
  cases u
  · go_enter Try.func9, Try.ntmps9
    go_wp2_with fail
    refine (HV2.out _ ((Below.refl _ _).alloc (Nat.le_refl _) _)).mono ?_
    rintro e w1 ⟨rfl, hb1⟩
    obtain ⟨d0, d1, hb2⟩ := sp_new hb1
    clear hb1
    go_wp2_with fail
    refine (HR2.out _).mono ?_
    rintro e w2 ⟨rfl, hb3⟩
    have hb4 := hb2.trans (hb3.mono hb2.size)
    clear hb3 d0 d1
    go_wp2_with (at_builtin; refine wpList_append_sp Try.rspans rfl (.tmp 17) (.tmp 18) rfl w.heap.size _ 0 0 [] rfl rfl (spown_made _ _ _ hb4.size) A n c l rfl Hn.out (Hs.out.keep (hb4.alloc hb4.size _)) (by omega) (by simp; have := hb4.size; omega) ?_; rintro v' w4 ⟨A4, n4, c4, rfl, hn4, ho4, hb4'⟩; have HN4 := Lib.hid hn4; have HO4 := Lib.hid ho4; clear hn4 ho4)
    have hb9 := (hb4.alloc hb4.size (.cells #[] 27)).trans hb4'
    go_ret
    have e : Spans.addL l (a, b) = l := by unfold Spans.addL; rw [HF.out]; rfl
    exact ⟨_, rfl, A4, n4, c4, rfl, by rw [HN4.out, e]; rfl, by rw [e]; exact HO4.out, hb9⟩
  go_enter Try.func9, Try.ntmps9
  go_wp2_with fail
  refine (HV2.out _ ((Below.refl _ _).alloc (Nat.le_refl _) _)).mono ?_
  rintro e w1 ⟨rfl, hb1⟩
  have HW1 := Lib.hid (sp_row hb1)
  obtain ⟨d0, d1, hb2⟩ := sp_new hb1
  clear hb1
  go_wp2_with fail
  refine (HR2.out _).mono ?_
  rintro e w2 ⟨rfl, hb3⟩
  have HW2 := Lib.hid (HW1.out.keep hb3)
  have hb4 := hb2.trans (hb3.mono hb2.size)
  have hsz2 := hb4.size
  clear hb3 hb2 d0 d1 HV2 HR2 HW1
  go_wp2_with fail
  have hsz0 : w.heap.size < w2.heap.size := HW2.out.lt
  go_loopw [5, 6, 7] (fun out placed i wr => RAddAt w w2 l (a, b) out placed i wr) (fun _ _ i _ => n - (intOf i).toNat)
  case atStart => exact ⟨0, none, 0, 0, a, b, [], false, Nat.zero_le _, rfl, rfl, rfl, rfl, spown_nil _ _ _, HW2.out, rfl, Nat.le_refl _, hb4, Nat.le_refl _⟩
  case round =>
    obtain ⟨k, A2, n2, c2, u, v, done, p, hk, rfl, rfl, rfl, hn2, ho2, hrow, hR, hle, hb, hszr⟩ := hrel
    have HN2 := Lib.hid hn2
    have HO3 := Lib.hid ho2
    have HRR := Lib.hid hR
    have d0 : wr.cell? ⟨w.heap.size, 0, none⟩ = some (.int .i64 u) := hrow.cell (j := 0) rfl
    have d1 : wr.cell? ⟨w.heap.size, 1, none⟩ = some (.int .i64 v) := hrow.cell (j := 1) rfl
    have hltr := hrow.lt
    have hn2' : n2 ≤ 2 * k := by rw [hn2]; exact hle
    by_cases hlt : k < l.length
    · obtain ⟨b0, o, hA, hbl, hcell⟩ := Hs.out (by omega)
      subst hA
      have c0 : wr.cell? ⟨b0, o + k * 2, none⟩ = some (.int .i64 (l.getD k spZ).1) := (hb.cell (p := ⟨b0, o + k * 2, none⟩) hbl).trans (hcell k hlt).1
      have c1 : wr.cell? ⟨b0, o + k * 2 + 1, none⟩ = some (.int .i64 (l.getD k spZ).2) := (hb.cell (p := ⟨b0, o + k * 2 + 1, none⟩) hbl).trans (hcell k hlt).2
      have hkn : k < n := by have := Hn.out; omega
      obtain ⟨x, hx⟩ : ∃ x, (l.getD k spZ).1 = x := ⟨_, rfl⟩
      obtain ⟨y, hy⟩ : ∃ y, (l.getD k spZ).2 = y := ⟨_, rfl⟩
      have HX := Lib.hid (addR_drop l k hlt x y (Prod.ext hx hy) (u, v) p)
      rw [hx] at c0
      rw [hy] at c1
      have HROW := Lib.hid hrow
      have HLE := Lib.hid hle
      have XR := Lib.hid (Row.new wr 27 #[.int .i64 x, .int .i64 y])
      clear hcell hx hy hrow hn2 ho2 hR hle
      by_cases h1 : y < u
      · have HQ := Lib.hid (show (done ++ [(x, y)]) ++ Spans.addR (l.drop (k + 1)) (u, v) p = Spans.addR l (a, b) false by rw [← HRR.out, HX.out, if_pos h1, List.append_assoc]; rfl)
        have hbu : Below w.heap.size w _ := ((hb.alloc (by omega) (.cells #[.int .i64 x, .int .i64 y] 27)).alloc (by simp; omega) (.cells #[.int .i64 x, .int .i64 y] 27))
        go_wp2_with (at_builtin; refine wpList_append_sp Try.rspans rfl (.tmp 35) (.tmp 37) rfl w2.heap.size A2 n2 c2 (done) rfl HN2.out (HO3.out.keep (((Below.refl _ _).alloc (Nat.le_refl _) (.cells #[.int .i64 x, .int .i64 y] 27)).alloc (by simp) _)) _ _ _ [(x, y)] rfl rfl (spsrc_one _ _ (by simp) (x) (y) _) (by simp; omega) (by simp; omega) ?_; rintro v' w4 ⟨A4, n4, c4, rfl, hn4, ho4, hb4'⟩; have HN4 := Lib.hid hn4; have HO4 := Lib.hid ho4; clear hn4 ho4)
        have hrow4 := ((HROW.out.old (.cells #[.int .i64 x, .int .i64 y] 27)).old (.cells #[.int .i64 x, .int .i64 y] 27)).keepB hb4' hsz0
        have hb5 := hbu.trans (hb4'.mono (by omega))
        have hsz5 := hb4'.size
        go_roundw
        case rel => exact ⟨k + 1, A4, n4, c4, u, v, done ++ [(x, y)], p, by omega, by go_num, rfl, rfl, HN4.out, HO4.out, hrow4, HQ.out, (by have := HLE.out; rw [List.length_append]; simp; omega), hb5, (by simp at hsz5; omega)⟩
        case measure => simp [intOf]; omega
      by_cases h2 : v < x
      · cases p
        · have HQ := Lib.hid (show (done ++ [(u, v)] ++ [(x, y)]) ++ Spans.addR (l.drop (k + 1)) (u, v) true = Spans.addR l (a, b) false by rw [← HRR.out, HX.out, if_neg h1, if_pos h2, if_neg (by simp), List.append_assoc, List.append_assoc]; rfl)
          have hbu : Below w.heap.size w _ := ((hb.alloc (by omega) (.cells #[.int .i64 x, .int .i64 y] 27)).alloc (by simp; omega) (.cells #[.int .i64 u, .int .i64 v] 27))
          go_wp2_with (first | (at_builtin; refine wpList_append_spK Try.rspans rfl (.tmp 46) (.tmp 48) rfl w2.heap.size A2 n2 c2 (done) rfl HN2.out (HO3.out.keep (((Below.refl _ _).alloc (Nat.le_refl _) (.cells #[.int .i64 x, .int .i64 y] 27)).alloc (by simp) _)) _ _ _ [(u, v)] rfl rfl (spsrc_one _ _ (by simp) (u) (v) _) (by simp; omega) (by simp; omega) ?_; rintro v' w4 ⟨A4, n4, c4, rfl, hn4, ho4, hb4'⟩ hkb; have xr := (XR.out.old _).keptBut hkb HO3.out.ltBlock; have hrow4 := Lib.hid (((HROW.out.old _).old _).keepB hb4' hsz0); have x0 : w4.cell? ⟨wr.heap.size, 0, none⟩ = some (.int .i64 x) := xr.cell (j := 0) rfl; have x1 : w4.cell? ⟨wr.heap.size, 1, none⟩ = some (.int .i64 y) := xr.cell (j := 1) rfl; have hn5 : n4 ≤ n2 + 1 := (by rw [hn4, List.length_append, ← HN2.out]; exact Nat.le_refl _); have hb5 := hbu.trans (hb4'.mono (by omega)); have hsz5 : w2.heap.size ≤ w4.heap.size := (by have h5 := hb4'.size; simp at h5; omega); clear xr hkb; have HN4 := Lib.hid hn4; have HO4 := Lib.hid ho4; clear hn4 ho4) | (at_builtin; refine wpList_append_sp Try.rspans rfl (.tmp 50) (.tmp 52) rfl w2.heap.size A4 n4 c4 (done ++ [(u, v)]) rfl HN4.out (HO4.out.keep ((Below.refl _ _).alloc (Nat.le_refl _) _)) _ _ _ [(x, y)] rfl rfl (spsrc_one _ _ (rfl) (x) (y) _) (by simp; omega) (by simp; omega) ?_; rintro v' w5 ⟨A6, n6, c6, rfl, hn6, ho6, hb6'⟩; have HN6 := Lib.hid hn6; have HO6 := Lib.hid ho6; clear hn6 ho6))
          have hb7 := (hb5.alloc (by omega) (.cells #[.int .i64 x, .int .i64 y] 27)).trans (hb6'.mono (by omega))
          have hrow5 := (hrow4.out.old (.cells #[.int .i64 x, .int .i64 y] 27)).keepB hb6' hsz0
          have hsz7 := hb6'.size
          go_roundw
          case rel => exact ⟨k + 1, A6, n6, c6, u, v, done ++ [(u, v)] ++ [(x, y)], true, by omega, by go_num, rfl, rfl, HN6.out, HO6.out, hrow5, HQ.out, (by have := HLE.out; rw [List.length_append, List.length_append]; simp; omega), hb7, (by simp at hsz7; omega)⟩
          case measure => simp [intOf]; omega
        · have HQ := Lib.hid (show (done ++ [(x, y)]) ++ Spans.addR (l.drop (k + 1)) (u, v) true = Spans.addR l (a, b) false by rw [← HRR.out, HX.out, if_neg h1, if_pos h2, if_pos rfl, List.append_assoc]; rfl)
          have hbu : Below w.heap.size w _ := ((hb.alloc (by omega) (.cells #[.int .i64 x, .int .i64 y] 27)).alloc (by simp; omega) (.cells #[.int .i64 x, .int .i64 y] 27))
          go_wp2_with (at_builtin; refine wpList_append_sp Try.rspans rfl (.tmp 50) (.tmp 52) rfl w2.heap.size A2 n2 c2 (done) rfl HN2.out (HO3.out.keep (((Below.refl _ _).alloc (Nat.le_refl _) (.cells #[.int .i64 x, .int .i64 y] 27)).alloc (by simp) _)) _ _ _ [(x, y)] rfl rfl (spsrc_one _ _ (by simp) (x) (y) _) (by simp; omega) (by simp; omega) ?_; rintro v' w4 ⟨A4, n4, c4, rfl, hn4, ho4, hb4'⟩; have HN4 := Lib.hid hn4; have HO4 := Lib.hid ho4; clear hn4 ho4)
          have hrow4 := ((HROW.out.old (.cells #[.int .i64 x, .int .i64 y] 27)).old (.cells #[.int .i64 x, .int .i64 y] 27)).keepB hb4' hsz0
          have hb5 := hbu.trans (hb4'.mono (by omega))
          have hsz5 := hb4'.size
          go_roundw
          case rel => exact ⟨k + 1, A4, n4, c4, u, v, done ++ [(x, y)], true, by omega, by go_num, rfl, rfl, HN4.out, HO4.out, hrow4, HQ.out, (by have := HLE.out; rw [List.length_append]; simp; omega), hb5, (by simp at hsz5; omega)⟩
          case measure => simp [intOf]; omega
      have HQ := Lib.hid (show done ++ Spans.addR (l.drop (k + 1)) (if x < u then x else u, if v < y then y else v) p = Spans.addR l (a, b) false by rw [← HRR.out, HX.out, if_neg h1, if_neg h2])
      have HOX := Lib.hid (HO3.out.keep ((Below.refl _ _).alloc (Nat.le_refl _) (.cells #[.int .i64 x, .int .i64 y] 27)))
      have hbx := hb.alloc (by omega) (.cells #[.int .i64 x, .int .i64 y] 27)
      have hf0 := HROW.out.free 0
      have hf1 := HROW.out.free 1
      by_cases h3 : x < u <;> by_cases h4 : v < y
      · have HR5 := Lib.hid (((HROW.out.set 0 (.int .i64 x)).set 1 (.int .i64 y)).old (.cells #[.int .i64 x, .int .i64 y] 27))
        have hQ := HQ.out
        rw [if_pos h3, if_pos h4] at hQ
        have HQ2 := Lib.hid hQ
        clear hQ HQ
        go_wp2_with fail
        go_roundw
        case rel => exact ⟨k + 1, A2, n2, c2, x, y, done, p, by omega, by go_num, rfl, rfl, HN2.out, ((HO3.out.setBelow (p := ⟨w.heap.size, 0, none⟩) hsz0 _).setBelow (p := ⟨w.heap.size, 1, none⟩) hsz0 _).keep ((Below.refl _ _).alloc (Nat.le_refl _) _), HR5.out, HQ2.out, (by have := HLE.out; omega), ((hb.setCell (Nat.le_refl _) _).setCell (Nat.le_refl _) _).alloc (by simp; omega) _, (by simp; omega)⟩
        case measure => simp [intOf]; omega
      · have HR5 := Lib.hid ((HROW.out.set 0 (.int .i64 x)).old (.cells #[.int .i64 x, .int .i64 y] 27))
        have hQ := HQ.out
        rw [if_pos h3, if_neg h4] at hQ
        have HQ2 := Lib.hid hQ
        clear hQ HQ
        go_wp2_with fail
        go_roundw
        case rel => exact ⟨k + 1, A2, n2, c2, x, v, done, p, by omega, by go_num, rfl, rfl, HN2.out, (HO3.out.setBelow (p := ⟨w.heap.size, 0, none⟩) hsz0 _).keep ((Below.refl _ _).alloc (Nat.le_refl _) _), HR5.out, HQ2.out, (by have := HLE.out; omega), (hb.setCell (Nat.le_refl _) _).alloc (by simp; omega) _, (by simp; omega)⟩
        case measure => simp [intOf]; omega
      · have HR5 := Lib.hid ((HROW.out.set 1 (.int .i64 y)).old (.cells #[.int .i64 x, .int .i64 y] 27))
        have hQ := HQ.out
        rw [if_neg h3, if_pos h4] at hQ
        have HQ2 := Lib.hid hQ
        clear hQ HQ
        go_wp2_with fail
        go_roundw
        case rel => exact ⟨k + 1, A2, n2, c2, u, y, done, p, by omega, by go_num, rfl, rfl, HN2.out, (HO3.out.setBelow (p := ⟨w.heap.size, 1, none⟩) hsz0 _).keep ((Below.refl _ _).alloc (Nat.le_refl _) _), HR5.out, HQ2.out, (by have := HLE.out; omega), (hb.setCell (Nat.le_refl _) _).alloc (by simp; omega) _, (by simp; omega)⟩
        case measure => simp [intOf]; omega
      · have HR5 := Lib.hid (HROW.out.old (.cells #[.int .i64 x, .int .i64 y] 27))
        have hQ := HQ.out
        rw [if_neg h3, if_neg h4] at hQ
        have HQ2 := Lib.hid hQ
        clear hQ HQ
        go_wp2_with fail
        go_roundw
        case rel => exact ⟨k + 1, A2, n2, c2, u, v, done, p, by omega, by go_num, rfl, rfl, HN2.out, HOX.out, HR5.out, HQ2.out, (by have := HLE.out; omega), hbx, (by simp; omega)⟩
        case measure => simp [intOf]; omega
    · obtain rfl : k = n := by have := Hn.out; omega
      have HT := Lib.hid (show done ++ (if p then [] else [(u, v)]) = Spans.addL l (a, b) by
        have hfit : Spans.fitB l (a, b) = true := HF.out
        obtain ⟨hvl, hr⟩ := (Spans.fitB_iff _ _).1 hfit
        unfold Spans.addL
        rw [if_pos hfit, ← Spans.addR_addV l (a, b) hvl hr, ← HRR.out, List.drop_of_length_le (by rw [← Hn.out]; exact Nat.le_refl _)]
        rfl)
      clear hn2 ho2 hR hle hrow
      cases p
      · go_wp2_with (at_builtin; refine wpList_append_sp Try.rspans rfl (.tmp 72) (.tmp 74) rfl w2.heap.size A2 n2 c2 (done) rfl HN2.out (HO3.out.keep ((Below.refl _ _).alloc (Nat.le_refl _) _)) _ _ _ [(u, v)] rfl rfl (spsrc_one _ _ (rfl) (u) (v) _) (by simp; omega) (by simp; omega) ?_; rintro v' w4 ⟨A4, n4, c4, rfl, hn4, ho4, hb4'⟩; have HN4 := Lib.hid hn4; have HO4 := Lib.hid ho4; clear hn4 ho4)
        have hb7 := (hb.alloc (by omega) (.cells #[.int .i64 u, .int .i64 v] 27)).trans (hb4'.mono (by omega))
        go_ret
        have e := HT.out
        rw [if_neg (by simp)] at e
        exact ⟨_, rfl, A4, n4, c4, rfl, by rw [← e]; exact HN4.out, by rw [← e]; exact HO4.out.more (by omega), hb7⟩
      · go_wp2_with fail
        go_ret
        have e : done = Spans.addL l (a, b) := by simpa using HT.out
        exact ⟨_, rfl, A2, n2, c2, rfl, by rw [← e]; exact HN2.out, by rw [← e]; exact HO3.out.more (by omega), hb⟩
end Go.Proofs.Yteofmhdbmngfcaa

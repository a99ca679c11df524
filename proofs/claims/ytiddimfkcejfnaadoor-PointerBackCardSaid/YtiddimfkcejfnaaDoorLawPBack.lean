/- PointerBack's walk: for any numbers and any bytes it answers true, and writes nothing that was there. -/
import Derived.Test.YtiddimfkcejfnaaDoorPtrBackNums
import Derived.Test.YtiddimfkcejfnaaDoorPtrReadAny
import Derived.Test.YtiddimfkcejfnaaDoorDrawLen
import Derived.IntWalk
namespace Go.Proofs.YtiddimfkcejfnaaDoor
open Go.RowKit

theorem put_none' (a : Act) (v : Value) : a.put none v = a := rfl
theorem wp_load_cells {P : Program} {op : Oper} {a : Act} {w : World} {K : Act → World → Prop} {Q : Exit → Act → World → Prop} (ty : TypeId) (x : Operand) (ho : op.op = .load ty x)
    (b o : Nat) (hx : a.eval x = .pointer (some ⟨b, o, none⟩)) (cs : Array Value) (d : TypeDesc) (hc : Cells w b o cs)
    (hu : P.underlying ty = some d) (hd : (match d with | .struct _ | .array _ _ => true | _ => false) = true) (hi : (P.info? ty).map (·.size) = some cs.size)
    (h : K (a.put op.dst (.agg cs)) w) : Oper.wp P op a w K Q := by
  unfold Oper.wp execOp
  simp only [ho, hx, Instr.loadAt, Instr.sureAddr, Sem.run_bind, Sem.run_pure, Result.andThen_ok, run_loadVar_cells w b o ty cs d hc hu hd hi]
  exact h

set_option maxRecDepth 100000 in
set_option maxHeartbeats 8000000 in
theorem pback_none (A : Option Addr) (c : Nat) (at0 birth0 : Int) (w : World) (hc : c ≤ 9223372036854775807) (ht : Tabs w) :
    Calls Tryd.prog 4 #[.int .i64 at0, .int .i64 birth0, .slice A 0 c] w fun e w' => e = .returned (.bool true) ∧ Below w.heap.size w w' := by
  have hn : 0 = ([] : List Int).length := rfl
  have hs : Src .u8 w A ([] : List Int) := Src.none_
  have hx : IsBytes ([] : List Int) := IsBytes.nil
  have hnc : 0 ≤ c := Nat.zero_le _
  obtain ⟨v, hv⟩ : ∃ v, bits .and .i64 at0 4095 = v := ⟨_, rfl⟩
  obtain ⟨u, hu⟩ : ∃ u, bits .and .i64 birth0 1099511627775 = u := ⟨_, rfl⟩
  obtain ⟨v0, v1⟩ : 0 ≤ v ∧ v ≤ 4095 := by rw [← hv]; exact and_mask at0 4095 (by decide)
  obtain ⟨u0, u1⟩ : 0 ≤ u ∧ u ≤ 1099511627775 := by rw [← hu]; exact and_mask birth0 1099511627775 (by decide)
  have hlen : ([] : List Int).length ≤ 2000 := by omega
  have hqo : (ofP (2 + v) (1 + u) []).Ok := ofP_ok (by omega) (by omega) (by omega) (by omega) (by omega)
  have HO := Lib.hid (fun w' (hb : Below w.heap.size w w') => of_any (2 + v) (1 + u) A 0 c [] w' (ht.keep hb) hn (hs.keep hb) hx (by omega) (by omega) hc)
  have HC := Lib.hid (fun (q : Pt) (hq : q.Ok) w' (hb : Below w.heap.size w w') => check_any q A 0 c [] w' hq (ht.keep hb) hn (hs.keep hb) hx (by omega) (by omega) hc)
  have HRd := Lib.hid (fun (A : Option Addr) (n c : Nat) (ys : List Int) w' (hn : n = ys.length) (hs : Src .u8 w' A ys) (hx : IsBytes ys) (hnc : n ≤ c) (hc : c ≤ 9223372036854775807) => read_any A n c ys w' hn hs hx hnc hc)
  have HQO := Lib.hid hqo
  have HXS := Lib.hid (pt_size hqo.shaL)
  have HX1 := Lib.hid (pcells_one (ofP (2 + v) (1 + u) []))
  have HXZ : Hid ((pcells Pt.zero).size = (pcells (ofP (2 + v) (1 + u) [])).size) := Lib.hid (by rw [pcells_size, pcells_size, hqo.shaL]; rfl)
  have HZS := Lib.hid (pt_size (p := Pt.zero) rfl)
  have HZ1 := Lib.hid (pcells_one Pt.zero)
  have HPL := Lib.hid (putOf_length _ hqo.shaL)
  have HPB := Lib.hid (putOf_bytes _ hqo.shaB)
  have HRI := Lib.hid (show (ofP (2 + v) (1 + u) []).right = false from of_empty)
  have HCK := Lib.hid (show checkP (ofP (2 + v) (1 + u) []) [] = 2 from check_none)
  have HZR := Lib.hid (read_put (p := Pt.zero) (zs := []) rfl (zero_back []) (.inl (Pt.same_self _)))
  have HZB := Lib.hid (putOf_bytes Pt.zero (Pt.zero_ok).shaB)
  have HZL := Lib.hid (putOf_length Pt.zero rfl)
  have HZN := Lib.hid (show Pt.zero.none = true from Pt.same_self _)
  have Hz := Lib.hid zero_built
  have b0 : Below w.heap.size w w := Below.refl _ _
  generalize ofP (2 + v) (1 + u) [] = X at *
  clear hn hs hx hqo ht hlen hnc
  go_enter Tryd.func4, Tryd.ntmps4
  go_wp2_with fail
  refine (HO.out _ b0).mono ?_
  rintro e w1 ⟨rfl, hb1⟩
  have x1 := zero_row w1
  have bz := zero_below w1
  have b1 := hb1.trans (bz.mono hb1.size)
  have hB7 := hb1.size
  clear b0 hb1 bz HO hv hu
  go_wp2_with (first
    | (refine wpList_build_eq rfl 25 #[] rfl [] (by simp) (pcells Pt.zero) Hz.out ?_)
    | (refine wpList_store_row rfl 25 (.tmp 7) (.tmp 29) rfl w1.heap.size (pcells X) rfl rfl 25 (pcells Pt.zero) x1 HXS.out HXZ.out HX1.out ?_; have x2 := x1.setRow (pcells X); have b2 := below_setRow b1 (b := w1.heap.size) hB7 (pcells X); clear x1 b1))
  generalize (w1.alloc _).setRow w1.heap.size (pcells X) = w2 at *
  refine (put_any .none 0 0 [] Pt.zero w2 Pt.zero_ok rfl Src.none_ (by omega)).mono ?_
  rintro e w3 ⟨_, rfl, A3, n3, c3, rfl, hn3, ho3, hb3⟩
  rw [List.nil_append] at hn3 ho3
  have x3 := x2.keep hb3
  have b3 := b2.trans (hb3.mono b2.size)
  have Hn3 := Lib.hid hn3
  have Ho3 := Lib.hid ho3
  clear x2 b2 hb3 hn3 ho3
  go_wp2_with fail
  refine (HRd.out A3 n3 c3 (putOf Pt.zero) _ Hn3.out Ho3.out.src HZB.out (by rw [Hn3.out]; exact Ho3.out.cap.1) (by have := Ho3.out.cap.2; unfold maxLen at this; exact this)).mono ?_
  rintro e w4 ⟨rfl, hb4⟩
  have hz := HZR.out
  rw [List.append_nil] at hz
  rw [hz.1, hz.2]
  clear hz
  have x4 := x3.keep hb4
  have b4 := b3.trans (hb4.mono b3.size)
  have y1 := zero_row w4
  have bz := zero_below w4
  have x5 := x4.keep bz
  have b5 := b4.trans (bz.mono b4.size)
  have lt5 := x4.lt
  have hB8 := b4.size
  clear x3 x4 b3 b4 hb4 bz
  go_wp2_with (first
    | (refine wpList_store_row rfl 25 (.tmp 8) (.tmp 37) rfl w4.heap.size (pcells Pt.zero) rfl rfl 25 (pcells Pt.zero) y1 HZS.out rfl HZ1.out ?_; have y2 := y1.setRow (pcells Pt.zero); have x6 := x5.otherRow (b := w4.heap.size) (by omega) (pcells Pt.zero); have b6 := below_setRow b5 (b := w4.heap.size) hB8 (pcells Pt.zero); clear y1 x5 b5)
    | (refine wpList_load_cells_w rfl 25 (.tmp 7) rfl w1.heap.size 0 rfl (pcells X) _ x6.cells Tryd.underlying25 rfl HXS.out ?_))
  refine (right_any X _ HQO.out).mono ?_
  rintro e w7 ⟨rfl, hb7⟩
  rw [HRI.out]
  have x7 := x6.keep hb7
  have y7 := y2.keep hb7
  have b7 := b6.trans (hb7.mono b6.size)
  clear x6 y2 b6 hb7
  go_wp2_with (refine wpList_load_cells_w rfl 25 (.tmp 8) rfl w4.heap.size 0 rfl (pcells Pt.zero) _ y7.cells Tryd.underlying25 rfl HZS.out ?_)
  refine (none_any Pt.zero _ Pt.zero_ok).mono ?_
  rintro e w8 ⟨rfl, hb8⟩
  rw [HZN.out]
  have x8 := x7.keep hb8
  have b8 := b7.trans (hb8.mono b7.size)
  clear x7 y7 b7 hb8
  go_wp2_with (refine wpList_load_cells_w rfl 25 (.tmp 7) rfl w1.heap.size 0 rfl (pcells X) _ x8.cells Tryd.underlying25 rfl HXS.out ?_)
  refine (HC.out X HQO.out _ b8).mono ?_
  rintro e w9 ⟨rfl, hb9⟩
  rw [HCK.out]
  have b9 := b8.trans (hb9.mono b8.size)
  clear x8 b8 hb9
  go_wp2_with fail
  go_ret
  exact ⟨rfl, b9⟩

set_option maxRecDepth 100000 in
set_option maxHeartbeats 8000000 in
theorem pback_small (b o n c : Nat) (xs : List Int) (at0 birth0 : Int) (w : World) (hn : n = xs.length) (hs : Src .u8 w (some ⟨b, o, none⟩) xs) (hx : IsBytes xs) (h0 : 0 < n) (hl : n ≤ 2000) (hnc : n ≤ c) (hc : c ≤ 9223372036854775807) (ht : Tabs w) :
    Calls Tryd.prog 4 #[.int .i64 at0, .int .i64 birth0, .slice (some ⟨b, o, none⟩) n c] w fun e w' => e = .returned (.bool true) ∧ Below w.heap.size w w' := by
  have hd : decide ((2000 : Int) < (n : Int)) = false := by simp; omega
  have hd2 : decide (2000 < n) = false := by simp; omega
  have hne0 : ((n : Int) == 0) = false := by simp; omega
  have hne1 : ¬ (n : Int) = 0 := by omega
  have hne2 : ¬ n = 0 := by omega
  have HSL : Hid (∀ w', (Instr.sliceAt 26 (.slice (some ⟨b, o, none⟩) n c) (some (.int .i64 1)) none none).run Tryd.prog w' = .ok (.slice (Sha3.fromA (some ⟨b, o, none⟩) c 1) (n - 1) (c - 1)) w') := Lib.hid (fun w' => Sha3.run_slice_from w' 26 5 (some ⟨b, o, none⟩) n c 1 Tryd.underlying26 Tryd.size8 (by omega))
  obtain ⟨v, hv⟩ : ∃ v, bits .and .i64 at0 4095 = v := ⟨_, rfl⟩
  obtain ⟨u, hu⟩ : ∃ u, bits .and .i64 birth0 1099511627775 = u := ⟨_, rfl⟩
  obtain ⟨v0, v1⟩ : 0 ≤ v ∧ v ≤ 4095 := by rw [← hv]; exact and_mask at0 4095 (by decide)
  obtain ⟨u0, u1⟩ : 0 ≤ u ∧ u ≤ 1099511627775 := by rw [← hu]; exact and_mask birth0 1099511627775 (by decide)
  have hlen : (xs : List Int).length ≤ 2000 := by omega
  have hqo : (ofP (2 + v) (1 + u) xs).Ok := ofP_ok (by omega) (by omega) (by omega) (by omega) (by omega)
  have HO := Lib.hid (fun w' (hb : Below w.heap.size w w') => of_any (2 + v) (1 + u) (some ⟨b, o, none⟩) n c xs w' (ht.keep hb) hn (hs.keep hb) hx (by omega) (by omega) hc)
  have HC := Lib.hid (fun (q : Pt) (hq : q.Ok) w' (hb : Below w.heap.size w w') => check_any q (some ⟨b, o, none⟩) n c xs w' hq (ht.keep hb) hn (hs.keep hb) hx (by omega) (by omega) hc)
  have HRd := Lib.hid (fun (A : Option Addr) (n c : Nat) (ys : List Int) w' (hn : n = ys.length) (hs : Src .u8 w' A ys) (hx : IsBytes ys) (hnc : n ≤ c) (hc : c ≤ 9223372036854775807) => read_any A n c ys w' hn hs hx hnc hc)
  have HQO := Lib.hid hqo
  have HXS := Lib.hid (pt_size hqo.shaL)
  have HX1 := Lib.hid (pcells_one (ofP (2 + v) (1 + u) xs))
  have HXZ : Hid ((pcells Pt.zero).size = (pcells (ofP (2 + v) (1 + u) xs)).size) := Lib.hid (by rw [pcells_size, pcells_size, hqo.shaL]; rfl)
  have HZS := Lib.hid (pt_size (p := Pt.zero) rfl)
  have HZ1 := Lib.hid (pcells_one Pt.zero)
  have HPL := Lib.hid (putOf_length _ hqo.shaL)
  have HPB := Lib.hid (putOf_bytes _ hqo.shaB)
  have hrt : (ofP (2 + v) (1 + u) xs).right = true := of_right (by omega) (by omega) (by omega) (by omega) (by omega) hlen
  have HRI := Lib.hid hrt
  have HCK := Lib.hid (check_own hrt)
  have HCL := Lib.hid (check_less hrt (by omega))
  have HRB := Lib.hid (read_put (p := ofP (2 + v) (1 + u) xs) (zs := xs) hqo.shaL (of_back (by omega) (by omega) (by omega) (by omega) hlen) (.inr hrt))
  have HRC := Lib.hid (read_cut (p := ofP (2 + v) (1 + u) xs) hqo.shaL)
  have HCT := Lib.hid (fun (q : Pt) (hq : q.Ok) w' (hb : Below w.heap.size w w') => check_any q (Sha3.fromA (some ⟨b, o, none⟩) c 1) (n - 1) (c - 1) (xs.drop 1) w' hq (ht.keep hb) (by rw [List.length_drop]; omega) ((hs.drop 1 c (by omega) (by omega)).keep hb) (hx.drop 1) (by omega) (by omega) (by omega))
  have HSE : Hid (((n : Int) : Int) ≤ secsOf (ofP (2 + v) (1 + u) xs).len * 512 ∧ secsOf (ofP (2 + v) (1 + u) xs).len * 512 < ((n : Int) : Int) + 512) := Lib.hid (by have h := secs_enough (m := xs.length) (by omega) hlen; show _ ≤ secsOf (xs.length : Int) * 512 ∧ secsOf (xs.length : Int) * 512 < _; rw [← hn] at h ⊢; exact h)
  have HSC := Lib.hid (secs_bounds (ofP (2 + v) (1 + u) xs).len)
  have HXE : Hid (∀ w', (binOp .eql 25 (.agg (pcells (ofP (2 + v) (1 + u) xs))) (.agg (pcells (ofP (2 + v) (1 + u) xs)))).run Tryd.prog w' = .ok (.bool true) w') := Lib.hid (fun w' => by rw [eql_pts w' _ _ hqo.shaL hqo.shaL, Pt.same_self])
  have Hn := Lib.hid hn
  have Hs := Lib.hid hs
  have Hx := Lib.hid hx
  have Hl := Lib.hid hlen
  have b0 : Below w.heap.size w w := Below.refl _ _
  generalize ofP (2 + v) (1 + u) xs = X at *
  clear hn hs hx hqo ht hlen hnc hrt
  go_enter Tryd.func4, Tryd.ntmps4
  go_wp2_with fail
  refine (HO.out _ b0).mono ?_
  rintro e w1 ⟨rfl, hb1⟩
  have x1 := zero_row w1
  have bz := zero_below w1
  have b1 := hb1.trans (bz.mono hb1.size)
  have hB7 := hb1.size
  clear b0 hb1 bz HO hv hu
  go_wp2_with (first
    | (refine wpList_store_row rfl 25 (.tmp 7) (.tmp 29) rfl w1.heap.size (pcells X) rfl rfl 25 (pcells Pt.zero) x1 HXS.out HXZ.out HX1.out ?_; have x2 := x1.setRow (pcells X); have b2 := below_setRow b1 (b := w1.heap.size) hB7 (pcells X); clear x1 b1)
    | (refine wpList_load_cells_w rfl 25 (.tmp 7) rfl w1.heap.size 0 rfl (pcells X) _ x2.cells Tryd.underlying25 rfl HXS.out ?_))
  generalize (w1.alloc _).setRow w1.heap.size (pcells X) = w2 at *
  refine (put_any .none 0 0 [] X w2 HQO.out rfl Src.none_ (by omega)).mono ?_
  rintro e w3 ⟨_, rfl, A3, n3, c3, rfl, hn3, ho3, hb3⟩
  rw [List.nil_append] at hn3 ho3
  have x3 := x2.keep hb3
  have b3 := b2.trans (hb3.mono b2.size)
  obtain rfl : n3 = 52 := by rw [hn3, HPL.out]
  have hc52 : 52 ≤ c3 := by rw [hn3]; exact ho3.cap.1
  have hcm3 : c3 ≤ 9223372036854775807 := by have := ho3.cap.2; unfold maxLen at this; exact this
  obtain ⟨g3, o3, rfl, _, _⟩ := ho3.src (by omega)
  have Hn3 := Lib.hid hn3
  have HS3 := Lib.hid ho3.src
  have hc51 : (51 : Int) ≤ (c3 : Int) := by omega
  have HC52 := Lib.hid hc52
  have HCM3 := Lib.hid hcm3
  clear x2 b2 hb3 hn3 ho3 hc52 hcm3
  go_wp2_with (first
    | (at_builtin; refine wpList_append_src rfl (.tmp 62) (.tmp 63) rfl w3.heap.size _ _ _ [] rfl rfl (own_made w3 _ (Nat.le_refl _)) (some ⟨g3, o3, none⟩) 52 c3 (putOf X) rfl Hn3.out (HS3.out.keep ((Below.refl _ _).alloc (Nat.le_refl _) _)) (by omega) (by simp) ?_; rintro v4 w4 ⟨A4, n4, c4, rfl, hn4, ho4, hb4⟩; have Hn4 := Lib.hid hn4; have Ho4 := Lib.hid ho4; have b4 := (b3.alloc b3.size _).trans (hb4.mono b3.size); have e34 := ((Below.refl w3.heap.size w3).alloc (Nat.le_refl _) _).trans hb4; have h4z := e34.size; have h4n : n4 = 52 := (by rw [hn4, List.nil_append, ← Hn3.out]); have H4N := Lib.hid h4n; have H4Z := Lib.hid h4z; clear hn4 ho4 hb4 h4n h4z)
    | (at_builtin; refine wpList_append_src rfl (.tmp 64) (.tmp 65) rfl w3.heap.size A4 n4 c4 _ rfl Hn4.out Ho4.out (some ⟨b, o, none⟩) n c xs rfl Hn.out (Hs.out.keep b4) (by have := H4N.out; have := Hl.out; have := Hn.out; omega) H4Z.out ?_; rintro v5 w5 ⟨A5, n5, c5, rfl, hn5, ho5, hb5⟩; have Hn5 := Lib.hid hn5; have Ho5 := Lib.hid ho5; have b5 := b4.trans (hb5.mono b3.size); have e35 := e34.trans hb5; clear hn5 ho5 hb5 e34 b4))
  have x5 := x3.keep e35
  have HS5 := Lib.hid (HS3.out.keep e35)
  clear x3 b3 e35 HS3
  refine (HRd.out A5 n5 c5 (putOf X ++ xs) _ (by have := Hn5.out; rw [List.nil_append] at this; exact this) (by have := Ho5.out.src; rw [List.nil_append] at this; exact this) (HPB.out.append Hx.out) (by rw [Hn5.out]; exact Ho5.out.cap.1) (by have := Ho5.out.cap.2; unfold maxLen at this; exact this)).mono ?_
  rintro e w6 ⟨rfl, hb6⟩
  rw [HRB.out.1, HRB.out.2]
  have x6 := x5.keep hb6
  have b6 := b5.trans (hb6.mono b5.size)
  have HS6 := Lib.hid (HS5.out.keep hb6)
  have y1 := zero_row w6
  have bz := zero_below w6
  have x7 := x6.keep bz
  have b7 := b6.trans (bz.mono b6.size)
  have lt6 := x6.lt
  have hB11 := b6.size
  have HS7 := Lib.hid (HS6.out.keep bz)
  clear x5 x6 b5 b6 hb6 bz HS5 Ho5 Hn5 Ho4 Hn4
  have e68 := below_setRow ((Below.refl w6.heap.size w6).alloc (Nat.le_refl _) (.cells #[Value.int IntKind.i64 0, Value.int IntKind.i64 0, Value.int IntKind.i64 0, Value.int IntKind.u32 0, Value.int IntKind.u8 0, Value.int IntKind.u8 0, Value.int IntKind.u8 0, Value.int IntKind.u8 0, Value.int IntKind.u8 0, Value.int IntKind.u8 0, Value.int IntKind.u8 0, Value.int IntKind.u8 0, Value.int IntKind.u8 0, Value.int IntKind.u8 0, Value.int IntKind.u8 0, Value.int IntKind.u8 0, Value.int IntKind.u8 0, Value.int IntKind.u8 0, Value.int IntKind.u8 0, Value.int IntKind.u8 0, Value.int IntKind.u8 0, Value.int IntKind.u8 0, Value.int IntKind.u8 0, Value.int IntKind.u8 0, Value.int IntKind.u8 0, Value.int IntKind.u8 0, Value.int IntKind.u8 0, Value.int IntKind.u8 0, Value.int IntKind.u8 0, Value.int IntKind.u8 0, Value.int IntKind.u8 0, Value.int IntKind.u8 0, Value.int IntKind.u8 0, Value.int IntKind.u8 0, Value.int IntKind.u8 0, Value.int IntKind.u8 0] 25)) (b := w6.heap.size) (Nat.le_refl _) (pcells X)
  have HS8 := Lib.hid (HS6.out.keep e68)
  clear e68 HS7
  go_wp2_with (refine wpList_store_row rfl 25 (.tmp 11) (.tmp 68) rfl w6.heap.size (pcells X) rfl rfl 25 (pcells Pt.zero) y1 HXS.out HXZ.out HX1.out ?_; have y2 := y1.setRow (pcells X); have x8 := x7.otherRow (b := w6.heap.size) (by omega) (pcells X); have b8 := below_setRow b7 (b := w6.heap.size) hB11 (pcells X); clear y1 x7 b7)
  refine (HRd.out (some ⟨g3, o3, none⟩) 51 c3 ((putOf X).take 51) _ (by rw [List.length_take, HPL.out]; rfl) (HS8.out.take 51) (HPB.out.take 51) (by have := HC52.out; omega) HCM3.out).mono ?_
  rintro e w9 ⟨rfl, hb9⟩
  rw [HRC.out]
  have hzo := readPt_ok ((putOf X).take 51) (HPB.out.take 51)
  generalize readPt ((putOf X).take 51) = Z at *
  have HZZ : Hid ((pcells Pt.zero).size = (pcells Z).size) := Lib.hid (by rw [pcells_size, pcells_size, hzo.shaL]; rfl)
  have HZ2 := Lib.hid (pt_size hzo.shaL)
  have HZ3 := Lib.hid (pcells_one Z)
  have x9 := x8.keep hb9
  have y9 := y2.keep hb9
  have b9 := b8.trans (hb9.mono b8.size)
  have z1 := zero_row w9
  have bz := zero_below w9
  have x10 := x9.keep bz
  have y10 := y9.keep bz
  have b10 := b9.trans (bz.mono b9.size)
  have ltx := x9.lt
  have lty := y9.lt
  have hB13 := b9.size
  clear x8 x9 y2 y9 b8 b9 hb9 bz HS8 HS6 hzo
  go_wp2_with (refine wpList_store_row rfl 25 (.tmp 13) (.tmp 74) rfl w9.heap.size (pcells Z) rfl rfl 25 (pcells Pt.zero) z1 HZ2.out HZZ.out HZ3.out ?_; have x11 := x10.otherRow (b := w9.heap.size) (by omega) (pcells Z); have y11 := y10.otherRow (b := w9.heap.size) (by omega) (pcells Z); have b11 := below_setRow b10 (b := w9.heap.size) hB13 (pcells Z); clear z1 x10 y10 b10)
  generalize (w9.alloc _).setRow w9.heap.size (pcells Z) = w11 at *
  have x12 := x11.drew
  have y12 := y11.drew
  have b12 := b11.drew
  clear x11 y11 b11
  refine Len.wp_region_segs [([0], 1), ([2, 3, 4, 5, 6, 7], 8), ([9, 10, 11, 12, 13, 14, 15, 17, 16], 18), ([19, 20, 21, 23, 24, 22], 25), ([26, 27, 28, 32, 33, 29], 30), ([31, 34, 35, 36, 40, 41, 42, 37], 38)] [39, 43, 44, 45] (by kernel_rfl) (by kernel_rfl) (by kernel_rfl) (by kernel_rfl) (fun _ _ d _ _ h => by cases d <;> exact h) ?_
  refine Len.wpSegs_next (by simp [Len.pickOps]; rfl) ?_
  repeat (go_big_quiet_step (fail))
  refine wpQuiet_load_cells rfl 25 (.tmp 7) rfl w1.heap.size 0 rfl (pcells X) _ x12.cells x12.lt Tryd.underlying25 rfl HXS.out ?_
  refine wpQuiet_nil ?_
  refine wpOp_alone rfl rfl (fun K hK => ?_)
  go_simp
  refine (right_any X _ HQO.out).mono ?_
  rintro e k1 ⟨rfl, hb1⟩
  rw [HRI.out]
  have x1' := x12.keep hb1
  have y1' := y12.keep hb1
  have b1' := b12.trans (hb1.mono b12.size)
  refine hK _ _ ⟨hb1, ?_⟩
  clear hK K hb1 x12 y12 b12
  refine Len.wpSegs_next (by simp [Len.pickOps]; rfl) ?_
  repeat (go_big_quiet_step (fail))
  refine wpQuiet_load_cells rfl 25 (.tmp 11) rfl w6.heap.size 0 rfl (pcells X) _ y1'.cells y1'.lt Tryd.underlying25 rfl HXS.out ?_
  refine wpQuiet_nil ?_
  refine wpOp_alone rfl rfl (fun K hK => ?_)
  refine wp_load_cells 25 (.tmp 7) rfl w1.heap.size 0 rfl (pcells X) _ x1'.cells Tryd.underlying25 rfl HXS.out ?_
  refine hK _ _ ⟨Ext.refl _, ?_⟩
  clear hK K
  have hxe := HXE.out
  go_simp
  refine Len.wpSegs_next (by simp [Len.pickOps]; rfl) ?_
  repeat (go_big_quiet_step (fail))
  clear hxe
  refine wpQuiet_load_cells rfl 25 (.tmp 7) rfl w1.heap.size 0 rfl (pcells X) _ x1'.cells x1'.lt Tryd.underlying25 rfl HXS.out ?_
  refine wpQuiet_nil ?_
  refine wpOp_alone rfl rfl (fun K hK => ?_)
  go_simp
  refine (HC.out X HQO.out _ b1').mono ?_
  rintro e k2 ⟨rfl, hb2⟩
  rw [HCK.out]
  have x2' := x1'.keep hb2
  have y2' := y1'.keep hb2
  have b2' := b1'.trans (hb2.mono b1'.size)
  refine hK _ _ ⟨hb2, ?_⟩
  clear hK K hb2 x1' y1' b1'
  have hsl := HSL.out
  refine Len.wpSegs_next (by simp [Len.pickOps]; rfl) ?_
  repeat (go_big_quiet_step (fail))
  clear hsl
  refine wpQuiet_load_cells rfl 25 (.tmp 7) rfl w1.heap.size 0 rfl (pcells X) _ x2'.cells x2'.lt Tryd.underlying25 rfl HXS.out ?_
  refine wpQuiet_nil ?_
  refine wpOp_alone rfl rfl (fun K hK => ?_)
  go_simp
  refine (HCT.out X HQO.out _ b2').mono ?_
  rintro e k3 ⟨rfl, hb3⟩
  rw [HCL.out]
  have x3' := x2'.keep hb3
  have y3' := y2'.keep hb3
  have b3' := b2'.trans (hb3.mono b2'.size)
  refine hK _ _ ⟨hb3, ?_⟩
  clear hK K hb3 x2' y2' b2'
  refine Len.wpSegs_next (by simp [Len.pickOps]; rfl) ?_
  repeat (go_big_quiet_step (fail))
  refine wpQuiet_load_cells rfl 25 (.tmp 7) rfl w1.heap.size 0 rfl (pcells X) _ x3'.cells x3'.lt Tryd.underlying25 rfl HXS.out ?_
  refine wpQuiet_nil ?_
  refine wpOp_alone rfl rfl (fun K hK => ?_)
  go_simp
  refine (sectors_any X _).mono ?_
  rintro e k4 ⟨rfl, hb4⟩
  have x4' := x3'.keep hb4
  have y4' := y3'.keep hb4
  have b4' := b3'.trans (hb4.mono b3'.size)
  refine hK _ _ ⟨hb4, ?_⟩
  clear hK K hb4 x3' y3' b3'
  obtain ⟨s1, s2⟩ := HSE.out
  obtain ⟨s3, s4⟩ := HSC.out
  generalize hS : secsOf X.len = S at *
  have HSS := Lib.hid hS
  clear hS
  have hmul : IntKind.i64.wrap (S * 512) = S * 512 := IntWalk.i64_in _ (by omega)
  have hadd : IntKind.i64.wrap ((n : Int) + 512) = (n : Int) + 512 := IntWalk.i64_in _ (by omega)
  have t1 : decide ((n : Int) ≤ S * 512) = true := by simpa using s1
  have t2 : decide (S * 512 < (n : Int) + 512) = true := by simpa using s2
  refine Len.wpSegs_next (by simp [Len.pickOps]; rfl) ?_
  repeat (go_big_quiet_step (fail))
  refine wpQuiet_load_cells rfl 25 (.tmp 7) rfl w1.heap.size 0 rfl (pcells X) _ x4'.cells x4'.lt Tryd.underlying25 rfl HXS.out ?_
  refine wpQuiet_nil ?_
  refine wpOp_alone rfl rfl (fun K hK => ?_)
  go_simp
  refine (sectors_any X _).mono ?_
  rintro e k5 ⟨rfl, hb5⟩
  rw [HSS.out]
  have x5' := x4'.keep hb5
  have y5' := y4'.keep hb5
  have b5' := b4'.trans (hb5.mono b4'.size)
  refine hK _ _ ⟨hb5, ?_⟩
  clear hK K hb5 x4' y4' b4'
  refine Len.wpSegs_last (by simp [Len.pickOps]; rfl) ?_
  repeat (go_big_quiet_step (fail))
  refine wpQuiet_nil ?_
  clear hmul hadd t1 t2
  go_wp2_with fail
  go_ret
  exact ⟨rfl, b5'⟩

set_option maxRecDepth 100000 in
set_option maxHeartbeats 8000000 in
theorem pback_big (b o n c : Nat) (xs : List Int) (at0 birth0 : Int) (w : World) (hn : 2000 = xs.length) (hs : Src .u8 w (some ⟨b, o, none⟩) xs) (hx : IsBytes xs) (hl : 2000 < n) (hnc : n ≤ c) (hc : c ≤ 9223372036854775807) (ht : Tabs w) :
    Calls Tryd.prog 4 #[.int .i64 at0, .int .i64 birth0, .slice (some ⟨b, o, none⟩) n c] w fun e w' => e = .returned (.bool true) ∧ Below w.heap.size w w' := by
  have hd : decide ((2000 : Int) < (n : Int)) = true := by simp; omega
  have hd2 : decide (2000 < n) = true := by simp; omega
  have hc3 : (2000 : Int) ≤ (c : Int) := by omega
  have HSL : Hid (∀ w', (Instr.sliceAt 26 (.slice (some ⟨b, o, none⟩) 2000 c) (some (.int .i64 1)) none none).run Tryd.prog w' = .ok (.slice (Sha3.fromA (some ⟨b, o, none⟩) c 1) (2000 - 1) (c - 1)) w') := Lib.hid (fun w' => Sha3.run_slice_from w' 26 5 (some ⟨b, o, none⟩) 2000 c 1 Tryd.underlying26 Tryd.size8 (by omega))
  obtain ⟨v, hv⟩ : ∃ v, bits .and .i64 at0 4095 = v := ⟨_, rfl⟩
  obtain ⟨u, hu⟩ : ∃ u, bits .and .i64 birth0 1099511627775 = u := ⟨_, rfl⟩
  obtain ⟨v0, v1⟩ : 0 ≤ v ∧ v ≤ 4095 := by rw [← hv]; exact and_mask at0 4095 (by decide)
  obtain ⟨u0, u1⟩ : 0 ≤ u ∧ u ≤ 1099511627775 := by rw [← hu]; exact and_mask birth0 1099511627775 (by decide)
  have hlen : (xs : List Int).length ≤ 2000 := by omega
  have hqo : (ofP (2 + v) (1 + u) xs).Ok := ofP_ok (by omega) (by omega) (by omega) (by omega) (by omega)
  have HO := Lib.hid (fun w' (hb : Below w.heap.size w w') => of_any (2 + v) (1 + u) (some ⟨b, o, none⟩) 2000 c xs w' (ht.keep hb) hn (hs.keep hb) hx (by omega) (by omega) hc)
  have HC := Lib.hid (fun (q : Pt) (hq : q.Ok) w' (hb : Below w.heap.size w w') => check_any q (some ⟨b, o, none⟩) 2000 c xs w' hq (ht.keep hb) hn (hs.keep hb) hx (by omega) (by omega) hc)
  have HRd := Lib.hid (fun (A : Option Addr) (n c : Nat) (ys : List Int) w' (hn : n = ys.length) (hs : Src .u8 w' A ys) (hx : IsBytes ys) (hnc : n ≤ c) (hc : c ≤ 9223372036854775807) => read_any A n c ys w' hn hs hx hnc hc)
  have HQO := Lib.hid hqo
  have HXS := Lib.hid (pt_size hqo.shaL)
  have HX1 := Lib.hid (pcells_one (ofP (2 + v) (1 + u) xs))
  have HXZ : Hid ((pcells Pt.zero).size = (pcells (ofP (2 + v) (1 + u) xs)).size) := Lib.hid (by rw [pcells_size, pcells_size, hqo.shaL]; rfl)
  have HZS := Lib.hid (pt_size (p := Pt.zero) rfl)
  have HZ1 := Lib.hid (pcells_one Pt.zero)
  have HPL := Lib.hid (putOf_length _ hqo.shaL)
  have HPB := Lib.hid (putOf_bytes _ hqo.shaB)
  have hrt : (ofP (2 + v) (1 + u) xs).right = true := of_right (by omega) (by omega) (by omega) (by omega) (by omega) hlen
  have HRI := Lib.hid hrt
  have HCK := Lib.hid (check_own hrt)
  have HCL := Lib.hid (check_less hrt (by omega))
  have HRB := Lib.hid (read_put (p := ofP (2 + v) (1 + u) xs) (zs := xs) hqo.shaL (of_back (by omega) (by omega) (by omega) (by omega) hlen) (.inr hrt))
  have HRC := Lib.hid (read_cut (p := ofP (2 + v) (1 + u) xs) hqo.shaL)
  have HCT := Lib.hid (fun (q : Pt) (hq : q.Ok) w' (hb : Below w.heap.size w w') => check_any q (Sha3.fromA (some ⟨b, o, none⟩) c 1) (2000 - 1) (c - 1) (xs.drop 1) w' hq (ht.keep hb) (by rw [List.length_drop]; omega) ((hs.drop 1 c (by omega) (by omega)).keep hb) (hx.drop 1) (by omega) (by omega) (by omega))
  have HSE : Hid ((2000 : Int) ≤ secsOf (ofP (2 + v) (1 + u) xs).len * 512 ∧ secsOf (ofP (2 + v) (1 + u) xs).len * 512 < (2000 : Int) + 512) := Lib.hid (by have h := secs_enough (m := xs.length) (by omega) hlen; show _ ≤ secsOf (xs.length : Int) * 512 ∧ secsOf (xs.length : Int) * 512 < _; rw [← hn] at h ⊢; exact h)
  have HSC := Lib.hid (secs_bounds (ofP (2 + v) (1 + u) xs).len)
  have HXE : Hid (∀ w', (binOp .eql 25 (.agg (pcells (ofP (2 + v) (1 + u) xs))) (.agg (pcells (ofP (2 + v) (1 + u) xs)))).run Tryd.prog w' = .ok (.bool true) w') := Lib.hid (fun w' => by rw [eql_pts w' _ _ hqo.shaL hqo.shaL, Pt.same_self])
  have Hn := Lib.hid hn
  have Hs := Lib.hid hs
  have Hx := Lib.hid hx
  have Hl := Lib.hid hlen
  have b0 : Below w.heap.size w w := Below.refl _ _
  generalize ofP (2 + v) (1 + u) xs = X at *
  clear hn hs hx hqo ht hlen hnc hrt
  go_enter Tryd.func4, Tryd.ntmps4
  go_wp2_with fail
  refine (HO.out _ b0).mono ?_
  rintro e w1 ⟨rfl, hb1⟩
  have x1 := zero_row w1
  have bz := zero_below w1
  have b1 := hb1.trans (bz.mono hb1.size)
  have hB7 := hb1.size
  clear b0 hb1 bz HO hv hu
  go_wp2_with (first
    | (refine wpList_store_row rfl 25 (.tmp 7) (.tmp 29) rfl w1.heap.size (pcells X) rfl rfl 25 (pcells Pt.zero) x1 HXS.out HXZ.out HX1.out ?_; have x2 := x1.setRow (pcells X); have b2 := below_setRow b1 (b := w1.heap.size) hB7 (pcells X); clear x1 b1)
    | (refine wpList_load_cells_w rfl 25 (.tmp 7) rfl w1.heap.size 0 rfl (pcells X) _ x2.cells Tryd.underlying25 rfl HXS.out ?_))
  generalize (w1.alloc _).setRow w1.heap.size (pcells X) = w2 at *
  refine (put_any .none 0 0 [] X w2 HQO.out rfl Src.none_ (by omega)).mono ?_
  rintro e w3 ⟨_, rfl, A3, n3, c3, rfl, hn3, ho3, hb3⟩
  rw [List.nil_append] at hn3 ho3
  have x3 := x2.keep hb3
  have b3 := b2.trans (hb3.mono b2.size)
  obtain rfl : n3 = 52 := by rw [hn3, HPL.out]
  have hc52 : 52 ≤ c3 := by rw [hn3]; exact ho3.cap.1
  have hcm3 : c3 ≤ 9223372036854775807 := by have := ho3.cap.2; unfold maxLen at this; exact this
  obtain ⟨g3, o3, rfl, _, _⟩ := ho3.src (by omega)
  have Hn3 := Lib.hid hn3
  have HS3 := Lib.hid ho3.src
  have hc51 : (51 : Int) ≤ (c3 : Int) := by omega
  have HC52 := Lib.hid hc52
  have HCM3 := Lib.hid hcm3
  clear x2 b2 hb3 hn3 ho3 hc52 hcm3
  go_wp2_with (first
    | (at_builtin; refine wpList_append_src rfl (.tmp 62) (.tmp 63) rfl w3.heap.size _ _ _ [] rfl rfl (own_made w3 _ (Nat.le_refl _)) (some ⟨g3, o3, none⟩) 52 c3 (putOf X) rfl Hn3.out (HS3.out.keep ((Below.refl _ _).alloc (Nat.le_refl _) _)) (by omega) (by simp) ?_; rintro v4 w4 ⟨A4, n4, c4, rfl, hn4, ho4, hb4⟩; have Hn4 := Lib.hid hn4; have Ho4 := Lib.hid ho4; have b4 := (b3.alloc b3.size _).trans (hb4.mono b3.size); have e34 := ((Below.refl w3.heap.size w3).alloc (Nat.le_refl _) _).trans hb4; have h4z := e34.size; have h4n : n4 = 52 := (by rw [hn4, List.nil_append, ← Hn3.out]); have H4N := Lib.hid h4n; have H4Z := Lib.hid h4z; clear hn4 ho4 hb4 h4n h4z)
    | (at_builtin; refine wpList_append_src rfl (.tmp 64) (.tmp 65) rfl w3.heap.size A4 n4 c4 _ rfl Hn4.out Ho4.out (some ⟨b, o, none⟩) 2000 c xs rfl Hn.out (Hs.out.keep b4) (by have := H4N.out; have := Hl.out; have := Hn.out; omega) H4Z.out ?_; rintro v5 w5 ⟨A5, n5, c5, rfl, hn5, ho5, hb5⟩; have Hn5 := Lib.hid hn5; have Ho5 := Lib.hid ho5; have b5 := b4.trans (hb5.mono b3.size); have e35 := e34.trans hb5; clear hn5 ho5 hb5 e34 b4))
  have x5 := x3.keep e35
  have HS5 := Lib.hid (HS3.out.keep e35)
  clear x3 b3 e35 HS3
  refine (HRd.out A5 n5 c5 (putOf X ++ xs) _ (by have := Hn5.out; rw [List.nil_append] at this; exact this) (by have := Ho5.out.src; rw [List.nil_append] at this; exact this) (HPB.out.append Hx.out) (by rw [Hn5.out]; exact Ho5.out.cap.1) (by have := Ho5.out.cap.2; unfold maxLen at this; exact this)).mono ?_
  rintro e w6 ⟨rfl, hb6⟩
  rw [HRB.out.1, HRB.out.2]
  have x6 := x5.keep hb6
  have b6 := b5.trans (hb6.mono b5.size)
  have HS6 := Lib.hid (HS5.out.keep hb6)
  have y1 := zero_row w6
  have bz := zero_below w6
  have x7 := x6.keep bz
  have b7 := b6.trans (bz.mono b6.size)
  have lt6 := x6.lt
  have hB11 := b6.size
  have HS7 := Lib.hid (HS6.out.keep bz)
  clear x5 x6 b5 b6 hb6 bz HS5 Ho5 Hn5 Ho4 Hn4
  have e68 := below_setRow ((Below.refl w6.heap.size w6).alloc (Nat.le_refl _) (.cells #[Value.int IntKind.i64 0, Value.int IntKind.i64 0, Value.int IntKind.i64 0, Value.int IntKind.u32 0, Value.int IntKind.u8 0, Value.int IntKind.u8 0, Value.int IntKind.u8 0, Value.int IntKind.u8 0, Value.int IntKind.u8 0, Value.int IntKind.u8 0, Value.int IntKind.u8 0, Value.int IntKind.u8 0, Value.int IntKind.u8 0, Value.int IntKind.u8 0, Value.int IntKind.u8 0, Value.int IntKind.u8 0, Value.int IntKind.u8 0, Value.int IntKind.u8 0, Value.int IntKind.u8 0, Value.int IntKind.u8 0, Value.int IntKind.u8 0, Value.int IntKind.u8 0, Value.int IntKind.u8 0, Value.int IntKind.u8 0, Value.int IntKind.u8 0, Value.int IntKind.u8 0, Value.int IntKind.u8 0, Value.int IntKind.u8 0, Value.int IntKind.u8 0, Value.int IntKind.u8 0, Value.int IntKind.u8 0, Value.int IntKind.u8 0, Value.int IntKind.u8 0, Value.int IntKind.u8 0, Value.int IntKind.u8 0, Value.int IntKind.u8 0] 25)) (b := w6.heap.size) (Nat.le_refl _) (pcells X)
  have HS8 := Lib.hid (HS6.out.keep e68)
  clear e68 HS7
  go_wp2_with (refine wpList_store_row rfl 25 (.tmp 11) (.tmp 68) rfl w6.heap.size (pcells X) rfl rfl 25 (pcells Pt.zero) y1 HXS.out HXZ.out HX1.out ?_; have y2 := y1.setRow (pcells X); have x8 := x7.otherRow (b := w6.heap.size) (by omega) (pcells X); have b8 := below_setRow b7 (b := w6.heap.size) hB11 (pcells X); clear y1 x7 b7)
  refine (HRd.out (some ⟨g3, o3, none⟩) 51 c3 ((putOf X).take 51) _ (by rw [List.length_take, HPL.out]; rfl) (HS8.out.take 51) (HPB.out.take 51) (by have := HC52.out; omega) HCM3.out).mono ?_
  rintro e w9 ⟨rfl, hb9⟩
  rw [HRC.out]
  have hzo := readPt_ok ((putOf X).take 51) (HPB.out.take 51)
  generalize readPt ((putOf X).take 51) = Z at *
  have HZZ : Hid ((pcells Pt.zero).size = (pcells Z).size) := Lib.hid (by rw [pcells_size, pcells_size, hzo.shaL]; rfl)
  have HZ2 := Lib.hid (pt_size hzo.shaL)
  have HZ3 := Lib.hid (pcells_one Z)
  have x9 := x8.keep hb9
  have y9 := y2.keep hb9
  have b9 := b8.trans (hb9.mono b8.size)
  have z1 := zero_row w9
  have bz := zero_below w9
  have x10 := x9.keep bz
  have y10 := y9.keep bz
  have b10 := b9.trans (bz.mono b9.size)
  have ltx := x9.lt
  have lty := y9.lt
  have hB13 := b9.size
  clear x8 x9 y2 y9 b8 b9 hb9 bz HS8 HS6 hzo
  go_wp2_with (refine wpList_store_row rfl 25 (.tmp 13) (.tmp 74) rfl w9.heap.size (pcells Z) rfl rfl 25 (pcells Pt.zero) z1 HZ2.out HZZ.out HZ3.out ?_; have x11 := x10.otherRow (b := w9.heap.size) (by omega) (pcells Z); have y11 := y10.otherRow (b := w9.heap.size) (by omega) (pcells Z); have b11 := below_setRow b10 (b := w9.heap.size) hB13 (pcells Z); clear z1 x10 y10 b10)
  generalize (w9.alloc _).setRow w9.heap.size (pcells Z) = w11 at *
  have x12 := x11.drew
  have y12 := y11.drew
  have b12 := b11.drew
  clear x11 y11 b11
  refine Len.wp_region_segs [([0], 1), ([2, 3, 4, 5, 6, 7], 8), ([9, 10, 11, 12, 13, 14, 15, 17, 16], 18), ([19, 20, 21, 23, 24, 22], 25), ([26, 27, 28, 32, 33, 29], 30), ([31, 34, 35, 36, 40, 41, 42, 37], 38)] [39, 43, 44, 45] (by kernel_rfl) (by kernel_rfl) (by kernel_rfl) (by kernel_rfl) (fun _ _ d _ _ h => by cases d <;> exact h) ?_
  refine Len.wpSegs_next (by simp [Len.pickOps]; rfl) ?_
  repeat (go_big_quiet_step (fail))
  refine wpQuiet_load_cells rfl 25 (.tmp 7) rfl w1.heap.size 0 rfl (pcells X) _ x12.cells x12.lt Tryd.underlying25 rfl HXS.out ?_
  refine wpQuiet_nil ?_
  refine wpOp_alone rfl rfl (fun K hK => ?_)
  go_simp
  refine (right_any X _ HQO.out).mono ?_
  rintro e k1 ⟨rfl, hb1⟩
  rw [HRI.out]
  have x1' := x12.keep hb1
  have y1' := y12.keep hb1
  have b1' := b12.trans (hb1.mono b12.size)
  refine hK _ _ ⟨hb1, ?_⟩
  clear hK K hb1 x12 y12 b12
  refine Len.wpSegs_next (by simp [Len.pickOps]; rfl) ?_
  repeat (go_big_quiet_step (fail))
  refine wpQuiet_load_cells rfl 25 (.tmp 11) rfl w6.heap.size 0 rfl (pcells X) _ y1'.cells y1'.lt Tryd.underlying25 rfl HXS.out ?_
  refine wpQuiet_nil ?_
  refine wpOp_alone rfl rfl (fun K hK => ?_)
  refine wp_load_cells 25 (.tmp 7) rfl w1.heap.size 0 rfl (pcells X) _ x1'.cells Tryd.underlying25 rfl HXS.out ?_
  refine hK _ _ ⟨Ext.refl _, ?_⟩
  clear hK K
  have hxe := HXE.out
  go_simp
  refine Len.wpSegs_next (by simp [Len.pickOps]; rfl) ?_
  repeat (go_big_quiet_step (fail))
  clear hxe
  refine wpQuiet_load_cells rfl 25 (.tmp 7) rfl w1.heap.size 0 rfl (pcells X) _ x1'.cells x1'.lt Tryd.underlying25 rfl HXS.out ?_
  refine wpQuiet_nil ?_
  refine wpOp_alone rfl rfl (fun K hK => ?_)
  go_simp
  refine (HC.out X HQO.out _ b1').mono ?_
  rintro e k2 ⟨rfl, hb2⟩
  rw [HCK.out]
  have x2' := x1'.keep hb2
  have y2' := y1'.keep hb2
  have b2' := b1'.trans (hb2.mono b1'.size)
  refine hK _ _ ⟨hb2, ?_⟩
  clear hK K hb2 x1' y1' b1'
  have hsl := HSL.out
  refine Len.wpSegs_next (by simp [Len.pickOps]; rfl) ?_
  repeat (go_big_quiet_step (fail))
  clear hsl
  refine wpQuiet_load_cells rfl 25 (.tmp 7) rfl w1.heap.size 0 rfl (pcells X) _ x2'.cells x2'.lt Tryd.underlying25 rfl HXS.out ?_
  refine wpQuiet_nil ?_
  refine wpOp_alone rfl rfl (fun K hK => ?_)
  go_simp
  refine (HCT.out X HQO.out _ b2').mono ?_
  rintro e k3 ⟨rfl, hb3⟩
  rw [HCL.out]
  have x3' := x2'.keep hb3
  have y3' := y2'.keep hb3
  have b3' := b2'.trans (hb3.mono b2'.size)
  refine hK _ _ ⟨hb3, ?_⟩
  clear hK K hb3 x2' y2' b2'
  refine Len.wpSegs_next (by simp [Len.pickOps]; rfl) ?_
  repeat (go_big_quiet_step (fail))
  refine wpQuiet_load_cells rfl 25 (.tmp 7) rfl w1.heap.size 0 rfl (pcells X) _ x3'.cells x3'.lt Tryd.underlying25 rfl HXS.out ?_
  refine wpQuiet_nil ?_
  refine wpOp_alone rfl rfl (fun K hK => ?_)
  go_simp
  refine (sectors_any X _).mono ?_
  rintro e k4 ⟨rfl, hb4⟩
  have x4' := x3'.keep hb4
  have y4' := y3'.keep hb4
  have b4' := b3'.trans (hb4.mono b3'.size)
  refine hK _ _ ⟨hb4, ?_⟩
  clear hK K hb4 x3' y3' b3'
  obtain ⟨s1, s2⟩ := HSE.out
  obtain ⟨s3, s4⟩ := HSC.out
  generalize hS : secsOf X.len = S at *
  have HSS := Lib.hid hS
  clear hS
  have hmul : IntKind.i64.wrap (S * 512) = S * 512 := IntWalk.i64_in _ (by omega)
  have hadd : IntKind.i64.wrap (2000 + 512) = 2000 + 512 := IntWalk.i64_in _ (by omega)
  have t1 : decide (2000 ≤ S * 512) = true := by simpa using s1
  have t2 : decide (S * 512 < 2000 + 512) = true := by simpa using s2
  have t3 : decide (S * 512 < 2512) = true := by simp; omega
  refine Len.wpSegs_next (by simp [Len.pickOps]; rfl) ?_
  repeat (go_big_quiet_step (fail))
  refine wpQuiet_load_cells rfl 25 (.tmp 7) rfl w1.heap.size 0 rfl (pcells X) _ x4'.cells x4'.lt Tryd.underlying25 rfl HXS.out ?_
  refine wpQuiet_nil ?_
  refine wpOp_alone rfl rfl (fun K hK => ?_)
  go_simp
  refine (sectors_any X _).mono ?_
  rintro e k5 ⟨rfl, hb5⟩
  rw [HSS.out]
  have x5' := x4'.keep hb5
  have y5' := y4'.keep hb5
  have b5' := b4'.trans (hb5.mono b4'.size)
  refine hK _ _ ⟨hb5, ?_⟩
  clear hK K hb5 x4' y4' b4'
  refine Len.wpSegs_last (by simp [Len.pickOps]; rfl) ?_
  repeat (go_big_quiet_step (fail))
  refine wpQuiet_nil ?_
  clear hmul hadd t1 t2 t3
  go_wp2_with fail
  go_ret
  exact ⟨rfl, b5'⟩
end Go.Proofs.YtiddimfkcejfnaaDoor

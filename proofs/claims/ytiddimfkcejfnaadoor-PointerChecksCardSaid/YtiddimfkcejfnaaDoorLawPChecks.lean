/- PointerChecks' walk: for any pointer, any place and any bytes it answers true, and writes nothing that was there. -/
import Derived.Test.YtiddimfkcejfnaaDoorPtrCheckRef
namespace Go.Proofs.YtiddimfkcejfnaaDoor
open Go.RowKit

theorem put_none' (a : Act) (v : Value) : a.put none v = a := rfl

set_option maxRecDepth 100000 in
set_option maxHeartbeats 8000000 in
theorem pchecks_small (A : Option Addr) (n c : Nat) (xs : List Int) (p : Pt) (place : Int) (w : World) (hp : p.Ok) (hn : n = xs.length) (hs : Src .u8 w A xs) (hx : IsBytes xs) (hl : n ≤ 1000) (hnc : n ≤ c) (hc : c ≤ 9223372036854775807) (hplace1 : -9223372036854775808 ≤ place) (hplace2 : place ≤ 9223372036854775807) (ht : Tabs w) :
    Calls Tryd.prog 3 #[.agg (pcells p), .int .i64 place, .slice A n c] w fun e w' => e = .returned (.bool true) ∧ Below w.heap.size w w' := by
  have hd : decide ((1000 : Int) < (n : Int)) = false := by simp; omega
  have hd2 : decide (1000 < n) = false := by simp; omega
  have r1 := Row.new w 25 (pcells p)
  have b1 : Below w.heap.size w (w.alloc (.cells (pcells p) 25)) := (Below.refl _ _).alloc (Nat.le_refl _) _
  have c1 := row_birth r1
  have HPS := Lib.hid (pt_size hp.shaL)
  have hqo : (ofP place p.birth xs).Ok := ofP_ok hplace1 hplace2 hp.birth1 hp.birth2 (by omega)
  have HO1 := Lib.hid (fun w' (hb : Below w.heap.size w w') => of_any place p.birth A n c xs w' (ht.keep hb) hn (hs.keep hb) hx (by omega) (by omega) hc)
  have HO2 := Lib.hid (fun w' (hb : Below w.heap.size w w') => refOf_any place p.birth A n c xs w' hn (hs.keep hb) hx (by omega) (by omega) hc)
  have HC1 := Lib.hid (fun (q : Pt) (hq : q.Ok) w' (hb : Below w.heap.size w w') => check_any q A n c xs w' hq (ht.keep hb) hn (hs.keep hb) hx (by omega) (by omega) hc)
  have HC2 := Lib.hid (fun (q : Pt) (hq : q.Ok) w' (hb : Below w.heap.size w w') => refCheck_any q A n c xs w' hq hn (hs.keep hb) hx (by omega) (by omega) hc)
  have HPO := Lib.hid hp
  have HQO := Lib.hid hqo
  have HXS := Lib.hid (pt_size hqo.shaL)
  have HX1 := Lib.hid (pcells_one (ofP place p.birth xs))
  have HXZ : Hid ((pcells Pt.zero).size = (pcells (ofP place p.birth xs)).size) := Lib.hid (by rw [pcells_size, pcells_size, hqo.shaL]; rfl)
  have HXE : Hid (∀ w', (binOp .eql 25 (.agg (pcells (ofP place p.birth xs))) (.agg (pcells (ofP place p.birth xs)))).run Tryd.prog w' = .ok (.bool true) w') := Lib.hid (fun w' => by rw [eql_pts w' _ _ hqo.shaL hqo.shaL, Pt.same_self])
  clear hn hs hx hp hqo ht hplace1 hplace2
  generalize ofP place p.birth xs = X at *
  go_enter Tryd.func3, Tryd.ntmps3
  go_wp2_with fail
  refine (HO1.out _ b1).mono ?_
  rintro e w1 ⟨rfl, hb1⟩
  have r2 := r1.keep hb1
  have b2 := b1.trans (hb1.mono b1.size)
  have x1 := zeroP_row w1
  have bz := zeroP_below w1
  have b3 := b2.trans (bz.mono b2.size)
  have r3 := r2.keep bz
  have lt1 := r2.lt
  clear r1 r2 b1 b2 bz hb1 HO1 c1
  go_wp2_with (refine wpList_store_row rfl 25 (.tmp 7) (.tmp 17) rfl w1.heap.size (pcells X) rfl rfl 25 (pcells Pt.zero) x1 HXS.out HXZ.out HX1.out ?_; have x2 := x1.setRow (pcells X); have r4 := r3.otherRow (b := w1.heap.size) (by omega) (pcells X); have b4 := below_setRow b3 (b := w1.heap.size) (by omega) (pcells X); clear x1 r3 b3)
  rw [put_none']
  generalize (w1.alloc _).setRow w1.heap.size (pcells X) = w2 at *
  have x3 := x2.drew
  have r5 := r4.drew
  have b5 := b4.drew
  clear x2 r4 b4
  have c1 : ∀ x : Above w2.drew, x.1.cell? ⟨w.heap.size, 1, none⟩ = some (.int .i64 p.birth) := r5.above (pcells_1 p)
  refine wp_region_segs [([1, 2, 3, 4, 0], 5), ([6, 7, 9, 12, 8, 11], 10), ([], 13), ([14, 15, 16, 18, 21, 17, 20], 19), ([], 22)] [23, 24, 25, 26, 27] (by kernel_rfl) (by kernel_rfl) (by kernel_rfl) (by kernel_rfl) (fun _ _ d _ _ h => by cases d <;> exact h) ?_
  refine wpSegs_next (by simp [pickOps]; rfl) ?_
  repeat (go_big_quiet_step (fail))
  refine wpQuiet_load_cells rfl 25 (.tmp 7) rfl w1.heap.size 0 rfl (pcells X) _ x3.cells x3.lt Tryd.underlying25 rfl HXS.out ?_
  refine wpQuiet_nil ?_
  refine wpOp_alone rfl rfl (fun K hK => ?_)
  go_simp
  refine (HO2.out _ b5).mono ?_
  rintro e u1 ⟨rfl, hb1⟩
  clear c1
  have x1' := x3.keep hb1
  have r1' := r5.keep hb1
  have b1' := b5.trans (hb1.mono b5.size)
  refine hK _ _ ⟨hb1, ?_⟩
  clear hK K hb1 x3 r5 b5
  have hxe := HXE.out
  refine wpSegs_next (by simp [pickOps]; rfl) ?_
  repeat (go_big_quiet_step (fail))
  clear hxe
  refine wpQuiet_load_cells rfl 25 (.tmp 3) rfl w.heap.size 0 rfl (pcells p) _ r1'.cells r1'.lt Tryd.underlying25 rfl HPS.out ?_
  refine wpQuiet_load_cells rfl 25 (.tmp 3) rfl w.heap.size 0 rfl (pcells p) _ r1'.cells r1'.lt Tryd.underlying25 rfl HPS.out ?_
  refine wpQuiet_nil ?_
  refine wpOp_alone rfl rfl (fun K hK => ?_)
  go_simp
  refine (HC1.out p HPO.out _ b1').mono ?_
  rintro e u2 ⟨rfl, hb2⟩
  have x2' := x1'.keep hb2
  have r2' := r1'.keep hb2
  have b2' := b1'.trans (hb2.mono b1'.size)
  refine hK _ _ ⟨hb2, ?_⟩
  clear hK K hb2 x1' r1' b1'
  refine wpSegs_next (by simp [pickOps]; rfl) ?_
  repeat (go_big_quiet_step (fail))
  refine wpQuiet_nil ?_
  refine wpOp_alone rfl rfl (fun K hK => ?_)
  go_simp
  refine (HC2.out p HPO.out _ b2').mono ?_
  rintro e u3 ⟨rfl, hb3⟩
  have x3' := x2'.keep hb3
  have r3' := r2'.keep hb3
  have b3' := b2'.trans (hb3.mono b2'.size)
  refine hK _ _ ⟨hb3, ?_⟩
  clear hK K hb3 x2' r2' b2'
  generalize checkP p xs = e1 at *
  refine wpSegs_next (by simp [pickOps]; rfl) ?_
  repeat (go_big_quiet_step (fail))
  refine wpQuiet_load_cells rfl 25 (.tmp 7) rfl w1.heap.size 0 rfl (pcells X) _ x3'.cells x3'.lt Tryd.underlying25 rfl HXS.out ?_
  refine wpQuiet_load_cells rfl 25 (.tmp 7) rfl w1.heap.size 0 rfl (pcells X) _ x3'.cells x3'.lt Tryd.underlying25 rfl HXS.out ?_
  refine wpQuiet_nil ?_
  refine wpOp_alone rfl rfl (fun K hK => ?_)
  go_simp
  refine (HC1.out X HQO.out _ b3').mono ?_
  rintro e u4 ⟨rfl, hb4⟩
  have x4' := x3'.keep hb4
  have r4' := r3'.keep hb4
  have b4' := b3'.trans (hb4.mono b3'.size)
  refine hK _ _ ⟨hb4, ?_⟩
  clear hK K hb4 x3' r3' b3'
  refine wpSegs_next (by simp [pickOps]; rfl) ?_
  repeat (go_big_quiet_step (fail))
  refine wpQuiet_nil ?_
  refine wpOp_alone rfl rfl (fun K hK => ?_)
  go_simp
  refine (HC2.out X HQO.out _ b4').mono ?_
  rintro e u5 ⟨rfl, hb5⟩
  have x5' := x4'.keep hb5
  have r5' := r4'.keep hb5
  have b5' := b4'.trans (hb5.mono b4'.size)
  refine hK _ _ ⟨hb5, ?_⟩
  clear hK K hb5 x4' r4' b4'
  generalize checkP X xs = e2 at *
  refine wpSegs_last (by simp [pickOps]; rfl) ?_
  repeat (go_big_quiet_step (fail))
  refine wpQuiet_nil ?_
  go_wp2_with fail
  go_ret
  exact ⟨rfl, b5'⟩

set_option maxRecDepth 100000 in
set_option maxHeartbeats 8000000 in
theorem pchecks_big (b o n c : Nat) (xs : List Int) (p : Pt) (place : Int) (w : World) (hp : p.Ok) (hn : 1000 = xs.length) (hs : Src .u8 w (some ⟨b, o, none⟩) xs) (hx : IsBytes xs) (hl : 1000 < n) (hnc : n ≤ c) (hc : c ≤ 9223372036854775807) (hplace1 : -9223372036854775808 ≤ place) (hplace2 : place ≤ 9223372036854775807) (ht : Tabs w) :
    Calls Tryd.prog 3 #[.agg (pcells p), .int .i64 place, .slice (some ⟨b, o, none⟩) n c] w fun e w' => e = .returned (.bool true) ∧ Below w.heap.size w w' := by
  have hd : decide ((1000 : Int) < (n : Int)) = true := by simp; omega
  have hd2 : decide (1000 < n) = true := by simp; omega
  have hc3 : (1000 : Int) ≤ (c : Int) := by omega
  have r1 := Row.new w 25 (pcells p)
  have b1 : Below w.heap.size w (w.alloc (.cells (pcells p) 25)) := (Below.refl _ _).alloc (Nat.le_refl _) _
  have c1 := row_birth r1
  have HPS := Lib.hid (pt_size hp.shaL)
  have hqo : (ofP place p.birth xs).Ok := ofP_ok hplace1 hplace2 hp.birth1 hp.birth2 (by omega)
  have HO1 := Lib.hid (fun w' (hb : Below w.heap.size w w') => of_any place p.birth (some ⟨b, o, none⟩) 1000 c xs w' (ht.keep hb) hn (hs.keep hb) hx (by omega) (by omega) hc)
  have HO2 := Lib.hid (fun w' (hb : Below w.heap.size w w') => refOf_any place p.birth (some ⟨b, o, none⟩) 1000 c xs w' hn (hs.keep hb) hx (by omega) (by omega) hc)
  have HC1 := Lib.hid (fun (q : Pt) (hq : q.Ok) w' (hb : Below w.heap.size w w') => check_any q (some ⟨b, o, none⟩) 1000 c xs w' hq (ht.keep hb) hn (hs.keep hb) hx (by omega) (by omega) hc)
  have HC2 := Lib.hid (fun (q : Pt) (hq : q.Ok) w' (hb : Below w.heap.size w w') => refCheck_any q (some ⟨b, o, none⟩) 1000 c xs w' hq hn (hs.keep hb) hx (by omega) (by omega) hc)
  have HPO := Lib.hid hp
  have HQO := Lib.hid hqo
  have HXS := Lib.hid (pt_size hqo.shaL)
  have HX1 := Lib.hid (pcells_one (ofP place p.birth xs))
  have HXZ : Hid ((pcells Pt.zero).size = (pcells (ofP place p.birth xs)).size) := Lib.hid (by rw [pcells_size, pcells_size, hqo.shaL]; rfl)
  have HXE : Hid (∀ w', (binOp .eql 25 (.agg (pcells (ofP place p.birth xs))) (.agg (pcells (ofP place p.birth xs)))).run Tryd.prog w' = .ok (.bool true) w') := Lib.hid (fun w' => by rw [eql_pts w' _ _ hqo.shaL hqo.shaL, Pt.same_self])
  clear hn hs hx hp hqo ht hplace1 hplace2
  generalize ofP place p.birth xs = X at *
  go_enter Tryd.func3, Tryd.ntmps3
  go_wp2_with fail
  refine (HO1.out _ b1).mono ?_
  rintro e w1 ⟨rfl, hb1⟩
  have r2 := r1.keep hb1
  have b2 := b1.trans (hb1.mono b1.size)
  have x1 := zeroP_row w1
  have bz := zeroP_below w1
  have b3 := b2.trans (bz.mono b2.size)
  have r3 := r2.keep bz
  have lt1 := r2.lt
  clear r1 r2 b1 b2 bz hb1 HO1 c1
  go_wp2_with (refine wpList_store_row rfl 25 (.tmp 7) (.tmp 17) rfl w1.heap.size (pcells X) rfl rfl 25 (pcells Pt.zero) x1 HXS.out HXZ.out HX1.out ?_; have x2 := x1.setRow (pcells X); have r4 := r3.otherRow (b := w1.heap.size) (by omega) (pcells X); have b4 := below_setRow b3 (b := w1.heap.size) (by omega) (pcells X); clear x1 r3 b3)
  rw [put_none']
  generalize (w1.alloc _).setRow w1.heap.size (pcells X) = w2 at *
  have x3 := x2.drew
  have r5 := r4.drew
  have b5 := b4.drew
  clear x2 r4 b4
  have c1 : ∀ x : Above w2.drew, x.1.cell? ⟨w.heap.size, 1, none⟩ = some (.int .i64 p.birth) := r5.above (pcells_1 p)
  refine wp_region_segs [([1, 2, 3, 4, 0], 5), ([6, 7, 9, 12, 8, 11], 10), ([], 13), ([14, 15, 16, 18, 21, 17, 20], 19), ([], 22)] [23, 24, 25, 26, 27] (by kernel_rfl) (by kernel_rfl) (by kernel_rfl) (by kernel_rfl) (fun _ _ d _ _ h => by cases d <;> exact h) ?_
  refine wpSegs_next (by simp [pickOps]; rfl) ?_
  repeat (go_big_quiet_step (fail))
  refine wpQuiet_load_cells rfl 25 (.tmp 7) rfl w1.heap.size 0 rfl (pcells X) _ x3.cells x3.lt Tryd.underlying25 rfl HXS.out ?_
  refine wpQuiet_nil ?_
  refine wpOp_alone rfl rfl (fun K hK => ?_)
  go_simp
  refine (HO2.out _ b5).mono ?_
  rintro e u1 ⟨rfl, hb1⟩
  clear c1
  have x1' := x3.keep hb1
  have r1' := r5.keep hb1
  have b1' := b5.trans (hb1.mono b5.size)
  refine hK _ _ ⟨hb1, ?_⟩
  clear hK K hb1 x3 r5 b5
  have hxe := HXE.out
  refine wpSegs_next (by simp [pickOps]; rfl) ?_
  repeat (go_big_quiet_step (fail))
  clear hxe
  refine wpQuiet_load_cells rfl 25 (.tmp 3) rfl w.heap.size 0 rfl (pcells p) _ r1'.cells r1'.lt Tryd.underlying25 rfl HPS.out ?_
  refine wpQuiet_load_cells rfl 25 (.tmp 3) rfl w.heap.size 0 rfl (pcells p) _ r1'.cells r1'.lt Tryd.underlying25 rfl HPS.out ?_
  refine wpQuiet_nil ?_
  refine wpOp_alone rfl rfl (fun K hK => ?_)
  go_simp
  refine (HC1.out p HPO.out _ b1').mono ?_
  rintro e u2 ⟨rfl, hb2⟩
  have x2' := x1'.keep hb2
  have r2' := r1'.keep hb2
  have b2' := b1'.trans (hb2.mono b1'.size)
  refine hK _ _ ⟨hb2, ?_⟩
  clear hK K hb2 x1' r1' b1'
  refine wpSegs_next (by simp [pickOps]; rfl) ?_
  repeat (go_big_quiet_step (fail))
  refine wpQuiet_nil ?_
  refine wpOp_alone rfl rfl (fun K hK => ?_)
  go_simp
  refine (HC2.out p HPO.out _ b2').mono ?_
  rintro e u3 ⟨rfl, hb3⟩
  have x3' := x2'.keep hb3
  have r3' := r2'.keep hb3
  have b3' := b2'.trans (hb3.mono b2'.size)
  refine hK _ _ ⟨hb3, ?_⟩
  clear hK K hb3 x2' r2' b2'
  generalize checkP p xs = e1 at *
  refine wpSegs_next (by simp [pickOps]; rfl) ?_
  repeat (go_big_quiet_step (fail))
  refine wpQuiet_load_cells rfl 25 (.tmp 7) rfl w1.heap.size 0 rfl (pcells X) _ x3'.cells x3'.lt Tryd.underlying25 rfl HXS.out ?_
  refine wpQuiet_load_cells rfl 25 (.tmp 7) rfl w1.heap.size 0 rfl (pcells X) _ x3'.cells x3'.lt Tryd.underlying25 rfl HXS.out ?_
  refine wpQuiet_nil ?_
  refine wpOp_alone rfl rfl (fun K hK => ?_)
  go_simp
  refine (HC1.out X HQO.out _ b3').mono ?_
  rintro e u4 ⟨rfl, hb4⟩
  have x4' := x3'.keep hb4
  have r4' := r3'.keep hb4
  have b4' := b3'.trans (hb4.mono b3'.size)
  refine hK _ _ ⟨hb4, ?_⟩
  clear hK K hb4 x3' r3' b3'
  refine wpSegs_next (by simp [pickOps]; rfl) ?_
  repeat (go_big_quiet_step (fail))
  refine wpQuiet_nil ?_
  refine wpOp_alone rfl rfl (fun K hK => ?_)
  go_simp
  refine (HC2.out X HQO.out _ b4').mono ?_
  rintro e u5 ⟨rfl, hb5⟩
  have x5' := x4'.keep hb5
  have r5' := r4'.keep hb5
  have b5' := b4'.trans (hb5.mono b4'.size)
  refine hK _ _ ⟨hb5, ?_⟩
  clear hK K hb5 x4' r4' b4'
  generalize checkP X xs = e2 at *
  refine wpSegs_last (by simp [pickOps]; rfl) ?_
  repeat (go_big_quiet_step (fail))
  refine wpQuiet_nil ?_
  go_wp2_with fail
  go_ret
  exact ⟨rfl, b5'⟩
end Go.Proofs.YtiddimfkcejfnaaDoor

/- PointerTells' walk: for any pointer and any bytes it answers true, and writes nothing that was there. -/
import Derived.Test.YtiddimfkcejfnaaPtrRefRead
import Derived.Test.YtiddimfkcejfnaaPtrRefPut
namespace Go.Proofs.Ytiddimfkcejfnaa
open Go.RowKit

theorem wp_load_cells {P : Program} {op : Oper} {a : Act} {w : World} {K : Act → World → Prop} {Q : Exit → Act → World → Prop} (ty : TypeId) (x : Operand) (ho : op.op = .load ty x)
    (b o : Nat) (hx : a.eval x = .pointer (some ⟨b, o, none⟩)) (cs : Array Value) (d : TypeDesc) (hc : Cells w b o cs)
    (hu : P.underlying ty = some d) (hd : (match d with | .struct _ | .array _ _ => true | _ => false) = true) (hi : (P.info? ty).map (·.size) = some cs.size)
    (h : K (a.put op.dst (.agg cs)) w) : Oper.wp P op a w K Q := by
  unfold Oper.wp execOp
  simp only [ho, hx, Instr.loadAt, Instr.sureAddr, Sem.run_bind, Sem.run_pure, Result.andThen_ok, run_loadVar_cells w b o ty cs d hc hu hd hi]
  exact h
theorem secs513 : secsOf 513 = 2 := by decide
theorem pt513_lit : #[Value.int IntKind.i64 0, Value.int IntKind.i64 0, Value.int IntKind.i64 513, Value.int IntKind.u32 0, Value.int IntKind.u8 0, Value.int IntKind.u8 0, Value.int IntKind.u8 0, Value.int IntKind.u8 0, Value.int IntKind.u8 0, Value.int IntKind.u8 0, Value.int IntKind.u8 0, Value.int IntKind.u8 0, Value.int IntKind.u8 0, Value.int IntKind.u8 0, Value.int IntKind.u8 0, Value.int IntKind.u8 0, Value.int IntKind.u8 0, Value.int IntKind.u8 0, Value.int IntKind.u8 0, Value.int IntKind.u8 0, Value.int IntKind.u8 0, Value.int IntKind.u8 0, Value.int IntKind.u8 0, Value.int IntKind.u8 0, Value.int IntKind.u8 0, Value.int IntKind.u8 0, Value.int IntKind.u8 0, Value.int IntKind.u8 0, Value.int IntKind.u8 0, Value.int IntKind.u8 0, Value.int IntKind.u8 0, Value.int IntKind.u8 0, Value.int IntKind.u8 0, Value.int IntKind.u8 0, Value.int IntKind.u8 0, Value.int IntKind.u8 0] = pcells ⟨0, 0, 513, 0, List.replicate 32 0⟩ := rfl
theorem pt513_ok : (⟨0, 0, 513, 0, List.replicate 32 0⟩ : Pt).Ok := ⟨by decide, by decide, by decide, by decide, by decide, by decide, by decide, by decide, rfl, fun x hx => by rw [(List.mem_replicate.1 hx).2]; omega⟩

set_option maxRecDepth 100000 in
set_option maxHeartbeats 8000000 in
theorem ptells_small (A : Option Addr) (n c : Nat) (xs : List Int) (p : Pt) (w : World) (hp : p.Ok) (hn : n = xs.length) (hs : Src .u8 w A xs) (hx : IsBytes xs) (hl : n ≤ 300) (hnc : n ≤ c) (hc : c ≤ 9223372036854775807) :
    Calls Try.prog 3 #[.agg (pcells p), .slice A n c] w fun e w' => e = .returned (.bool true) ∧ Below w.heap.size w w' := by
  have hd : decide ((300 : Int) < (n : Int)) = false := by simp; omega
  have hd2 : decide (300 < n) = false := by simp; omega
  have r1 := Row.new w 25 (pcells p)
  have b1 : Below w.heap.size w (w.alloc (.cells (pcells p) 25)) := (Below.refl _ _).alloc (Nat.le_refl _) _
  have HL := Lib.hid hp.shaL
  have HPS := Lib.hid (pt_size hp.shaL)
  have HR1 := Lib.hid (fun w' (hb : Below w.heap.size w w') => read_any A n c xs w' hn (hs.keep hb) hx (by omega) hc)
  have HR2 := Lib.hid (fun w' (hb : Below w.heap.size w w') => refRead_any A n c xs w' hn (hs.keep hb) hx (by omega) hc)
  have HU1 := Lib.hid (fun w' (hb : Below w.heap.size w w') => put_any A n c xs p w' hp hn (hs.keep hb) (by omega))
  have HU2 := Lib.hid (fun w' (hb : Below w.heap.size w w') => refPut_any A n c xs p w' hp hn (hs.keep hb) (by omega))
  have HN1 := Lib.hid (fun w' => none_any p w' hp)
  have HN2 := Lib.hid (fun w' => refNone_any p w' hp)
  have HG1 := Lib.hid (fun w' => right_any p w' hp)
  have HG2 := Lib.hid (fun w' => refRight_any p w' hp)
  have HS1 := Lib.hid (fun w' => sectors_any p w')
  have HS2 := Lib.hid (fun w' => refSectors_any p w')
  have HXO := Lib.hid (readPt_ok xs hx).shaL
  have HXS := Lib.hid (pt_size (readPt_ok xs hx).shaL)
  have HX1 := Lib.hid (pcells_one (readPt xs))
  have HXZ : Hid ((pcells Pt.zero).size = (pcells (readPt xs)).size) := Lib.hid (by rw [pcells_size, pcells_size, (readPt_ok xs hx).shaL]; rfl)
  have HXE : Hid (∀ w', (binOp .eql 25 (.agg (pcells (readPt xs))) (.agg (pcells (readPt xs)))).run Try.prog w' = .ok (.bool true) w') := Lib.hid (fun w' => by rw [eql_pts w' _ _ (readPt_ok xs hx).shaL (readPt_ok xs hx).shaL, Pt.same_self])
  generalize readPt xs = X at *
  generalize readErr xs = E at *
  generalize p.none = v1 at *
  generalize p.right = v2 at *
  generalize secsOf p.len = v3 at *
  generalize xs ++ putOf p = ys at *
  clear hn hs hx hp
  go_enter Try.func3, Try.ntmps3
  go_wp2_with fail
  refine (HR1.out _ b1).mono ?_
  rintro e w1 ⟨rfl, hb1⟩
  have r2 := r1.keep hb1
  have b2 := b1.trans (hb1.mono b1.size)
  have x1 := zero_row w1
  have bz := zero_below w1
  have b3 := b2.trans (bz.mono b2.size)
  have r3 := r2.keep bz
  have lt1 := r2.lt
  clear r1 r2 b1 b2 bz hb1 HR1
  go_wp2_with (refine wpList_store_row rfl 25 (.tmp 5) (.tmp 17) rfl w1.heap.size (pcells X) rfl rfl 25 (pcells Pt.zero) x1 HXS.out HXZ.out HX1.out ?_; have x2 := x1.setRow (pcells X); have r4 := r3.otherRow (b := w1.heap.size) (by omega) (pcells X); have b4 := below_setRow b3 (b := w1.heap.size) (by omega) (pcells X); clear x1 r3 b3)
  refine (HR2.out _ b4).mono ?_
  rintro e w2 ⟨rfl, hb2⟩
  have x3 := x2.keep hb2
  have r5 := r4.keep hb2
  have b5 := b4.trans (hb2.mono b4.size)
  have y1 := zero_row w2
  have bz := zero_below w2
  have b6 := b5.trans (bz.mono b5.size)
  have x4 := x3.keep bz
  have r6 := r5.keep bz
  have lt2 := x3.lt
  have lt3 := r5.lt
  clear x2 x3 r4 r5 b4 b5 hb2 bz HR2
  go_wp2_with (refine wpList_store_row rfl 25 (.tmp 7) (.tmp 22) rfl w2.heap.size (pcells X) rfl rfl 25 (pcells Pt.zero) y1 HXS.out HXZ.out HX1.out ?_; have y2 := y1.setRow (pcells X); have x5 := x4.otherRow (b := w2.heap.size) (by omega) (pcells X); have r7 := r6.otherRow (b := w2.heap.size) (by omega) (pcells X); have b7 := below_setRow b6 (b := w2.heap.size) (by omega) (pcells X); clear y1 x4 r6 b6)
  have y3 := y2.drew
  have x6 := x5.drew
  have r8 := r7.drew
  have b8 := b7.drew
  clear y2 x5 r7 b7
  refine wp_region_segs [([0, 2], 1), ([], 3), ([4, 5, 6, 8], 7), ([], 9), ([10, 11, 12, 13, 15], 14), ([], 16), ([17, 18, 19, 20, 24, 21, 25], 22), ([23], 26), ([27, 28, 29, 30, 31], 32), ([33, 34, 35, 36, 37, 38, 39, 40], 41), ([], 42)] [43, 44, 45] (by kernel_rfl) (by kernel_rfl) (by kernel_rfl) (by kernel_rfl) (fun _ _ d _ _ h => by cases d <;> exact h) ?_
  refine wpSegs_next (by simp [pickOps]; rfl) ?_
  repeat (go_big_quiet_step (fail))
  refine wpQuiet_load_cells rfl 25 (.tmp 2) rfl w.heap.size 0 rfl (pcells p) _ r8.cells r8.lt Try.underlying25 rfl HPS.out ?_
  refine wpQuiet_load_cells rfl 25 (.tmp 2) rfl w.heap.size 0 rfl (pcells p) _ r8.cells r8.lt Try.underlying25 rfl HPS.out ?_
  refine wpQuiet_nil ?_
  refine wpOp_alone rfl rfl (fun K hK => ?_)
  go_simp
  refine (HN1.out _).mono ?_
  rintro e u1 ⟨rfl, hb1⟩
  have x1' := x6.keep hb1
  have y1' := y3.keep hb1
  have r1' := r8.keep hb1
  have b1' := b8.trans (hb1.mono b8.size)
  refine hK _ _ ⟨hb1, ?_⟩
  clear hK K x6 y3 r8 b8
  refine wpSegs_next (by simp [pickOps]; rfl) ?_
  repeat (go_big_quiet_step (fail))
  refine wpQuiet_nil ?_
  refine wpOp_alone rfl rfl (fun K hK => ?_)
  go_simp
  refine (HN2.out _).mono ?_
  rintro e u2 ⟨rfl, hb2⟩
  have x2' := x1'.keep hb2
  have y2' := y1'.keep hb2
  have r2' := r1'.keep hb2
  have b2' := b1'.trans (hb2.mono b1'.size)
  refine hK _ _ ⟨hb2, ?_⟩
  clear hK K x1' y1' r1' b1'
  refine wpSegs_next (by simp [pickOps]; rfl) ?_
  repeat (go_big_quiet_step (fail))
  refine wpQuiet_load_cells rfl 25 (.tmp 2) rfl w.heap.size 0 rfl (pcells p) _ r2'.cells r2'.lt Try.underlying25 rfl HPS.out ?_
  refine wpQuiet_load_cells rfl 25 (.tmp 2) rfl w.heap.size 0 rfl (pcells p) _ r2'.cells r2'.lt Try.underlying25 rfl HPS.out ?_
  refine wpQuiet_nil ?_
  refine wpOp_alone rfl rfl (fun K hK => ?_)
  go_simp
  refine (HG1.out _).mono ?_
  rintro e u3 ⟨rfl, hb3⟩
  have x3' := x2'.keep hb3
  have y3' := y2'.keep hb3
  have r3' := r2'.keep hb3
  have b3' := b2'.trans (hb3.mono b2'.size)
  refine hK _ _ ⟨hb3, ?_⟩
  clear hK K x2' y2' r2' b2'
  refine wpSegs_next (by simp [pickOps]; rfl) ?_
  repeat (go_big_quiet_step (fail))
  refine wpQuiet_nil ?_
  refine wpOp_alone rfl rfl (fun K hK => ?_)
  go_simp
  refine (HG2.out _).mono ?_
  rintro e u4 ⟨rfl, hb4⟩
  have x4' := x3'.keep hb4
  have y4' := y3'.keep hb4
  have r4' := r3'.keep hb4
  have b4' := b3'.trans (hb4.mono b3'.size)
  refine hK _ _ ⟨hb4, ?_⟩
  clear hK K x3' y3' r3' b3'
  refine wpSegs_next (by simp [pickOps]; rfl) ?_
  repeat (go_big_quiet_step (fail))
  refine wpQuiet_load_cells rfl 25 (.tmp 2) rfl w.heap.size 0 rfl (pcells p) _ r4'.cells r4'.lt Try.underlying25 rfl HPS.out ?_
  refine wpQuiet_load_cells rfl 25 (.tmp 2) rfl w.heap.size 0 rfl (pcells p) _ r4'.cells r4'.lt Try.underlying25 rfl HPS.out ?_
  refine wpQuiet_nil ?_
  refine wpOp_alone rfl rfl (fun K hK => ?_)
  go_simp
  refine (HS1.out _).mono ?_
  rintro e u5 ⟨rfl, hb5⟩
  have x5' := x4'.keep hb5
  have y5' := y4'.keep hb5
  have r5' := r4'.keep hb5
  have b5' := b4'.trans (hb5.mono b4'.size)
  refine hK _ _ ⟨hb5, ?_⟩
  clear hK K x4' y4' r4' b4'
  refine wpSegs_next (by simp [pickOps]; rfl) ?_
  repeat (go_big_quiet_step (fail))
  refine wpQuiet_nil ?_
  refine wpOp_alone rfl rfl (fun K hK => ?_)
  go_simp
  refine (HS2.out _).mono ?_
  rintro e u6 ⟨rfl, hb6⟩
  have x6' := x5'.keep hb6
  have y6' := y5'.keep hb6
  have r6' := r5'.keep hb6
  have b6' := b5'.trans (hb6.mono b5'.size)
  refine hK _ _ ⟨hb6, ?_⟩
  clear hK K x5' y5' r5' b5'
  refine wpSegs_next (by simp [pickOps]; rfl) ?_
  repeat (go_big_quiet_step (fail))
  refine wpQuiet_load_cells rfl 25 (.tmp 2) rfl w.heap.size 0 rfl (pcells p) _ r6'.cells r6'.lt Try.underlying25 rfl HPS.out ?_
  refine wpQuiet_load_cells rfl 25 (.tmp 2) rfl w.heap.size 0 rfl (pcells p) _ r6'.cells r6'.lt Try.underlying25 rfl HPS.out ?_
  refine wpQuiet_nil ?_
  refine wpOp_alone rfl rfl (fun K hK => ?_)
  go_simp
  refine (HU1.out _ b6').mono ?_
  rintro e u7 ⟨_, rfl, A7, n7, c7, rfl, hn7, ho7, hb7⟩
  have t7 : ∀ g : Above u7, (convert 26 9 (.slice A7 n7 c7)).run Try.prog g.1 = .ok (.string (strOfNums ys)) g.1 := fun g => run_text g.1 A7 n7 c7 ys hn7 (ho7.src.keep g.2)
  clear hn7 ho7
  have x7' := x6'.keep hb7
  have y7' := y6'.keep hb7
  have r7' := r6'.keep hb7
  have b7' := b6'.trans (hb7.mono b6'.size)
  refine hK _ _ ⟨hb7, ?_⟩
  clear hK K x6' y6' r6' b6'
  refine wpSegs_next (by simp [pickOps]; rfl) ?_
  repeat (go_big_quiet_step (fail))
  clear t7
  refine wpQuiet_nil ?_
  refine wpOp_alone rfl rfl (fun K hK => ?_)
  go_simp
  refine (HU2.out _ b7').mono ?_
  rintro e u8 ⟨_, rfl, A8, n8, c8, rfl, hn8, ho8, hb8⟩
  have t8 : ∀ g : Above u8, (convert 26 9 (.slice A8 n8 c8)).run Try.prog g.1 = .ok (.string (strOfNums ys)) g.1 := fun g => run_text g.1 A8 n8 c8 ys hn8 (ho8.src.keep g.2)
  clear hn8 ho8
  have x8' := x7'.keep hb8
  have y8' := y7'.keep hb8
  have r8' := r7'.keep hb8
  have b8' := b7'.trans (hb8.mono b7'.size)
  refine hK _ _ ⟨hb8, ?_⟩
  clear hK K x7' y7' r7' b7'
  refine wpSegs_next (by simp [pickOps]; rfl) ?_
  repeat (go_big_quiet_step (fail))
  clear t8
  refine wpQuiet_load_cells rfl 25 (.tmp 5) rfl w1.heap.size 0 rfl (pcells X) _ x8'.cells x8'.lt Try.underlying25 rfl HXS.out ?_
  refine wpQuiet_nil ?_
  refine wpOp_alone rfl rfl (fun K hK => ?_)
  refine wp_load_cells 25 (.tmp 7) rfl w2.heap.size 0 rfl (pcells X) _ y8'.cells Try.underlying25 rfl HXS.out ?_
  refine hK _ _ ⟨Ext.refl _, ?_⟩
  clear hK K
  have hxe := HXE.out
  go_simp
  refine wpSegs_next (by simp [pickOps]; rfl) ?_
  repeat (go_big_quiet_step (fail))
  clear hxe
  refine wpQuiet_nil ?_
  refine wpOp_alone rfl rfl (fun K hK => ?_)
  go_simp
  rw [pt513_lit]
  refine hK _ _ ⟨Ext.refl _, ?_⟩
  clear hK K
  refine wpSegs_next (by simp [pickOps]; rfl) ?_
  repeat (go_big_quiet_step (fail))
  refine wpQuiet_nil ?_
  refine wpOp_alone rfl rfl (fun K hK => ?_)
  go_simp
  refine (sectors_any ⟨0, 0, 513, 0, List.replicate 32 0⟩ _).mono ?_
  rintro e u9 ⟨rfl, hb9⟩
  rw [show secsOf (⟨0, 0, 513, 0, List.replicate 32 0⟩ : Pt).len = 2 from secs513]
  have bE := b8'.trans (hb9.mono b8'.size)
  refine hK _ _ ⟨hb9, ?_⟩
  clear hK K
  refine wpSegs_last (by simp [pickOps]; rfl) ?_
  repeat (go_big_quiet_step (fail))
  refine wpQuiet_nil ?_
  go_wp2_with fail
  go_ret
  exact ⟨rfl, bE⟩

set_option maxRecDepth 100000 in
set_option maxHeartbeats 8000000 in
theorem ptells_big (b o n c : Nat) (xs : List Int) (p : Pt) (w : World) (hp : p.Ok) (hn : 300 = xs.length) (hs : Src .u8 w (some ⟨b, o, none⟩) xs) (hx : IsBytes xs) (hl : 300 < n) (hnc : n ≤ c) (hc : c ≤ 9223372036854775807) :
    Calls Try.prog 3 #[.agg (pcells p), .slice (some ⟨b, o, none⟩) n c] w fun e w' => e = .returned (.bool true) ∧ Below w.heap.size w w' := by
  have hd : decide ((300 : Int) < (n : Int)) = true := by simp; omega
  have hd2 : decide (300 < n) = true := by simp; omega
  have hc3 : (300 : Int) ≤ (c : Int) := by omega
  have r1 := Row.new w 25 (pcells p)
  have b1 : Below w.heap.size w (w.alloc (.cells (pcells p) 25)) := (Below.refl _ _).alloc (Nat.le_refl _) _
  have HL := Lib.hid hp.shaL
  have HPS := Lib.hid (pt_size hp.shaL)
  have HR1 := Lib.hid (fun w' (hb : Below w.heap.size w w') => read_any (some ⟨b, o, none⟩) 300 c xs w' hn (hs.keep hb) hx (by omega) hc)
  have HR2 := Lib.hid (fun w' (hb : Below w.heap.size w w') => refRead_any (some ⟨b, o, none⟩) 300 c xs w' hn (hs.keep hb) hx (by omega) hc)
  have HU1 := Lib.hid (fun w' (hb : Below w.heap.size w w') => put_any (some ⟨b, o, none⟩) 300 c xs p w' hp hn (hs.keep hb) (by omega))
  have HU2 := Lib.hid (fun w' (hb : Below w.heap.size w w') => refPut_any (some ⟨b, o, none⟩) 300 c xs p w' hp hn (hs.keep hb) (by omega))
  have HN1 := Lib.hid (fun w' => none_any p w' hp)
  have HN2 := Lib.hid (fun w' => refNone_any p w' hp)
  have HG1 := Lib.hid (fun w' => right_any p w' hp)
  have HG2 := Lib.hid (fun w' => refRight_any p w' hp)
  have HS1 := Lib.hid (fun w' => sectors_any p w')
  have HS2 := Lib.hid (fun w' => refSectors_any p w')
  have HXO := Lib.hid (readPt_ok xs hx).shaL
  have HXS := Lib.hid (pt_size (readPt_ok xs hx).shaL)
  have HX1 := Lib.hid (pcells_one (readPt xs))
  have HXZ : Hid ((pcells Pt.zero).size = (pcells (readPt xs)).size) := Lib.hid (by rw [pcells_size, pcells_size, (readPt_ok xs hx).shaL]; rfl)
  have HXE : Hid (∀ w', (binOp .eql 25 (.agg (pcells (readPt xs))) (.agg (pcells (readPt xs)))).run Try.prog w' = .ok (.bool true) w') := Lib.hid (fun w' => by rw [eql_pts w' _ _ (readPt_ok xs hx).shaL (readPt_ok xs hx).shaL, Pt.same_self])
  generalize readPt xs = X at *
  generalize readErr xs = E at *
  generalize p.none = v1 at *
  generalize p.right = v2 at *
  generalize secsOf p.len = v3 at *
  generalize xs ++ putOf p = ys at *
  clear hn hs hx hp
  go_enter Try.func3, Try.ntmps3
  go_wp2_with fail
  refine (HR1.out _ b1).mono ?_
  rintro e w1 ⟨rfl, hb1⟩
  have r2 := r1.keep hb1
  have b2 := b1.trans (hb1.mono b1.size)
  have x1 := zero_row w1
  have bz := zero_below w1
  have b3 := b2.trans (bz.mono b2.size)
  have r3 := r2.keep bz
  have lt1 := r2.lt
  clear r1 r2 b1 b2 bz hb1 HR1
  go_wp2_with (refine wpList_store_row rfl 25 (.tmp 5) (.tmp 17) rfl w1.heap.size (pcells X) rfl rfl 25 (pcells Pt.zero) x1 HXS.out HXZ.out HX1.out ?_; have x2 := x1.setRow (pcells X); have r4 := r3.otherRow (b := w1.heap.size) (by omega) (pcells X); have b4 := below_setRow b3 (b := w1.heap.size) (by omega) (pcells X); clear x1 r3 b3)
  refine (HR2.out _ b4).mono ?_
  rintro e w2 ⟨rfl, hb2⟩
  have x3 := x2.keep hb2
  have r5 := r4.keep hb2
  have b5 := b4.trans (hb2.mono b4.size)
  have y1 := zero_row w2
  have bz := zero_below w2
  have b6 := b5.trans (bz.mono b5.size)
  have x4 := x3.keep bz
  have r6 := r5.keep bz
  have lt2 := x3.lt
  have lt3 := r5.lt
  clear x2 x3 r4 r5 b4 b5 hb2 bz HR2
  go_wp2_with (refine wpList_store_row rfl 25 (.tmp 7) (.tmp 22) rfl w2.heap.size (pcells X) rfl rfl 25 (pcells Pt.zero) y1 HXS.out HXZ.out HX1.out ?_; have y2 := y1.setRow (pcells X); have x5 := x4.otherRow (b := w2.heap.size) (by omega) (pcells X); have r7 := r6.otherRow (b := w2.heap.size) (by omega) (pcells X); have b7 := below_setRow b6 (b := w2.heap.size) (by omega) (pcells X); clear y1 x4 r6 b6)
  have y3 := y2.drew
  have x6 := x5.drew
  have r8 := r7.drew
  have b8 := b7.drew
  clear y2 x5 r7 b7
  refine wp_region_segs [([0, 2], 1), ([], 3), ([4, 5, 6, 8], 7), ([], 9), ([10, 11, 12, 13, 15], 14), ([], 16), ([17, 18, 19, 20, 24, 21, 25], 22), ([23], 26), ([27, 28, 29, 30, 31], 32), ([33, 34, 35, 36, 37, 38, 39, 40], 41), ([], 42)] [43, 44, 45] (by kernel_rfl) (by kernel_rfl) (by kernel_rfl) (by kernel_rfl) (fun _ _ d _ _ h => by cases d <;> exact h) ?_
  refine wpSegs_next (by simp [pickOps]; rfl) ?_
  repeat (go_big_quiet_step (fail))
  refine wpQuiet_load_cells rfl 25 (.tmp 2) rfl w.heap.size 0 rfl (pcells p) _ r8.cells r8.lt Try.underlying25 rfl HPS.out ?_
  refine wpQuiet_load_cells rfl 25 (.tmp 2) rfl w.heap.size 0 rfl (pcells p) _ r8.cells r8.lt Try.underlying25 rfl HPS.out ?_
  refine wpQuiet_nil ?_
  refine wpOp_alone rfl rfl (fun K hK => ?_)
  go_simp
  refine (HN1.out _).mono ?_
  rintro e u1 ⟨rfl, hb1⟩
  have x1' := x6.keep hb1
  have y1' := y3.keep hb1
  have r1' := r8.keep hb1
  have b1' := b8.trans (hb1.mono b8.size)
  refine hK _ _ ⟨hb1, ?_⟩
  clear hK K x6 y3 r8 b8
  refine wpSegs_next (by simp [pickOps]; rfl) ?_
  repeat (go_big_quiet_step (fail))
  refine wpQuiet_nil ?_
  refine wpOp_alone rfl rfl (fun K hK => ?_)
  go_simp
  refine (HN2.out _).mono ?_
  rintro e u2 ⟨rfl, hb2⟩
  have x2' := x1'.keep hb2
  have y2' := y1'.keep hb2
  have r2' := r1'.keep hb2
  have b2' := b1'.trans (hb2.mono b1'.size)
  refine hK _ _ ⟨hb2, ?_⟩
  clear hK K x1' y1' r1' b1'
  refine wpSegs_next (by simp [pickOps]; rfl) ?_
  repeat (go_big_quiet_step (fail))
  refine wpQuiet_load_cells rfl 25 (.tmp 2) rfl w.heap.size 0 rfl (pcells p) _ r2'.cells r2'.lt Try.underlying25 rfl HPS.out ?_
  refine wpQuiet_load_cells rfl 25 (.tmp 2) rfl w.heap.size 0 rfl (pcells p) _ r2'.cells r2'.lt Try.underlying25 rfl HPS.out ?_
  refine wpQuiet_nil ?_
  refine wpOp_alone rfl rfl (fun K hK => ?_)
  go_simp
  refine (HG1.out _).mono ?_
  rintro e u3 ⟨rfl, hb3⟩
  have x3' := x2'.keep hb3
  have y3' := y2'.keep hb3
  have r3' := r2'.keep hb3
  have b3' := b2'.trans (hb3.mono b2'.size)
  refine hK _ _ ⟨hb3, ?_⟩
  clear hK K x2' y2' r2' b2'
  refine wpSegs_next (by simp [pickOps]; rfl) ?_
  repeat (go_big_quiet_step (fail))
  refine wpQuiet_nil ?_
  refine wpOp_alone rfl rfl (fun K hK => ?_)
  go_simp
  refine (HG2.out _).mono ?_
  rintro e u4 ⟨rfl, hb4⟩
  have x4' := x3'.keep hb4
  have y4' := y3'.keep hb4
  have r4' := r3'.keep hb4
  have b4' := b3'.trans (hb4.mono b3'.size)
  refine hK _ _ ⟨hb4, ?_⟩
  clear hK K x3' y3' r3' b3'
  refine wpSegs_next (by simp [pickOps]; rfl) ?_
  repeat (go_big_quiet_step (fail))
  refine wpQuiet_load_cells rfl 25 (.tmp 2) rfl w.heap.size 0 rfl (pcells p) _ r4'.cells r4'.lt Try.underlying25 rfl HPS.out ?_
  refine wpQuiet_load_cells rfl 25 (.tmp 2) rfl w.heap.size 0 rfl (pcells p) _ r4'.cells r4'.lt Try.underlying25 rfl HPS.out ?_
  refine wpQuiet_nil ?_
  refine wpOp_alone rfl rfl (fun K hK => ?_)
  go_simp
  refine (HS1.out _).mono ?_
  rintro e u5 ⟨rfl, hb5⟩
  have x5' := x4'.keep hb5
  have y5' := y4'.keep hb5
  have r5' := r4'.keep hb5
  have b5' := b4'.trans (hb5.mono b4'.size)
  refine hK _ _ ⟨hb5, ?_⟩
  clear hK K x4' y4' r4' b4'
  refine wpSegs_next (by simp [pickOps]; rfl) ?_
  repeat (go_big_quiet_step (fail))
  refine wpQuiet_nil ?_
  refine wpOp_alone rfl rfl (fun K hK => ?_)
  go_simp
  refine (HS2.out _).mono ?_
  rintro e u6 ⟨rfl, hb6⟩
  have x6' := x5'.keep hb6
  have y6' := y5'.keep hb6
  have r6' := r5'.keep hb6
  have b6' := b5'.trans (hb6.mono b5'.size)
  refine hK _ _ ⟨hb6, ?_⟩
  clear hK K x5' y5' r5' b5'
  refine wpSegs_next (by simp [pickOps]; rfl) ?_
  repeat (go_big_quiet_step (fail))
  refine wpQuiet_load_cells rfl 25 (.tmp 2) rfl w.heap.size 0 rfl (pcells p) _ r6'.cells r6'.lt Try.underlying25 rfl HPS.out ?_
  refine wpQuiet_load_cells rfl 25 (.tmp 2) rfl w.heap.size 0 rfl (pcells p) _ r6'.cells r6'.lt Try.underlying25 rfl HPS.out ?_
  refine wpQuiet_nil ?_
  refine wpOp_alone rfl rfl (fun K hK => ?_)
  go_simp
  refine (HU1.out _ b6').mono ?_
  rintro e u7 ⟨_, rfl, A7, n7, c7, rfl, hn7, ho7, hb7⟩
  have t7 : ∀ g : Above u7, (convert 26 9 (.slice A7 n7 c7)).run Try.prog g.1 = .ok (.string (strOfNums ys)) g.1 := fun g => run_text g.1 A7 n7 c7 ys hn7 (ho7.src.keep g.2)
  clear hn7 ho7
  have x7' := x6'.keep hb7
  have y7' := y6'.keep hb7
  have r7' := r6'.keep hb7
  have b7' := b6'.trans (hb7.mono b6'.size)
  refine hK _ _ ⟨hb7, ?_⟩
  clear hK K x6' y6' r6' b6'
  refine wpSegs_next (by simp [pickOps]; rfl) ?_
  repeat (go_big_quiet_step (fail))
  clear t7
  refine wpQuiet_nil ?_
  refine wpOp_alone rfl rfl (fun K hK => ?_)
  go_simp
  refine (HU2.out _ b7').mono ?_
  rintro e u8 ⟨_, rfl, A8, n8, c8, rfl, hn8, ho8, hb8⟩
  have t8 : ∀ g : Above u8, (convert 26 9 (.slice A8 n8 c8)).run Try.prog g.1 = .ok (.string (strOfNums ys)) g.1 := fun g => run_text g.1 A8 n8 c8 ys hn8 (ho8.src.keep g.2)
  clear hn8 ho8
  have x8' := x7'.keep hb8
  have y8' := y7'.keep hb8
  have r8' := r7'.keep hb8
  have b8' := b7'.trans (hb8.mono b7'.size)
  refine hK _ _ ⟨hb8, ?_⟩
  clear hK K x7' y7' r7' b7'
  refine wpSegs_next (by simp [pickOps]; rfl) ?_
  repeat (go_big_quiet_step (fail))
  clear t8
  refine wpQuiet_load_cells rfl 25 (.tmp 5) rfl w1.heap.size 0 rfl (pcells X) _ x8'.cells x8'.lt Try.underlying25 rfl HXS.out ?_
  refine wpQuiet_nil ?_
  refine wpOp_alone rfl rfl (fun K hK => ?_)
  refine wp_load_cells 25 (.tmp 7) rfl w2.heap.size 0 rfl (pcells X) _ y8'.cells Try.underlying25 rfl HXS.out ?_
  refine hK _ _ ⟨Ext.refl _, ?_⟩
  clear hK K
  have hxe := HXE.out
  go_simp
  refine wpSegs_next (by simp [pickOps]; rfl) ?_
  repeat (go_big_quiet_step (fail))
  clear hxe
  refine wpQuiet_nil ?_
  refine wpOp_alone rfl rfl (fun K hK => ?_)
  go_simp
  rw [pt513_lit]
  refine hK _ _ ⟨Ext.refl _, ?_⟩
  clear hK K
  refine wpSegs_next (by simp [pickOps]; rfl) ?_
  repeat (go_big_quiet_step (fail))
  refine wpQuiet_nil ?_
  refine wpOp_alone rfl rfl (fun K hK => ?_)
  go_simp
  refine (sectors_any ⟨0, 0, 513, 0, List.replicate 32 0⟩ _).mono ?_
  rintro e u9 ⟨rfl, hb9⟩
  rw [show secsOf (⟨0, 0, 513, 0, List.replicate 32 0⟩ : Pt).len = 2 from secs513]
  have bE := b8'.trans (hb9.mono b8'.size)
  refine hK _ _ ⟨hb9, ?_⟩
  clear hK K
  refine wpSegs_last (by simp [pickOps]; rfl) ?_
  repeat (go_big_quiet_step (fail))
  refine wpQuiet_nil ?_
  go_wp2_with fail
  go_ret
  exact ⟨rfl, bE⟩
end Go.Proofs.Ytiddimfkcejfnaa

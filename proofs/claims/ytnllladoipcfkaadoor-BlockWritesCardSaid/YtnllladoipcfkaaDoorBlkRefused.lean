/- Write and Read of blocks, where the place does not fit: nothing that was there is written. No conditions but those that stand in each lemma. -/
import Derived.Test.YtnllladoipcfkaaDoorBlkFits
import Derived.Test.YtnllladoipcfkaaDoorPtrVar
import Derived.Laws.ResultCell
namespace Go.Proofs.YtnllladoipcfkaaDoor
open Go.RowKit Go.Maps

theorem Tryd.resultsBWrite : Tryd.f7.results = #[.cell 8 31, .tmp 9] := by kernel_rfl
set_option maxRecDepth 100000 in
set_option maxHeartbeats 1000000 in
theorem bwrite_refused (d : Value) (at_ birth : Int) (A : Option Addr) (n c : Nat) (v : Int) (w : World) (hv : v ≠ 0)
    (hF : ∀ w', Below w.heap.size w w' → Calls Tryd.prog 17 #[d, .agg (pcells (placeP at_ birth n))] w' fun e w'' => e = .returned (.int .i64 v) ∧ Below w'.heap.size w' w'') :
    Calls Tryd.prog 7 #[d, .int .i64 at_, .int .i64 birth, .slice A n c] w fun e w' => e = .returned (.tuple #[.agg (pcells Pt.zero), .int .i64 v]) ∧ Below w.heap.size w w' := by
  have HZ := Lib.hid built_zero
  have HB := Lib.hid (built_place at_ birth n)
  have HS := Lib.hid (placeP_sha at_ birth n)
  have hz0 : (v == 0) = false := by simpa using hv
  have HF := Lib.hid hF
  have HS2 := Lib.hid (pt_size (p := Pt.zero) rfl)
  clear hF
  generalize placeP at_ birth n = q at *
  go_enter Tryd.func7, Tryd.ntmps7
  go_wp2_with (first
    | (refine wpList_allocP 8 rfl rfl rfl ?_; intro w1 r1 hb1 hz1)
    | (refine wpList_build_eq rfl 31 #[(0, .tmp 14), (1, .tmp 15), (2, .tmp 17)] rfl [(0, .int .i64 at_), (1, .int .i64 birth), (2, .int .i64 (n : Int))] (by simp; exact ⟨rfl, rfl, rfl⟩) (pcells q) HB.out ?_)
    | (refine wpList_allocP 10 rfl rfl rfl ?_; intro w2 r2 hb2 hz2; have r1' := r1.keep hb2; have b2 := hb1.trans (hb2.mono hb1.size); have lt1 := r1.lt; clear r1 hb1 hz1 hb2 hz2)
    | (refine wpList_storeP rfl (.tmp 10) (.tmp 18) rfl w1.heap.size rfl q rfl HS.out Pt.zero rfl r2 ?_; intro w3 r3 o3; have r1'' := o3.row r1' (by omega); have b3 := b2.trans (o3.below.mono (Nat.le_of_lt lt1)); clear r1' r2 b2 o3)
    | (refine wpList_loadP (.tmp 10) rfl rfl w1.heap.size rfl q HS.out r3 ?_))
  refine (HF.out _ b3).mono ?_
  rintro e w4 ⟨rfl, hb4⟩
  have r4 := r1''.keep hb4
  have b4 := b3.trans (hb4.mono b3.size)
  clear r1'' r3 b3 hb4
  go_wp2_with (first
    | (refine wpList_build_eq rfl 31 #[] rfl [] (by simp) (pcells Pt.zero) HZ.out ?_)
    | (refine wpList_storeP rfl (.tmp 8) (.tmp 24) rfl w.heap.size rfl Pt.zero rfl rfl Pt.zero rfl r4 ?_; intro w5 r5 o5; have b5 := b4.trans o5.below; clear r4 b4 o5))
  refine bodyPost_ret (v := .tuple #[.agg (pcells Pt.zero), .int .i64 v]) ?_ rfl ?_
  · exact results_cell_tmp_row Tryd.resultsBWrite _ _ w.heap.size 31 (pcells Pt.zero) (0, 0) _ rfl r5 Tryd.underlying31 rfl HS2.out
  · exact ⟨rfl, b5⟩
set_option maxRecDepth 100000 in
set_option maxHeartbeats 1000000 in
theorem bread_refused (d : Value) (p : Pt) (v : Int) (w : World) (hv : v ≠ 0) (hp : p.sha.length = 32)
    (hF : ∀ w', Below w.heap.size w w' → Calls Tryd.prog 17 #[d, .agg (pcells p)] w' fun e w'' => e = .returned (.int .i64 v) ∧ Below w'.heap.size w' w'') :
    Calls Tryd.prog 11 #[d, .agg (pcells p)] w fun e w' => e = .returned (.tuple #[.slice none 0 0, .int .i64 v]) ∧ Below w.heap.size w w' := by
  have r1 := Row.new w 31 (pcells p)
  have b1 : Below w.heap.size w (w.alloc (.cells (pcells p) 31)) := (Below.refl _ _).alloc (Nat.le_refl _) _
  have HS := Lib.hid hp
  have hz0 : (v == 0) = false := by simpa using hv
  have HF := Lib.hid (hF _ b1)
  clear hF hp
  go_enter Tryd.func11, Tryd.ntmps11
  go_wp2_with (refine wpList_loadP (.tmp 3) rfl rfl w.heap.size rfl p HS.out r1 ?_)
  refine HF.out.mono ?_
  rintro e w4 ⟨rfl, hb4⟩
  have b4 := b1.trans (hb4.mono b1.size)
  clear r1 b1 hb4 HF
  go_wp2_with fail
  go_ret2
  exact ⟨rfl, b4⟩
theorem bwrite_none (d : Value) (at_ birth : Int) (A : Option Addr) (n c : Nat) (w : World) (h : NoDisk w d) :
    Calls Tryd.prog 7 #[d, .int .i64 at_, .int .i64 birth, .slice A n c] w fun e w' => e = .returned (.tuple #[.agg (pcells Pt.zero), .int .i64 1]) ∧ Below w.heap.size w w' :=
  bwrite_refused d at_ birth A n c 1 w (by decide) (fun w' hb => fits_none w' d _ (h.keep hb))
theorem bread_none (d : Value) (p : Pt) (w : World) (h : NoDisk w d) (hp : p.sha.length = 32) :
    Calls Tryd.prog 11 #[d, .agg (pcells p)] w fun e w' => e = .returned (.tuple #[.slice none 0 0, .int .i64 1]) ∧ Below w.heap.size w w' :=
  bread_refused d p 1 w (by decide) hp (fun w' hb => fits_none w' d _ (h.keep hb))
end Go.Proofs.YtnllladoipcfkaaDoor

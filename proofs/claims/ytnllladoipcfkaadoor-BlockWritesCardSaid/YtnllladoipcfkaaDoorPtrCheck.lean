/- Check: for any pointer and any bytes (at most 1000000): whether they are its own; nothing that was there is written. -/
import Derived.Test.YtnllladoipcfkaaDoorPtrOf
import Derived.Test.YtnllladoipcfkaaDoorPtrRight
namespace Go.Proofs.YtnllladoipcfkaaDoor
open Go.RowKit

/-- What Check tells. -/
def checkP (p : Pt) (xs : List Int) : Int := if p.right = true then (if Pt.same (ofP p.place p.birth xs) p = true then 0 else 12) else 2
theorem check_len {p : Pt} {xs : List Int} (h : p.len ≠ (xs.length : Int)) : Pt.same (ofP p.place p.birth xs) p = false := by
  cases hs : Pt.same (ofP p.place p.birth xs) p with
  | false => rfl
  | true => exact absurd (congrArg Pt.len ((Pt.same_iff _ _).1 hs)).symm h
set_option maxRecDepth 100000 in
set_option maxHeartbeats 2000000 in
theorem check_any (p : Pt) (A : Option Addr) (n c : Nat) (xs : List Int) (w : World) (hp : p.Ok) (ht : Tabs w) (hn : n = xs.length) (hs : Src .u8 w A xs) (hx : IsBytes xs) (hl : n ≤ 1000000) (hnc : n ≤ c) (hc : c ≤ 9223372036854775807) :
    Calls Tryd.prog 24 #[.agg (pcells p), .slice A n c] w fun e w' => e = .returned (.int .i64 (checkP p xs)) ∧ Below w.heap.size w w' := by
  have r1 := Row.new w 31 (pcells p)
  have b1 : Below w.heap.size w (w.alloc (.cells (pcells p) 31)) := (Below.refl _ _).alloc (Nat.le_refl _) _
  have HPS := Lib.hid (pt_size hp.shaL)
  have HR := Lib.hid (fun w' => right_any p w' hp)
  have HO := Lib.hid (fun w' (hb : Below w.heap.size w w') => of_any p.place p.birth A n c xs w' (ht.keep hb) hn (hs.keep hb) hx hl hnc hc)
  have HN := Lib.hid (show p.len ≠ (n : Int) → Pt.same (ofP p.place p.birth xs) p = false by rw [hn]; exact check_len)
  have HQ := Lib.hid (fun w' => neq_pts w' (ofP p.place p.birth xs) p (shaS_length xs) hp.shaL)
  obtain ⟨R, hR⟩ : ∃ R, checkP p xs = R := ⟨_, rfl⟩
  have HD := Lib.hid (show R = if p.right = true then (if Pt.same (ofP p.place p.birth xs) p = true then 0 else 12) else 2 from hR.symm)
  rw [hR]
  clear hR hp ht hn hs hx hnc hc
  generalize Pt.same (ofP p.place p.birth xs) p = v at *
  generalize pcells (ofP p.place p.birth xs) = ps at *
  go_enter Tryd.func24, Tryd.ntmps24
  go_wp2_with (refine wpList_load_cells rfl 31 (.tmp 2) rfl w.heap.size 0 rfl (pcells p) _ r1.cells Tryd.underlying31 rfl HPS.out ?_)
  refine (HR.out _).mono ?_
  rintro e w1 ⟨rfl, hb1⟩
  have r2 := r1.keep hb1
  have b2 := b1.trans (hb1.mono b1.size)
  clear r1 b1 hb1 HR
  cases hr : p.right with
  | false =>
    have HE := Lib.hid (show R = 2 by rw [HD.out, hr]; rfl)
    clear hr
    go_wp2_with fail
    go_ret
    exact ⟨by rw [HE.out]; rfl, b2⟩
  | true =>
    have HE := Lib.hid (show R = if v = true then 0 else 12 by rw [HD.out, hr]; rfl)
    clear hr
    go_wp2_with fail
    have r3 := r2.drew
    have b3 := b2.drew
    clear r2 b2
    have c2 : ∀ x : Above w1.drew, x.1.cell? ⟨w.heap.size, 2, none⟩ = some (.int .i64 p.len) := r3.above (pcells_2 p)
    refine wp_region_segs [([0, 2, 3], 1), ([4, 5, 6, 7, 8, 9, 10, 12], 11)] [13, 14] (by kernel_rfl) (by kernel_rfl) (by kernel_rfl) (by kernel_rfl) (fun _ _ d _ _ h => by cases d <;> exact h) ?_
    refine wpSegs_next (by simp [pickOps]; rfl) ?_
    repeat (go_big_quiet_step (fail))
    refine wpQuiet_nil ?_
    refine wpOp_alone rfl rfl (fun K hK => ?_)
    go_simp
    refine hK _ _ ⟨Ext.refl _, ?_⟩
    clear hK K
    clear c2
    by_cases hne : (n : Int) = p.len
    · have t1 : ((n : Int) != p.len) = false := by simpa using hne
      have HNE := Lib.hid hne
      clear hne
      have c0 : ∀ x : Above w1.drew, x.1.cell? ⟨w.heap.size, 0, none⟩ = some (.int .i64 p.place) := r3.above (pcells_0 p)
      have c1 : ∀ x : Above w1.drew, x.1.cell? ⟨w.heap.size, 1, none⟩ = some (.int .i64 p.birth) := r3.above (pcells_1 p)
      refine wpSegs_next (by simp [pickOps]; rfl) ?_
      repeat (go_big_quiet_step (fail))
      refine wpQuiet_load_cells rfl 31 (.tmp 2) rfl w.heap.size 0 rfl (pcells p) _ r3.cells r3.lt Tryd.underlying31 rfl HPS.out ?_
      refine wpQuiet_nil ?_
      refine wpOp_alone rfl rfl (fun K hK => ?_)
      go_simp
      refine (HO.out _ b3).mono ?_
      rintro e w2 ⟨rfl, hb2⟩
      have b4 := b3.trans (hb2.mono b3.size)
      refine hK _ _ ⟨hb2, ?_⟩
      clear hK K hb2 b3 c0 c1 r3 t1
      have hq := HQ.out
      refine wpSegs_last (by simp [pickOps]; rfl) ?_
      repeat (go_big_quiet_step (fail))
      refine wpQuiet_nil ?_
      clear hq
      cases v with
      | true =>
        have HE2 := Lib.hid (show R = 0 by rw [HE.out]; rfl)
        go_wp2_with fail
        go_ret
        exact ⟨by rw [HE2.out]; rfl, b4⟩
      | false =>
        have HE2 := Lib.hid (show R = 12 by rw [HE.out]; rfl)
        go_wp2_with fail
        go_ret
        exact ⟨by rw [HE2.out]; rfl, b4⟩
    · have t1 : ((n : Int) != p.len) = true := by simpa using hne
      have HE2 := Lib.hid (show R = 12 by rw [HE.out, HN.out (fun h => hne h.symm)]; rfl)
      clear hne
      refine wpSegs_next (by simp [pickOps]; rfl) ?_
      repeat (go_big_quiet_step (fail))
      refine wpQuiet_nil ?_
      refine wpOp_skip rfl rfl ⟨Ext.refl _, ?_⟩
      go_simp
      refine wpSegs_last (by simp [pickOps]; rfl) ?_
      repeat (go_big_quiet_step (fail))
      refine wpQuiet_nil ?_
      go_wp2_with fail
      go_ret
      exact ⟨by rw [HE2.out]; rfl, b3⟩
end Go.Proofs.YtnllladoipcfkaaDoor

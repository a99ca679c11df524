/- Len on a disk; fits: on a disk, or without one; a piece of a block's bytes. No conditions but those that stand in each lemma. -/
import Derived.Test.YtnllladoipcfkaaDoorDiskRead
import Derived.Test.YtnllladoipcfkaaDoorPtrRight
import Derived.IntWalk
namespace Go.Proofs.YtnllladoipcfkaaDoor
open Go.RowKit Go.Maps

theorem disk_len {w : World} {base p B M n c k : Nat} {ls : List (List Int)} {D : DataW Unit} {f : Bool} {l : Int} (h : Disk w base p B M n c k ls D f l) :
    Calls Tryd.prog 31 #[.pointer (some ⟨p, 0, none⟩)] w fun e w' => e = .returned (.int .i64 n) ∧ w' = w := by
  have c0 := h.c0
  go_enter Tryd.func31, Tryd.ntmps31
  go_wp2_with fail
  refine (disk_some h).mono ?_
  rintro e w1 ⟨rfl, rfl⟩
  go_wp2_with fail
  go_ret
  exact ⟨rfl, rfl⟩

theorem fits_none (w : World) (d : Value) (p : Pt) (h : NoDisk w d) :
    Calls Tryd.prog 17 #[d, .agg (pcells p)] w fun e w' => e = .returned (.int .i64 1) ∧ Below w.heap.size w w' := by
  have b1 : Below w.heap.size w (w.alloc (.cells (pcells p) 31)) := (Below.refl _ _).alloc (Nat.le_refl _) _
  have h1 := h.keep b1
  generalize pcells p = ps at *
  go_enter Tryd.func17, Tryd.ntmps17
  go_wp2_with fail
  refine (none_len _ _ h1).mono ?_
  rintro e w1 ⟨rfl, hb1⟩
  have b2 := b1.trans (hb1.mono b1.size)
  clear b1 hb1 h1
  go_wp2_with fail
  go_ret
  exact ⟨rfl, b2⟩

/-- What fits tells of a place on a disk of n sectors. -/
def fitsI (p : Pt) (n : Nat) : Int := if p.right = true ∧ p.place + secsOf p.len ≤ (n : Int) then 0 else 2
theorem right_place {p : Pt} (h : p.right = true) : 2 ≤ p.place ∧ p.place + secsOf p.len ≤ 8192 := by
  unfold Pt.right at h
  have := of_decide_eq_true h
  exact ⟨this.2.2.2.2.1, this.2.2.2.2.2⟩
set_option maxRecDepth 100000 in
set_option maxHeartbeats 2000000 in
theorem fits_any {w : World} {base q B M n c k : Nat} {ls : List (List Int)} {D : DataW Unit} {f : Bool} {l : Int} (h : Disk w base q B M n c k ls D f l) (p : Pt) (hp : p.Ok) :
    Calls Tryd.prog 17 #[.pointer (some ⟨q, 0, none⟩), .agg (pcells p)] w fun e w' => e = .returned (.int .i64 (fitsI p n)) ∧ Below w.heap.size w w' := by
  have r1 := Row.new w 31 (pcells p)
  have b1 : Below w.heap.size w (w.alloc (.cells (pcells p) 31)) := (Below.refl _ _).alloc (Nat.le_refl _) _
  have h1 := h.keep b1
  have n0 : ((n : Int) == 0) = false := by have := h.pos; simp; omega
  have n1 : ¬ (n : Int) = 0 := by have := h.pos; omega
  have n2 : ¬ n = 0 := by have := h.pos; omega
  have HPS := Lib.hid (pt_size hp.shaL)
  have HR := Lib.hid (fun w' => right_any p w' hp)
  have HS := Lib.hid (fun w' => sectors_any p w')
  obtain ⟨R, hR⟩ : ∃ R, fitsI p n = R := ⟨_, rfl⟩
  have HD := Lib.hid (show R = if p.right = true ∧ p.place + secsOf p.len ≤ (n : Int) then 0 else 2 from hR.symm)
  have HRP := Lib.hid (@right_place p)
  have HSB := Lib.hid (secs_bounds p.len)
  rw [hR]
  clear hR hp h
  go_enter Tryd.func17, Tryd.ntmps17
  go_wp2_with fail
  refine (disk_len h1).mono ?_
  rintro e w1 ⟨rfl, hw⟩
  rw [← hw] at r1 b1
  clear hw h1
  go_wp2_with fail
  have r3 := r1.drew
  have b3 := b1.drew
  clear r1 b1
  refine wp_region_segs [([0], 1), ([2, 3, 4, 5, 9, 6], 7)] [8, 10, 11, 12] (by kernel_rfl) (by kernel_rfl) (by kernel_rfl) (by kernel_rfl) (fun _ _ d _ _ h => by cases d <;> exact h) ?_
  refine wpSegs_next (by simp [pickOps]; rfl) ?_
  refine wpQuiet_load_cells rfl 31 (.tmp 3) rfl w.heap.size 0 rfl (pcells p) _ r3.cells r3.lt Tryd.underlying31 rfl HPS.out ?_
  refine wpQuiet_nil ?_
  refine wpOp_alone rfl rfl (fun K hK => ?_)
  go_simp
  refine (HR.out _).mono ?_
  rintro e w2 ⟨rfl, hb2⟩
  have r4 := r3.keep hb2
  have b4 := b3.trans (hb2.mono b3.size)
  refine hK _ _ ⟨hb2, ?_⟩
  clear hK K hb2 b3 r3 HR
  cases hr : p.right with
  | false =>
    have HE := Lib.hid (show R = 2 by rw [HD.out, hr]; rfl)
    clear hr
    refine wpSegs_next (by simp [pickOps]; rfl) ?_
    repeat (go_big_quiet_step (fail))
    refine wpQuiet_nil ?_
    refine wpOp_skip rfl rfl ⟨Ext.refl _, ?_⟩
    go_simp
    refine wpSegs_last (by simp [pickOps]; rfl) ?_
    repeat (go_big_quiet_step (fail))
    refine wpQuiet_nil ?_
    go_wp2_with fail
    go_ret
    exact ⟨by rw [HE.out]; rfl, b4⟩
  | true =>
    obtain ⟨p1, p2⟩ := HRP.out hr
    obtain ⟨s1, s2⟩ := HSB.out
    have c0 : ∀ x : Above w2, x.1.cell? ⟨w.heap.size, 0, none⟩ = some (.int .i64 p.place) := r4.above (pcells_0 p)
    obtain ⟨pl, hpl⟩ : ∃ pl, p.place = pl := ⟨_, rfl⟩
    obtain ⟨sc, hsc⟩ : ∃ sc, secsOf p.len = sc := ⟨_, rfl⟩
    have HE := Lib.hid (show R = if pl + sc ≤ (n : Int) then 0 else 2 by rw [HD.out, hr, hpl, hsc]; simp)
    have HSC := Lib.hid hsc
    rw [hpl] at c0 p1 p2
    rw [hsc] at p2 s1 s2
    have hadd : IntKind.i64.wrap (pl + sc) = pl + sc := IntWalk.i64_in _ (by omega)
    clear hr hpl hsc HRP
    refine wpSegs_next (by simp [pickOps]; rfl) ?_
    repeat (go_big_quiet_step (fail))
    refine wpQuiet_load_cells rfl 31 (.tmp 3) rfl w.heap.size 0 rfl (pcells p) _ r4.cells r4.lt Tryd.underlying31 rfl HPS.out ?_
    refine wpQuiet_nil ?_
    refine wpOp_alone rfl rfl (fun K hK => ?_)
    go_simp
    refine (HS.out _).mono ?_
    rintro e w5 ⟨rfl, hb5⟩
    rw [HSC.out]
    have b5 := b4.trans (hb5.mono b4.size)
    refine hK _ _ ⟨hb5, ?_⟩
    clear hK K hb5 b4 r4 c0
    by_cases hf : pl + sc ≤ (n : Int)
    · have HF := Lib.hid (show R = 0 by rw [HE.out, if_pos hf])
      have t1 : decide ((n : Int) < pl + sc) = false := by simp; omega
      clear hf
      refine wpSegs_last (by simp [pickOps]; rfl) ?_
      repeat (go_big_quiet_step (fail))
      refine wpQuiet_nil ?_
      go_wp2_with fail
      go_ret
      exact ⟨by rw [HF.out]; rfl, b5⟩
    · have HF := Lib.hid (show R = 2 by rw [HE.out, if_neg hf])
      have t1 : decide ((n : Int) < pl + sc) = true := by simp; omega
      clear hf
      refine wpSegs_last (by simp [pickOps]; rfl) ?_
      repeat (go_big_quiet_step (fail))
      refine wpQuiet_nil ?_
      go_wp2_with fail
      go_ret
      exact ⟨by rw [HF.out]; rfl, b5⟩

/-- How many bytes a piece has. -/
def pieceN (n i : Nat) : Nat := min (i * 512 + 512) n - i * 512
set_option maxRecDepth 100000 in
theorem piece_any (b o n c i : Nat) (w : World) (hi : i * 512 < n) (hn : n ≤ 1000000) (hnc : n ≤ c) (hc : c ≤ 9223372036854775807) :
    Calls Tryd.prog 20 #[.slice (some ⟨b, o, none⟩) n c, .int .i64 i] w fun e w' => e = .returned (.slice (some ⟨b, o + i * 512, none⟩) (pieceN n i) (pieceN n i)) ∧ w' = w := by
  obtain ⟨t, ht⟩ : ∃ t, min (i * 512 + 512) n = t := ⟨_, rfl⟩
  have HT := Lib.hid (show pieceN n i = t - i * 512 by unfold pieceN; rw [ht])
  rw [HT.out]
  have g1 : IntKind.i64.wrap ((i : Int) * 512) = ((i * 512 : Nat) : Int) := by rw [IntWalk.i64_in _ (by omega)]; omega
  have g2 : (i : Int) * 512 = ((i * 512 : Nat) : Int) := by omega
  have g4 : i * 512 < t := by omega
  have g5 : t ≤ n := by omega
  generalize i * 512 = fr at *
  by_cases hm : fr + 512 ≤ n
  · have g6 : (fr : Int) + 512 = (t : Int) := by omega
    have g3 : min (t : Int) (n : Int) = (t : Int) := by omega
    have g7 : t ≤ c := by omega
    have g8 : (t : Int) ≤ (n : Int) := by omega
    clear HT ht hm hi hn
    go_enter Tryd.func20, Tryd.ntmps20
    go_wp2_with fail
    go_ret
    exact ⟨rfl, rfl⟩
  · obtain rfl : t = n := by omega
    have g3 : min ((fr : Int) + 512) (t : Int) = (t : Int) := by omega
    clear HT ht
    go_enter Tryd.func20, Tryd.ntmps20
    go_wp2_with fail
    go_ret
    exact ⟨rfl, rfl⟩
end Go.Proofs.YtnllladoipcfkaaDoor

/- Are spans valid: the document's way (any list of at most 100000). No conditions but those that stand in each lemma. -/
import Derived.Test.YteofmhdbmngfcaaSpRefRight
import Derived.Test.YteofmhdbmngfcaaSpValid
import Derived.IntWalk
namespace Go.Proofs.Yteofmhdbmngfcaa
open Go.RowKit

theorem sp_cells2 {w : World} {b o : Nat} {x y : Int} (h0 : w.cell? ⟨b, o, none⟩ = some (.int .i64 x)) (h1 : w.cell? ⟨b, o + 1, none⟩ = some (.int .i64 y)) : Cells w b o #[.int .i64 x, .int .i64 y] := fun j v hv => by
  match j, hv with
  | 0, hv => obtain rfl : Value.int .i64 x = v := by simpa using hv
             exact h0
  | 1, hv => obtain rfl : Value.int .i64 y = v := by simpa using hv
             exact h1
  | j + 2, hv => simp at hv
theorem above_cell {w : World} {p : Addr} {v : Value} (hlt : p.block < w.heap.size) (h : w.cell? p = some v) : ∀ x : Above w, x.1.cell? p = some v := fun x => (x.2.cell hlt).trans h
theorem Try.sizeRS : (Try.prog.info? 27).map (·.size) = some 2 := by kernel_rfl
theorem Try.structRS : Try.prog.underlying 27 = some (.struct (Try.prog.fieldsOf 27)) := by kernel_rfl
theorem okAt_head (l : List Sp) (x y : Int) (hx : l.getD 0 spZ = (x, y)) : Spans.okAt l 0 = Spans.rightB (x, y) := by
  unfold Spans.okAt
  rw [show l.getD 0 Spans.z = (x, y) from hx]
  simp
theorem okAt_tail (l : List Sp) (j : Nat) (x y a : Int) (hx : l.getD (j + 1) spZ = (x, y)) (ha : (l.getD j spZ).2 = a) : Spans.okAt l (j + 1) = (Spans.rightB (x, y) && !decide (x ≤ a)) := by
  unfold Spans.okAt
  rw [show l.getD (j + 1) Spans.z = (x, y) from hx]
  simp only [Nat.add_sub_cancel]
  rw [show (l.getD j Spans.z).2 = a from ha, Bool.eq_iff_iff]
  simp
/-- At a round's head. -/
def RValidAt (w : World) (l : List Sp) (i : Value) (wr : World) : Prop :=
  ∃ k : Nat, k ≤ l.length ∧ i = .int .i64 (k : Int) ∧ (∀ j, j < k → Spans.okAt l j = true) ∧ Below w.heap.size w wr

set_option maxRecDepth 100000 in
set_option maxHeartbeats 1000000 in
theorem rvalid_any (A : Option Addr) (n c : Nat) (l : List Sp) (w : World) (hn : n = l.length) (hs : SpSrc w A l) (hl : n ≤ 100000) :
    Calls Try.prog 17 #[.slice A n c] w fun e w' => e = .returned (.bool (Spans.validB l)) ∧ Below w.heap.size w w' := by
  have Hn := Lib.hid hn
  have Hs := Lib.hid hs
  clear hn hs
  go_enter Try.func17, Try.ntmps17
  go_wp2_with fail
  go_loopw [3] (fun i wr => RValidAt w l i wr) (fun i _ => n - (intOf i).toNat)
  case atStart => exact ⟨0, Nat.zero_le _, rfl, fun j hj => absurd hj (by omega), Below.refl _ _⟩
  case round =>
    obtain ⟨k, hk, rfl, hok, hb⟩ := hrel
    have Hok := Lib.hid hok
    clear hok
    by_cases hlt : k < l.length
    · obtain ⟨b, o, rfl, hbl, hcell⟩ := Hs.out (by omega)
      have hszr := hb.size
      have hbr : b < wr.drew.heap.size := by show b < wr.heap.size; omega
      have q0 : wr.cell? ⟨b, o + k * 2, none⟩ = some (.int .i64 (l.getD k spZ).1) := (hb.cell (p := ⟨b, o + k * 2, none⟩) hbl).trans (hcell k hlt).1
      have q1 : wr.cell? ⟨b, o + k * 2 + 1, none⟩ = some (.int .i64 (l.getD k spZ).2) := (hb.cell (p := ⟨b, o + k * 2 + 1, none⟩) hbl).trans (hcell k hlt).2
      have hkn : k < n := by have := Hn.out; omega
      have hki : (k : Int) < (n : Int) := by omega
      have HCELL := Lib.hid hcell
      clear hcell
      obtain ⟨x, hx⟩ : ∃ x, (l.getD k spZ).1 = x := ⟨_, rfl⟩
      obtain ⟨y, hy⟩ : ∃ y, (l.getD k spZ).2 = y := ⟨_, rfl⟩
      have HXY := Lib.hid (show l.getD k spZ = (x, y) from Prod.ext hx hy)
      rw [hx] at q0
      rw [hy] at q1
      have HC := Lib.hid (sp_cells2 (w := wr.drew) q0 q1)
      have HR : ∀ w1, Calls Try.prog 28 #[.agg #[.int .i64 x, .int .i64 y]] w1 fun e w' => e = .returned (.bool (Spans.rightB (x, y))) ∧ Below w1.heap.size w1 w' := rright_any x y
      obtain ⟨t, ht⟩ : ∃ t, Spans.rightB (x, y) = t := ⟨_, rfl⟩
      rw [ht] at HR
      have HT := Lib.hid ht
      have HR2 := Lib.hid HR
      clear HR hx hy ht q0 q1
      have hbd : Below wr.heap.size wr wr.drew := (Below.refl _ _).drew
      rcases Nat.eq_zero_or_pos k with hk0 | hkp
      · have HF := Lib.hid (show Spans.okAt l k = t by subst hk0; rw [okAt_head l x y HXY.out, HT.out])
        have hk0' : decide ((0 : Int) < (k : Int)) = false := by rw [hk0]; rfl
        have hk1' : decide (0 < k) = false := by rw [hk0]; rfl
        have HK0 := Lib.hid hk0
        clear hk0
        cases t
        · go_wp2_with fail
          refine wp_region_segs [([0, 1, 2, 3], 4)] [5, 6, 7, 8, 9, 10, 11, 12, 13, 14, 15, 16, 17, 18, 19, 20, 21, 22, 23] (by kernel_rfl) (by kernel_rfl) (by kernel_rfl) (by kernel_rfl) (fun _ _ d _ _ h => by cases d <;> exact h) ?_
          refine wpSegs_next (by simp [pickOps]; rfl) ?_
          repeat (go_big_quiet_step (fail))
          refine wpQuiet_load_cells rfl 27 (.tmp 12) rfl b (o + k * 2) rfl #[.int .i64 x, .int .i64 y] _ HC.out hbr Try.structRS rfl Try.sizeRS ?_
          refine wpQuiet_nil ?_
          refine wpOp_alone rfl rfl (fun K hK => ?_)
          go_simp
          refine (HR2.out _).mono ?_
          rintro e w2 ⟨rfl, hb1⟩
          have hb2 := hb.trans (((Below.refl w.heap.size wr).drew).trans (hb1.mono hszr))
          refine hK _ _ ⟨hb1, ?_⟩
          clear hK K HR2 HC
          refine wpSegs_last (by simp [pickOps]; rfl) ?_
          repeat (go_big_quiet_step (fail))
          refine wpQuiet_nil ?_
          go_wp2_with fail
          go_ret
          exact ⟨ret_bool (validB_no hlt HF.out).symm, hb2⟩
        · go_wp2_with fail
          refine wp_region_segs [([0, 1, 2, 3], 4)] [5, 6, 7, 8, 9, 10, 11, 12, 13, 14, 15, 16, 17, 18, 19, 20, 21, 22, 23] (by kernel_rfl) (by kernel_rfl) (by kernel_rfl) (by kernel_rfl) (fun _ _ d _ _ h => by cases d <;> exact h) ?_
          refine wpSegs_next (by simp [pickOps]; rfl) ?_
          repeat (go_big_quiet_step (fail))
          refine wpQuiet_load_cells rfl 27 (.tmp 12) rfl b (o + k * 2) rfl #[.int .i64 x, .int .i64 y] _ HC.out hbr Try.structRS rfl Try.sizeRS ?_
          refine wpQuiet_nil ?_
          refine wpOp_alone rfl rfl (fun K hK => ?_)
          go_simp
          refine (HR2.out _).mono ?_
          rintro e w2 ⟨rfl, hb1⟩
          have hb2 := hb.trans (((Below.refl w.heap.size wr).drew).trans (hb1.mono hszr))
          refine hK _ _ ⟨hb1, ?_⟩
          clear hK K HR2 HC
          refine wpSegs_last (by simp [pickOps]; rfl) ?_
          repeat (go_big_quiet_step (fail))
          refine wpQuiet_nil ?_
          go_wp2_with fail
          go_roundw
          case rel => exact ⟨k + 1, by omega, by go_num, fun j hj => by
            rcases Nat.lt_or_ge j k with h | h
            · exact Hok.out j h
            · obtain rfl : j = k := by omega
              exact HF.out, hb2⟩
          case measure => simp [intOf]; omega
      · obtain ⟨j, hj⟩ : ∃ j : Nat, k = j + 1 := ⟨k - 1, by omega⟩
        obtain ⟨a, ha⟩ : ∃ a, (l.getD j spZ).2 = a := ⟨_, rfl⟩
        have HF := Lib.hid (show Spans.okAt l k = (t && !decide (x ≤ a)) by have h := HXY.out; rw [hj] at h ⊢; rw [okAt_tail l j x y a h ha, HT.out])
        have hkd : decide ((0 : Int) < (k : Int)) = true := by simpa using hkp
        have p1 : wr.cell? ⟨b, o + j * 2 + 1, none⟩ = some (.int .i64 a) := by rw [← ha]; exact (hb.cell (p := ⟨b, o + j * 2 + 1, none⟩) hbl).trans (HCELL.out j (by omega)).2
        have p0 : wr.cell? ⟨b, o + k * 2, none⟩ = some (.int .i64 x) := HC.out 0 _ rfl
        have P0 := Lib.hid p0
        have P1 := Lib.hid p1
        have HW := Lib.hid (show IntKind.i64.wrap ((k : Int) - 1) = (j : Int) by rw [IntWalk.i64_in _ (by omega)]; omega)
        have hjn : j < n := by omega
        have hji : (j : Int) < (n : Int) := by omega
        have HJ := Lib.hid hj
        clear p0 p1 ha hj hbd
        cases t
        · go_wp2_with fail
          refine wp_region_segs [([0, 1, 2, 3], 4)] [5, 6, 7, 8, 9, 10, 11, 12, 13, 14, 15, 16, 17, 18, 19, 20, 21, 22, 23] (by kernel_rfl) (by kernel_rfl) (by kernel_rfl) (by kernel_rfl) (fun _ _ d _ _ h => by cases d <;> exact h) ?_
          refine wpSegs_next (by simp [pickOps]; rfl) ?_
          repeat (go_big_quiet_step (fail))
          refine wpQuiet_load_cells rfl 27 (.tmp 12) rfl b (o + k * 2) rfl #[.int .i64 x, .int .i64 y] _ HC.out hbr Try.structRS rfl Try.sizeRS ?_
          refine wpQuiet_nil ?_
          refine wpOp_alone rfl rfl (fun K hK => ?_)
          go_simp
          refine (HR2.out _).mono ?_
          rintro e w2 ⟨rfl, hb1⟩
          have hb2 := hb.trans (((Below.refl w.heap.size wr).drew).trans (hb1.mono hszr))
          refine hK _ _ ⟨hb1, ?_⟩
          clear hK K HR2 HC
          refine wpSegs_last (by simp [pickOps]; rfl) ?_
          repeat (go_big_quiet_step (fail))
          refine wpQuiet_nil ?_
          go_wp2_with fail
          go_ret
          exact ⟨ret_bool (validB_no hlt HF.out).symm, hb2⟩
        · by_cases hxa : x ≤ a
          · have hd : decide (x ≤ a) = true := by simpa using hxa
            have HF2 := Lib.hid (show Spans.okAt l k = false by rw [HF.out, hd]; rfl)
            go_wp2_with fail
            refine wp_region_segs [([0, 1, 2, 3], 4)] [5, 6, 7, 8, 9, 10, 11, 12, 13, 14, 15, 16, 17, 18, 19, 20, 21, 22, 23] (by kernel_rfl) (by kernel_rfl) (by kernel_rfl) (by kernel_rfl) (fun _ _ d _ _ h => by cases d <;> exact h) ?_
            refine wpSegs_next (by simp [pickOps]; rfl) ?_
            repeat (go_big_quiet_step (fail))
            refine wpQuiet_load_cells rfl 27 (.tmp 12) rfl b (o + k * 2) rfl #[.int .i64 x, .int .i64 y] _ HC.out hbr Try.structRS rfl Try.sizeRS ?_
            refine wpQuiet_nil ?_
            refine wpOp_alone rfl rfl (fun K hK => ?_)
            go_simp
            refine (HR2.out _).mono ?_
            rintro e w2 ⟨rfl, hb1⟩
            have hb2 := hb.trans (((Below.refl w.heap.size wr).drew).trans (hb1.mono hszr))
            refine hK _ _ ⟨hb1, ?_⟩
            clear hK K HR2 HC
            have hbw : Below wr.heap.size wr w2 := (Below.refl _ _).drew.trans hb1
            have hbl2 : b < w2.heap.size := by have := hb1.size; simp only [World.drew] at this; omega
            have c0 := above_cell (w := w2) (p := ⟨b, o + k * 2, none⟩) hbl2 ((hbw.cell (p := ⟨b, o + k * 2, none⟩) hbr).trans P0.out)
            have c1 := above_cell (w := w2) (p := ⟨b, o + j * 2 + 1, none⟩) hbl2 ((hbw.cell (p := ⟨b, o + j * 2 + 1, none⟩) hbr).trans P1.out)
            have hw := HW.out
            refine wpSegs_last (by simp [pickOps]; rfl) ?_
            repeat (go_big_quiet_step (fail))
            refine wpQuiet_nil ?_
            go_wp2_with fail
            go_ret
            exact ⟨ret_bool (validB_no hlt HF2.out).symm, hb2⟩
          · have hd : decide (x ≤ a) = false := by simpa using hxa
            have HF2 := Lib.hid (show Spans.okAt l k = true by rw [HF.out, hd]; rfl)
            go_wp2_with fail
            refine wp_region_segs [([0, 1, 2, 3], 4)] [5, 6, 7, 8, 9, 10, 11, 12, 13, 14, 15, 16, 17, 18, 19, 20, 21, 22, 23] (by kernel_rfl) (by kernel_rfl) (by kernel_rfl) (by kernel_rfl) (fun _ _ d _ _ h => by cases d <;> exact h) ?_
            refine wpSegs_next (by simp [pickOps]; rfl) ?_
            repeat (go_big_quiet_step (fail))
            refine wpQuiet_load_cells rfl 27 (.tmp 12) rfl b (o + k * 2) rfl #[.int .i64 x, .int .i64 y] _ HC.out hbr Try.structRS rfl Try.sizeRS ?_
            refine wpQuiet_nil ?_
            refine wpOp_alone rfl rfl (fun K hK => ?_)
            go_simp
            refine (HR2.out _).mono ?_
            rintro e w2 ⟨rfl, hb1⟩
            have hb2 := hb.trans (((Below.refl w.heap.size wr).drew).trans (hb1.mono hszr))
            refine hK _ _ ⟨hb1, ?_⟩
            clear hK K HR2 HC
            have hbw : Below wr.heap.size wr w2 := (Below.refl _ _).drew.trans hb1
            have hbl2 : b < w2.heap.size := by have := hb1.size; simp only [World.drew] at this; omega
            have c0 := above_cell (w := w2) (p := ⟨b, o + k * 2, none⟩) hbl2 ((hbw.cell (p := ⟨b, o + k * 2, none⟩) hbr).trans P0.out)
            have c1 := above_cell (w := w2) (p := ⟨b, o + j * 2 + 1, none⟩) hbl2 ((hbw.cell (p := ⟨b, o + j * 2 + 1, none⟩) hbr).trans P1.out)
            have hw := HW.out
            refine wpSegs_last (by simp [pickOps]; rfl) ?_
            repeat (go_big_quiet_step (fail))
            refine wpQuiet_nil ?_
            clear hw
            go_wp2_with fail
            go_roundw
            case rel => exact ⟨k + 1, by omega, by go_num, fun i hi => by
              rcases Nat.lt_or_ge i k with h | h
              · exact Hok.out i h
              · obtain rfl : i = k := by omega
                exact HF2.out, hb2⟩
            case measure => simp [intOf]; omega
    · obtain rfl : k = n := by have := Hn.out; omega
      go_wp2_with fail
      go_ret
      exact ⟨ret_bool (validB_all Hn.out Hok.out).symm, hb⟩
end Go.Proofs.Yteofmhdbmngfcaa

/- Days ahead of a right time's day, and the day of so many days, by the program. Nothing that was there is written. Conditions: the listed tables lie where they were laid, and those that stand in each lemma. -/
import Derived.Test.YtfbgcjpakahocaaDoorClkRight
namespace Go.Proofs.YtfbgcjpakahocaaDoor
open Go.RowKit
namespace Clk

/-- At a round's head: the days of k months are counted. -/
def CnAt (t : Tm) (A : Int) (W : World) (n m : Value) (wr : World) : Prop :=
  ∃ k : Int, 1 ≤ k ∧ k ≤ t.m ∧ m = .int .i64 k ∧ n = .int .i64 (A + t.d - 1 + cumI t.y k) ∧ Below W.heap.size W wr
set_option maxRecDepth 100000 in
set_option maxHeartbeats 1000000 in
theorem count_any (t : Tm) (w : World) (ht : Tabs w) (hr : t.Right) : Calls Tryd.prog 33 #[tmV t] w fun e w' => e = .returned (.int .i64 t.days) ∧ Below w.heap.size w w' := by
  have Ht := Lib.hid ht
  clear ht
  have HE : Hid (t.days = aheadI t.y + cumI t.y t.m + t.d - 1) := Lib.hid rfl
  have HR := Lib.hid (Row.new w 23 (tmC t))
  generalize t.days = N at *
  obtain ⟨⟨y0, y1⟩, ⟨m0, m1⟩, ⟨d0, d1⟩, _⟩ := hr
  have d2 := (md_range t.y t.m ⟨m0, m1⟩).2
  have d3 : t.d ≤ 31 := by omega
  clear d1 d2
  have a0 := ahead_low t.y y0
  have a1 := ahead_high t.y y0
  have HA := Lib.hid (fun w' : World => ahead_any t.y w' y0 (by omega))
  have HC1 := Lib.hid (cum_one t.y)
  have HCS := Lib.hid (fun k => cum_succ t.y k)
  have HCL := Lib.hid (fun k => cum_low t.y k)
  have HCH := Lib.hid (fun k => cum_mono (y := t.y) (m := k) (n := 13))
  have HC13 := Lib.hid (cum_last t.y)
  have HLN := Lib.hid (len_cases t.y)
  unfold tmV
  unfold tmC at HR ⊢
  have HG := Lib.hid ((Below.refl w.heap.size w).alloc (Nat.le_refl _) (.cells #[.int .i64 t.y, .int .i64 t.m, .int .i64 t.d, .int .i64 t.h, .int .i64 t.i, .int .i64 t.s] 23))
  go_enter Tryd.func33, Tryd.ntmps33
  go_wp2_with fail
  generalize w.alloc (.cells #[.int .i64 t.y, .int .i64 t.m, .int .i64 t.d, .int .i64 t.h, .int .i64 t.i, .int .i64 t.s] 23) = W at *
  have HD := Lib.hid (fun (k : Int) (w' : World) (hb : Below W.heap.size W w') => days_any t.y k w' ((Ht.out.keep HG.out).keep hb))
  have b0 : ∀ x : Above W.drew, x.1.cell? ⟨w.heap.size, 0, none⟩ = some (.int .i64 t.y) := HR.out.drew.above rfl
  have b2 : ∀ x : Above W.drew, x.1.cell? ⟨w.heap.size, 2, none⟩ = some (.int .i64 t.d) := HR.out.drew.above rfl
  refine wp_region_segs [([0, 1, 3, 4], 2)] [5, 6, 7] (by kernel_rfl) (by kernel_rfl) (by kernel_rfl) (by kernel_rfl) (fun _ _ d _ _ h => by cases d <;> exact h) ?_
  refine wpSegs_next (by simp [pickOps]; rfl) ?_
  repeat (go_big_quiet_step (fail))
  refine wpQuiet_nil ?_
  refine wpOp_alone rfl rfl (fun K hK => ?_)
  go_simp
  refine (HA.out _).mono ?_
  rintro e w1 ⟨rfl, rfl⟩
  refine hK _ _ ⟨Ext.refl _, ?_⟩
  clear hK K b0 b2
  generalize hA : aheadI t.y = A at *
  refine wpSegs_last (by simp [pickOps]; rfl) ?_
  repeat (go_big_quiet_step (fail))
  refine wpQuiet_nil ?_
  go_wp2_with fail
  go_loopw [3, 4] (fun n m wr => CnAt t A W n m wr) (fun _ m _ => (t.m - intOf m).toNat)
  case atStart => exact ⟨1, by omega, m0, rfl, by rw [HC1.out]; go_num, below_drewN (Below.refl _ W) 1⟩
  case round =>
    obtain ⟨k, k0, k1, rfl, rfl, hb⟩ := hrel
    obtain ⟨c0, c1, c2, c3, c4, c5⟩ := TmAt.of (t := t) (HR.out.keep hb)
    have HB := Lib.hid hb
    have q0 := HCL.out k (by omega)
    have q1 := HCH.out k (by omega) (by omega) (by omega)
    rw [HC13.out] at q1
    have q2 : cumI t.y k ≤ 366 := by rcases HLN.out with h | h <;> omega
    clear q1 hb
    rcases Int.lt_or_le k t.m with hlt | hge
    · have HS := Lib.hid (HCS.out k (by omega))
      generalize cumI t.y k = C at *
      go_wp2_with fail
      refine (HD.out k _ HB.out).mono ?_
      rintro e w2 ⟨rfl, hb2⟩
      have r0 := md_range t.y k ⟨k0, by omega⟩
      have HQ := Lib.hid (HB.out.trans (hb2.mono HB.out.size))
      clear hb2
      generalize mdI t.y k = M at *
      go_wp2_with fail
      refine ⟨⟨k + 1, by omega, by omega, by go_num, by rw [HS.out]; go_num, HQ.out⟩, ?_⟩
      simp [intOf]
      omega
    · obtain rfl : t.m = k := by omega
      go_wp2_with fail
      go_ret
      exact ⟨by rw [HE.out]; go_num, HG.out.trans (HB.out.mono HG.out.size)⟩
end Clk
end Go.Proofs.YtfbgcjpakahocaaDoor

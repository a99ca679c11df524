/- Undo on an alloc: of a mark of its own epoch, and of none. No conditions but those that stand in each lemma. -/
import Derived.Test.YtnlkljmboifnkaaAlMark
import Derived.Test.YtnlkljmboifnkaaDrawT
import Derived.Lib.Builder
namespace Go.Proofs.Ytnlkljmboifnkaa
open Go.RowKit Go.Maps

/-- An alloc's pointer held against itself, and against nil. -/
theorem al_neq_same (a : Addr) : ∀ w : World, (binOp .neq 24 (.pointer (some a)) (.pointer (some a))).run Try.prog w = .ok (.bool false) w := fun w => by
  obtain ⟨j, hj⟩ := Option.isSome_iff_exists.1 (show (Try.prog.info? 28).isSome = true by kernel_rfl)
  exact Lib.run_neq_ptr_same w a Try.underlying24 hj
theorem al_neq_none (a : Addr) : ∀ w : World, (binOp .neq 24 (.pointer none) (.pointer (some a))).run Try.prog w = .ok (.bool true) w := fun w => by
  have h : ∀ d : Nat, (Op.equalIn (d + 1) 24 (.pointer none) (.pointer (some a))).run Try.prog w = .ok false w := fun d => by
    simp [Op.equalIn, run_underlying Try.underlying24]
  simp only [binOp]
  simp [Op.equal, Op.maxDepth, h 9999]
instance alTurns (p m : Nat) : Turns (AlOth p m) := ⟨AlOth.refl p m, AlOth.trans⟩
theorem Row.aboveAl {W : World} {p m g : Nat} {t : TypeId} {cs : Array Value} (h : Row W g t cs) (h1 : g ≠ p) (h2 : g ≠ m) {j : Nat} {v : Value} (hv : cs[j]? = some v) : ∀ x : AboveR (AlOth p m) W, x.1.cell? ⟨g, j, none⟩ = some v := fun x =>
  (World.cell?_of_block (a := ⟨g, j, none⟩) (x.2.block g h.lt h1 h2)).trans (h.cell hv)
/-- Behind an Undo. -/
def alUndone (s s0 : AlS) : AlS := { s with free := s0.free, settled := s0.settled, waits := s0.waits }
set_option maxRecDepth 100000 in
set_option maxHeartbeats 2000000 in
theorem undo_plain {w : World} {p m k : Nat} {s : AlS} {F S : SlV} {o : Option SlV} (h : AlAt w p m k s F S o) :
    Calls Try.prog 20 #[.pointer (some ⟨p, 0, none⟩), .agg #[.pointer none, .pointer none]] w fun e w' => e = .returned (.tuple #[]) ∧ Below w.heap.size w w' := by
  have hk : Below w.heap.size w (w.alloc (.cells #[.pointer none, .pointer none] 44)) := (Below.refl _ _).alloc (Nat.le_refl _) _
  have HA1 := Lib.hid (h.keep hk)
  have HK := Lib.hid hk
  have HR := Lib.hid (Row.new w 44 #[.pointer none, .pointer none])
  have e0 := Row.above HR.out.drew (j := 0) (v := .pointer none) rfl
  have qn := al_neq_none ⟨p, 0, none⟩
  clear h hk
  go_enter Try.func20, Try.ntmps20
  go_wp2_with fail
  refine wp_region_segs [([0], 1)] [2, 3, 4, 5, 6, 7, 8, 9, 10, 11, 12, 13, 14, 15, 16, 17, 18, 19, 20] (by kernel_rfl) (by kernel_rfl) (by kernel_rfl) (by kernel_rfl) (fun _ _ d _ _ h => by cases d <;> exact h) ?_
  refine wpSegs_next (by simp [pickOps]; rfl) ?_
  repeat (go_big_quiet_step (fail))
  refine wpQuiet_nil ?_
  refine wpOp_alone rfl rfl (fun K hK => ?_)
  go_simp
  refine (alloc_made (HA1.out.keep (Below.refl _ _).drew)).mono ?_
  rintro e w2 ⟨rfl, rfl⟩
  refine hK _ _ ⟨Ext.refl _, ?_⟩
  clear hK K
  refine wpSegs_last (by simp [pickOps]; rfl) ?_
  repeat (go_big_quiet_step (fail))
  refine wpQuiet_nil ?_
  go_wp2_with fail
  (try simp only [Exit.inBlock, Exit.then])
  refine bodyPost_ret (results_none rfl _ _ _) rfl ?_
  exact ⟨rfl, HK.out.drew⟩

set_option maxRecDepth 100000 in
set_option maxHeartbeats 2000000 in
theorem undo_any {w : World} {p m k q : Nat} {s s0 : AlS} {F S : SlV} {o : Option SlV} (h : AlAt w p m k s F S o) (hok : AlOk s) (hk1 : k ≤ 1000000) (hm : MarkAt w q s0) (he : s0.ep = s.ep) (hav : s0.av = s.av) :
    Calls Try.prog 20 #[.pointer (some ⟨p, 0, none⟩), .agg (markV p q)] w fun e w' => e = .returned (.tuple #[]) ∧ AlOth p m w w' ∧ Al w' p m (k + 1) (alUndone s s0) := by
  obtain ⟨F0, S0, X0, hr0, hf0, hs0, hx0, hw0⟩ := hm
  rw [hav] at hw0
  have HV := Lib.hid hw0
  clear hw0 hav
  have hk : Below w.heap.size w (w.alloc (.cells (markV p q) 44)) := (Below.refl _ _).alloc (Nat.le_refl _) _
  have HA1 := Lib.hid (h.keep hk)
  have HK := Lib.hid hk
  have HW := Lib.hid (show (Lit.int .i64 s.ep).wf = true from WalkArith.wf_i64 (by have := hok.ep0; have := hok.ep1; omega))
  have HR := Lib.hid (Row.new w 44 (markV p q))
  have HM := Lib.hid (hr0.keep hk)
  have HF0 := Lib.hid (hf0.keep hk)
  have HS0 := Lib.hid (hs0.keep hk)
  have HX0 := Lib.hid (hx0.keep hk)
  have hqp : q ≠ p := by
    rintro rfl
    have h4 := h.obj
    unfold Row at h4 hr0
    rw [h4] at hr0
    injection hr0 with hr0
    injection hr0 with _ e
    cases e
  have HQ := Lib.hid (show q ≠ p ∧ q ≠ m ∧ q < w.heap.size ∧ p < w.heap.size ∧ m < w.heap.size from ⟨hqp, alMap_ne h.map hr0, hr0.lt, h.ltP, h.ltM⟩)
  have e0 := Row.above HR.out.drew (j := 0) (v := .pointer (some ⟨p, 0, none⟩)) rfl
  have qs := al_neq_same ⟨p, 0, none⟩
  have e1 := Row.above HR.out.drew (j := 1) (v := .pointer (some ⟨q, 0, none⟩)) rfl
  have m0 := Row.above HM.out.drew (j := 0) (v := .int .i64 s.ep) (by rw [← he]; rfl)
  have c3 := Row.above HA1.out.obj.drew (j := 3) (v := .int .i64 s.ep) rfl
  have HUN : Hid (alUndone s s0 = { s with free := s0.free, settled := s0.settled, waits := s0.waits }) := Lib.hid rfl
  have HKN := Lib.hid hk1
  generalize alUndone s s0 = su at *
  clear h hk hok hr0 hf0 hs0 hx0 he hqp hk1
  unfold markV at *
  go_enter Try.func20, Try.ntmps20
  go_wp2_with fail
  refine wp_region_segs [([0], 1)] [2, 3, 4, 5, 6, 7, 8, 9, 10, 11, 12, 13, 14, 15, 16, 17, 18, 19, 20] (by kernel_rfl) (by kernel_rfl) (by kernel_rfl) (by kernel_rfl) (fun _ _ d _ _ h => by cases d <;> exact h) ?_
  refine wpSegs_next (by simp [pickOps]; rfl) ?_
  repeat (go_big_quiet_step (fail))
  refine wpQuiet_nil ?_
  refine wpOp_alone rfl rfl (fun K hK => ?_)
  go_simp
  refine (alloc_made (HA1.out.keep (Below.refl _ _).drew)).mono ?_
  rintro e w2 ⟨rfl, rfl⟩
  refine hK _ _ ⟨Ext.refl _, ?_⟩
  clear hK K
  refine wpSegs_last (by simp [pickOps]; rfl) ?_
  repeat (go_big_quiet_step (fail))
  refine wpQuiet_nil ?_
  go_wp2_with fail
  have HR2 := Lib.hid HR.out.drew
  have HM2 := Lib.hid HM.out.drew
  have HA2 := Lib.hid (HA1.out.keep (Below.refl _ _).drew)
  have HF2 := Lib.hid (HF0.out.keep (Below.refl _ _).drew)
  have HS2 := Lib.hid (HS0.out.keep (Below.refl _ _).drew)
  have HX2 := Lib.hid (HX0.out.keep (Below.refl _ _).drew)
  have HO2 : Hid (AlOth p m w (w.alloc (.cells #[.pointer (some ⟨p, 0, none⟩), .pointer (some ⟨q, 0, none⟩)] 44)).drew) := Lib.hid (.grow HK.out.drew)
  clear HR HM HA1 HF0 HS0 HX0 HK e0 e1 m0 c3
  generalize (w.alloc (.cells #[.pointer (some ⟨p, 0, none⟩), .pointer (some ⟨q, 0, none⟩)] 44)).drew = w2 at *
  have HA3 := Lib.hid (HA2.out.keep (Below.refl _ _).drew)
  have HF3 := Lib.hid (HF2.out.keep (Below.refl _ _).drew)
  have HS3 := Lib.hid (HS2.out.keep (Below.refl _ _).drew)
  have HX3 := Lib.hid (HX2.out.keep (Below.refl _ _).drew)
  have HR3 := Lib.hid HR2.out.drew
  have HM3 := Lib.hid HM2.out.drew
  have HO3 := Lib.hid (HO2.out.trans (.drew w2))
  clear HA2 HF2 HS2 HX2 HR2 HM2 HO2
  have hgne : w.heap.size ≠ p := by have := HQ.out; omega
  have hgnm : w.heap.size ≠ m := by have := HQ.out; omega
  have e1 := Row.aboveAl HR3.out hgne hgnm (j := 1) (v := .pointer (some ⟨q, 0, none⟩)) rfl
  have m1 := Row.aboveAl HM3.out HQ.out.1 HQ.out.2.1 (j := 1) (v := .slice F0.1 F0.2.1 F0.2.2) rfl
  have m2 := Row.aboveAl HM3.out HQ.out.1 HQ.out.2.1 (j := 2) (v := .slice S0.1 S0.2.1 S0.2.2) rfl
  refine wp_region_tree (AlOth p m) (.one [0, 1, 2, 3, 4, 5, 6, 7, 8, 9, 10, 11, 12, 13] 14 (.one [15, 16] 17 (.last []))) (by kernel_rfl) (by kernel_rfl) (by kernel_rfl) (fun _ _ d _ _ h => by cases d <;> exact h) ?_
  refine wpTree_one (by simp [pickOps]; rfl) ?_
  repeat (go_big_quiet_step (fail))
  refine wpQuiet_nil ?_
  clear e1 m1 m2
  generalize w2.drew = w3 at *
  have c4 := HA3.out.c4
  have f4 := HA3.out.obj.free 4
  have HA4 := Lib.hid (HA3.out.setFree HF3.out HV.out.1)
  have oth4 : AlOth p m w3 (w3.setCell ⟨p, 4, none⟩ (.slice F0.1 F0.2.1 F0.2.2)) := .set 4 _
  have HS4 := Lib.hid (HS3.out.oth HA3.out oth4)
  have HX4 := Lib.hid (HX3.out.oth HA3.out oth4)
  have c5 := HA4.out.c5
  have f5 := HA4.out.obj.free 5
  have oth5 : AlOth p m (w3.setCell ⟨p, 4, none⟩ (.slice F0.1 F0.2.1 F0.2.2)) ((w3.setCell ⟨p, 4, none⟩ (.slice F0.1 F0.2.1 F0.2.2)).setCell ⟨p, 5, none⟩ (.slice S0.1 S0.2.1 S0.2.2)) := .set 5 _
  have HX5 := Lib.hid (HX4.out.oth HA4.out oth5)
  have HA5 := Lib.hid (HA4.out.setSettled HS4.out HV.out.2.1)
  have HR5 := Lib.hid ((HR3.out.other hgne 4 (.slice F0.1 F0.2.1 F0.2.2)).other hgne 5 (.slice S0.1 S0.2.1 S0.2.2))
  have HM5 := Lib.hid ((HM3.out.other HQ.out.1 4 (.slice F0.1 F0.2.1 F0.2.2)).other HQ.out.1 5 (.slice S0.1 S0.2.1 S0.2.2))
  have HO5 := Lib.hid ((HO3.out.trans oth4).trans oth5)
  clear oth4 oth5 hgne HS4 HX4 HA4 HR3 HM3 HO3 HX3 HS3 HF3 HA3
  refine wpOp_alone rfl rfl (fun K hK => ?_)
  go_simp
  refine hK _ _ ⟨.set 4 _, ?_⟩
  clear hK K
  refine wpTree_one (by simp [pickOps]; rfl) ?_
  repeat (go_big_quiet_step (fail))
  refine wpQuiet_nil ?_
  refine wpOp_alone rfl rfl (fun K hK => ?_)
  go_simp
  refine hK _ _ ⟨.set 5 _, ?_⟩
  clear hK K c4 f4 c5 f5
  refine wpTree_last rfl ?_
  refine wpQuiet_nil ?_
  generalize (w3.setCell ⟨p, 4, none⟩ (.slice F0.1 F0.2.1 F0.2.2)).setCell ⟨p, 5, none⟩ (.slice S0.1 S0.2.1 S0.2.2) = w5 at *
  have c3 := Row.above HA5.out.obj.drew (j := 3) (v := .int .i64 s.ep) rfl
  have c6 := Row.above HA5.out.obj.drew (j := 6) (v := .map (some m)) rfl
  have e1 := Row.above HR5.out.drew (j := 1) (v := .pointer (some ⟨q, 0, none⟩)) rfl
  have m3 := Row.above HM5.out.drew (j := 3) (v := .slice X0.1 X0.2.1 X0.2.2) rfl
  go_wp2_with fail
  refine wp_region_segsT 13 [] [0, 1, 2, 3, 4, 5, 6, 7, 8, 9, 10, 11, 12] (by kernel_rfl) (by kernel_rfl) ⟨by kernel_rfl, by decide⟩ (by kernel_rfl) (by kernel_rfl) (fun _ _ d _ _ h => by cases d <;> exact h) ?_
  refine wpSegsT_last (by simp [pickOps]; rfl) ?_
  repeat (go_big_quiet_step (fail))
  refine wpQuiet_nil ?_
  refine wpOp_alone rfl rfl (fun K hK => ?_)
  refine wp_update_al (.tmp 44) (.tmp 48) (.tmp 53) rfl (s := { s with free := s0.free, settled := s0.settled }) HW.out rfl rfl X0 rfl HKN.out (HX5.out.keep (Below.refl _ _).drew) HV.out.2.2 (HA5.out.keep (Below.refl _ _).drew) ?_
  intro w6 hA6 ho6
  refine hK _ _ ?_
  clear hK K
  have HA6 := Lib.hid hA6
  have HO6 := Lib.hid (HO5.out.trans ((AlOth.drew w5).trans ho6))
  clear hA6 ho6
  go_wp2_with fail
  go_end0
  exact ⟨rfl, HO6.out, by rw [HUN.out]; exact HA6.out⟩
end Go.Proofs.Ytnlkljmboifnkaa

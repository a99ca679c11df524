/- Mark and Undo on an alloc. No conditions but those that stand in each lemma. -/
import Derived.Test.YtnlkljmboifnkaaAlNew
namespace Go.Proofs.Ytnlkljmboifnkaa
open Go.RowKit Go.Maps

def markCells (s : AlS) (F S X : SlV) : Array Value := #[.int .i64 s.ep, slV F, slV S, slV X]
/-- What a mark keeps, in block q. -/
def MarkAt (w : World) (q : Nat) (s : AlS) : Prop := ∃ F S X, Row w q 55 (markCells s F S X) ∧ SpX w F s.free ∧ SpX w S s.settled ∧ SpX w X s.waits ∧ Away F s.free s.av ∧ Away S s.settled s.av ∧ Away X s.waits s.av
theorem MarkAt.oth {w w' : World} {p m k q : Nat} {s s' : AlS} {F S : SlV} {o : Option SlV} (hm : MarkAt w q s') (h : AlAt w p m k s F S o) (ho : AlOth p m w w') : MarkAt w' q s' := by
  obtain ⟨F', S', X', hr, h1, h2, h3⟩ := hm
  have hqp : q ≠ p := by
    rintro rfl
    have h4 := h.obj
    unfold Row at h4 hr
    rw [h4] at hr
    injection hr with hr
    injection hr with _ e
    cases e
  exact ⟨F', S', X', (ho.block q hr.lt hqp (alMap_ne h.map hr)).trans hr, h1.oth h ho, h2.oth h ho, h3.1.oth h ho, h3.2⟩
theorem MarkAt.keep {w w' : World} {q : Nat} {s' : AlS} (hm : MarkAt w q s') (hb : Below w.heap.size w w') : MarkAt w' q s' := by
  obtain ⟨F', S', X', hr, h1, h2, h3⟩ := hm
  exact ⟨F', S', X', hr.keep hb, h1.keep hb, h2.keep hb, h3.1.keep hb, h3.2⟩
/-- A mark as a value: of alloc p, in block q. -/
def markV (p q : Nat) : Array Value := #[.pointer (some ⟨p, 0, none⟩), .pointer (some ⟨q, 0, none⟩)]
theorem markV_one (p q : Nat) : (markV p q).all (·.oneCell') = true := by simp [markV, Value.oneCell']
theorem Try.resultsMark : Try.f19.results = #[.cell 2 44] := rfl
theorem Try.markStruct : ∃ fs, Try.prog.underlying 44 = some (.struct fs) := ⟨_, Try.underlying44⟩
theorem Try.markSize : (Try.prog.info? 44).map (·.size) = some 2 := by kernel_rfl

set_option maxRecDepth 100000 in
set_option maxHeartbeats 2000000 in
theorem mark_any {w : World} {p m k : Nat} {s : AlS} {F S : SlV} {o : Option SlV} (h : AlAt w p m k s F S o) (hok : AlOk s) :
    Calls Try.prog 19 #[.pointer (some ⟨p, 0, none⟩)] w fun e w' => ∃ q, e = .returned (.agg (markV p q)) ∧ Below w.heap.size w w' ∧ MarkAt w' q s := by
  have HA := Lib.hid h
  have HW := Lib.hid (show (Lit.int .i64 s.ep).wf = true from WalkArith.wf_i64 (by have := hok.ep0; have := hok.ep1; omega))
  have hlt := h.ltP
  clear h hok
  go_enter Try.func19, Try.ntmps19
  go_wp2_with fail
  have hk : Below w.heap.size w (w.alloc (.cells #[.pointer none, .pointer none] 44)) := (Below.refl _ _).alloc (Nat.le_refl _) _
  have HA1 := Lib.hid (HA.out.keep hk)
  refine (alloc_made HA1.out).mono ?_
  rintro e w1 ⟨rfl, hw1⟩
  have HRR : Hid (Row w1 w.heap.size 44 #[.pointer none, .pointer none]) := Lib.hid (by rw [hw1]; exact Row.new _ _ _)
  rw [← hw1] at hk HA1
  have HZ1 : Hid (w1.heap.size = w.heap.size + 1) := Lib.hid (by rw [hw1]; show (w.heap.push _).size = _; rw [Array.size_push])
  clear hw1
  have HK := Lib.hid hk
  have c3 := cells_above HA1.out.obj.drew (j := 3) (v := .int .i64 s.ep) rfl
  have c4 := cells_above HA1.out.obj.drew (j := 4) (v := .slice F.1 F.2.1 F.2.2) rfl
  have c5 := cells_above HA1.out.obj.drew (j := 5) (v := .slice S.1 S.2.1 S.2.2) rfl
  have c6 := cells_above HA1.out.obj.drew (j := 6) (v := .map (some m)) rfl
  clear hk HA
  go_wp2_with fail
  refine wp_region_segsT 25 [([0, 1, 2, 3, 4, 5, 6, 7, 8, 9, 10, 11, 12, 13, 14, 15, 16, 17, 18, 19, 20], 21), ([], 22), ([], 23), ([], 24)] [] (by kernel_rfl) (by kernel_rfl) ⟨by kernel_rfl, by decide⟩ (by kernel_rfl) (by kernel_rfl) (fun _ _ d _ _ h => by cases d <;> exact h) ?_
  refine wpSegsT_next (by simp [pickOps]; rfl) ?_
  repeat (go_big_quiet_step (fail))
  refine wpQuiet_nil ?_
  refine wpOp_alone rfl rfl (fun K hK => ?_)
  refine wp_lookup_al (.tmp 23) (.tmp 27) rfl HW.out rfl rfl (HA1.out.keep (Below.refl _ _).drew).map ?_
  refine hK _ _ ⟨Ext.refl _, ?_⟩
  clear hK K
  refine wpSegsT_next rfl ?_
  refine wpQuiet_nil ?_
  refine wpOp_alone rfl rfl (fun K hK => ?_)
  go_simp
  refine hK _ _ ⟨Ext.refl _, ?_⟩
  clear hK K
  refine wpSegsT_next rfl ?_
  refine wpQuiet_nil ?_
  refine wpOp_alone rfl rfl (fun K hK => ?_)
  go_simp
  refine hK _ _ ⟨(Below.refl _ _).alloc (Nat.le_refl _) _, ?_⟩
  clear hK K c3 c4 c5 c6
  have hb2 : Below w1.heap.size w1 (w1.drew.alloc (.cells (markCells s F S (alX o)) 55)) := ((Below.refl w1.heap.size w1).drew).alloc (Nat.le_refl _) _
  have HM2 : Hid (MarkAt (w1.drew.alloc (.cells (markCells s F S (alX o)) 55)) w1.heap.size s) := Lib.hid ⟨F, S, alX o, Row.new _ _ _, HA1.out.free.keep hb2, HA1.out.settled.keep hb2, (alW_x HA1.out.waits).keep hb2, HA1.out.away.2⟩
  have HR2 := Lib.hid (HRR.out.keep hb2)
  have HB2 := Lib.hid (HK.out.trans (hb2.mono (by have := HZ1.out; omega)))
  clear hb2 HRR HK
  refine wpSegsT_next rfl ?_
  refine wpQuiet_nil ?_
  refine wpOp_alone rfl rfl (fun K hK => ?_)
  go_simp
  refine hK _ _ ⟨Ext.refl _, ?_⟩
  clear hK K
  refine wpSegsT_last rfl ?_
  refine wpQuiet_nil ?_
  refine wpOp_alone rfl rfl (fun K hK => ?_)
  refine wp_store_row 44 (.tmp 2) (.tmp 31) rfl w.heap.size (markV p w1.heap.size) rfl rfl 44 _ HR2.out Try.markSize rfl (markV_one _ _) ?_
  refine hK _ _ ?_
  clear hK K
  have hb3 := below_setRow (Below.refl (w1.heap.size) (w1.drew.alloc (.cells (markCells s F S (alX o)) 55))) (b := w.heap.size)
  have HM3 : Hid (MarkAt ((w1.drew.alloc (.cells (markCells s F S (alX o)) 55)).setRow w.heap.size (markV p w1.heap.size)) w1.heap.size s) := by
    obtain ⟨F', S', X', hr, h1, h2, h3⟩ := HM2.out
    have hne : ∀ b, CellsT (w1.drew.alloc (.cells (markCells s F S (alX o)) 55)) 23 b → ((w1.drew.alloc (.cells (markCells s F S (alX o)) 55)).setRow w.heap.size (markV p w1.heap.size)).heap[b]? = (w1.drew.alloc (.cells (markCells s F S (alX o)) 55)).heap[b]? := fun b hb => setRow_other _ _ _ _ (hb.ne HR2.out (by decide))
    have hx : ∀ (x : SlV) l, SpX (w1.drew.alloc (.cells (markCells s F S (alX o)) 55)) x l → SpX ((w1.drew.alloc (.cells (markCells s F S (alX o)) 55)).setRow w.heap.size (markV p w1.heap.size)) x l := fun x l h => ⟨h.len, h.cap, h.most, h.at_.keepIf (by rw [setRow_size]; exact Nat.le_refl _) fun b _ hc => hne b hc⟩
    exact Lib.hid ⟨F', S', X', hr.otherRow (by have := HZ1.out; omega) _, hx _ _ h1, hx _ _ h2, hx _ _ h3.1, h3.2⟩
  have HR3 := Lib.hid (HR2.out.setRow (markV p w1.heap.size))
  have HB3 := Lib.hid (below_setRow HB2.out (Nat.le_refl w.heap.size) (markV p w1.heap.size))
  clear HM2 HR2 HB2 hb3
  go_wp2_with fail
  obtain ⟨fs, hfs⟩ := Try.markStruct
  refine bodyPost_ret (v := .agg (markV p w1.heap.size)) ?_ rfl ?_
  · exact results_cell_row Try.resultsMark _ _ w.heap.size 44 (markV p w1.heap.size) (0, 0) _ rfl HR3.out hfs rfl Try.markSize
  · exact ⟨_, rfl, HB3.out, HM3.out⟩
end Go.Proofs.Ytnlkljmboifnkaa

/- What an alloc says of a span: is it in use. No conditions but those that stand in each lemma. -/
import Derived.Test.YtnlkljmboifnkaaAlWithin
import Derived.Test.YtnlkljmboifnkaaAlMap
namespace Go.Proofs.Ytnlkljmboifnkaa
open Go.RowKit Go.Maps

theorem Try.alStruct : ∃ fs, Try.prog.underlying 23 = some (.struct fs) := ⟨_, Try.underlying23⟩
theorem Try.alSize : (Try.prog.info? 23).map (·.size) = some 2 := by kernel_rfl
/-- The error that a span has that is to be given back: 0, it is in use; 2, it is none of its sectors; 13, some of it is free, or waits. -/
def alInE (s : AlS) (t : Sp) : Int := if alWithin s t then (if Spans.meetsB s.free t || Spans.meetsB s.waits t then 13 else 0) else 2
theorem alInE_out {s : AlS} {t : Sp} (h : alWithin s t = false) : alInE s t = 2 := by unfold alInE; rw [if_neg (by rw [h]; simp)]
theorem alInE_in {s : AlS} {t : Sp} (h : alWithin s t = true) : alInE s t = if Spans.meetsB s.free t || Spans.meetsB s.waits t then 13 else 0 := by unfold alInE; rw [if_pos h]
theorem cells_above {w : World} {g : Nat} {t : TypeId} {cs : Array Value} (h : Row w g t cs) {j : Nat} {v : Value} (hv : cs[j]? = some v) : ∀ x : Above w, x.1.cell? ⟨g, j, none⟩ = some v := h.above hv

set_option maxRecDepth 100000 in
set_option maxHeartbeats 2000000 in
theorem alloc_inUse {w : World} {p m k : Nat} {s : AlS} {F S : SlV} {o : Option SlV} (h : AlAt w p m k s F S o) (hok : AlOk s) (x y : Int) :
    Calls Try.prog 27 #[.pointer (some ⟨p, 0, none⟩), .agg #[.int .i64 x, .int .i64 y]] w fun e w' => e = .returned (.int .i64 (alInE s (x, y))) ∧ Below w.heap.size w w' := by
  have hk : Below w.heap.size w (w.alloc (.cells #[.int .i64 x, .int .i64 y] 23)) := (Below.refl _ _).alloc (Nat.le_refl _) _
  have HA := Lib.hid h
  have HO := Lib.hid hok
  have HWI := Lib.hid (alloc_within (h.keep hk) x y)
  have hlt := h.ltP
  have HE := Lib.hid (show (alWithin s (x, y) = false → alInE s (x, y) = 2) ∧ (alWithin s (x, y) = true → alInE s (x, y) = if Spans.meetsB s.free (x, y) || Spans.meetsB s.waits (x, y) then 13 else 0) from ⟨alInE_out, alInE_in⟩)
  generalize alInE s (x, y) = E at *
  clear h hok
  go_enter Try.func27, Try.ntmps27
  go_wp2_with fail
  refine HWI.out.mono ?_
  rintro e w1 ⟨rfl, hb1⟩
  have HR := Lib.hid (sp_row hb1)
  obtain ⟨d0, d1, hb2⟩ := sp_new hb1
  have HB := Lib.hid hb2
  clear hb1 d0 d1 hk
  cases hw : alWithin s (x, y) with
  | false =>
    rw [alWithinE_no hw]
    obtain rfl : E = 2 := HE.out.1 hw
    clear HWI
    go_wp2_with fail
    go_ret
    exact ⟨rfl, HB.out⟩
  | true =>
    rw [alWithinE_yes hw]
    have HE1 := Lib.hid (HE.out.2 hw)
    have HAB := Lib.hid (HA.out.keep hb2)
    have hlt2 : p < w1.heap.size := HAB.out.ltP
    have c4 := cells_above HAB.out.obj.drew (j := 4) (v := .slice F.1 F.2.1 F.2.2) rfl
    have hgl := HR.out.lt
    have e0 := cells_above HR.out.drew (j := 0) (v := .int .i64 x) rfl
    clear HWI hw HE
    go_wp2_with fail
    refine wp_region_segs [([0, 1, 2, 3, 4], 5)] [6] (by kernel_rfl) (by kernel_rfl) (by kernel_rfl) (by kernel_rfl) (fun _ _ d _ _ h => by cases d <;> exact h) ?_
    refine wpSegs_next (by simp [pickOps]; rfl) ?_
    repeat (go_big_quiet_step (fail))
    obtain ⟨fs, hfs⟩ := Try.alStruct
    refine wpQuiet_load_cells rfl 23 (.tmp 3) rfl w.heap.size 0 rfl #[.int .i64 x, .int .i64 y] _ HR.out.drew.cells HR.out.lt hfs rfl Try.alSize ?_
    refine wpQuiet_nil ?_
    refine wpOp_alone rfl rfl (fun K hK => ?_)
    go_simp
    refine (meets_any F.1 F.2.1 F.2.2 s.free x y _ HAB.out.free.len (HAB.out.free.at_.src.keep (Below.refl _ _).drew) (by have h1 := HAB.out.free.len; have := HO.out.nf; omega)).mono ?_
    rintro e w2 ⟨rfl, hb⟩
    have hb3 : Below w1.heap.size w1 w2 := (Below.refl _ _).drew.trans hb
    refine hK _ _ ⟨hb, ?_⟩
    clear hK K hb c4 e0
    have HAC := Lib.hid (HAB.out.keep hb3)
    have HR2 := Lib.hid (HR.out.keep hb3)
    have HB2 := Lib.hid (hb2.trans (hb3.mono hb2.size))
    have c6 := HAC.out.c6
    have HM := Lib.hid HAC.out.map
    have hsz : w.heap.size ≤ w2.heap.size := HB2.out.size
    have hplt : p < w2.heap.size := HAC.out.ltP
    have hmlt : m < w2.heap.size := HAC.out.ltM
    have hglt : w.heap.size < w2.heap.size := HR2.out.lt
    have HWT := Lib.hid HAC.out.waits
    have HNW := Lib.hid HO.out.nw
    clear hb3 HAB HR HA HB hb2 hlt hlt2 hgl
    generalize Spans.meetsB s.free (x, y) = m1 at *
    refine wpSegs_last (by simp [pickOps]; rfl) ?_
    repeat (go_big_quiet_step (fail))
    refine wpQuiet_nil ?_
    go_wp2_with (at_range; refine wpList_range_own _ rfl _ 26 rfl 3 25 alKeyed Try.underlying26 slR m k (alD s.ep o) rfl HM.out ?_; intro w3 hrg hg3 hs3)
    go_frame
    have hb3 : Below w2.heap.size w2 w3 := ⟨hg3.os, hg3.tape, hg3.output, hg3.size, fun j hj => hg3.block j hj (by simp)⟩
    have start : ∃ left cnt, w3.ranges Try.prog 3 slR m w2.heap.size k (alD s.ep o) left cnt ∧ Below w2.heap.size w2 w3 ∧ (((∀ z, left z = has (alD s.ep o) z) ∧ m1 = m1) ∨ ((∀ z, left z = false) ∧ m1 = (m1 || Spans.meetsB s.waits (x, y)))) := ⟨_, _, hrg, hb3, .inl ⟨fun _ => rfl, rfl⟩⟩
    clear hrg hg3 hs3 hb3 c6
    generalize hr : w2.heap.size = r at *
    go_loopw [6, 8] (fun v _ wr => ∃ b : Bool, v = .bool b ∧ ∃ left cnt, wr.ranges Try.prog 3 slR m r k (alD s.ep o) left cnt ∧ Below r w2 wr ∧ (((∀ z, left z = has (alD s.ep o) z) ∧ b = m1) ∨ ((∀ z, left z = false) ∧ b = (m1 || Spans.meetsB s.waits (x, y))))) (fun _ _ wr => wr.rangeLeft m r)
    case atStart => exact ⟨m1, rfl, start⟩
    case round =>
      clear start
      obtain ⟨b, rfl, left, cnt, hrg, hb, hst⟩ := hrel
      have Hst := Lib.hid hst
      have hml : m < wr.heap.size := hrg.owns.lt
      have hrl := hrg.left_eq
      clear hst
      go_wp2_with (at_next; refine wpList_next_al rfl _ rfl rfl hrg (Hst.out.imp And.left And.left) ?_ ?_)
      · intro hd
        have hv : b = (m1 || Spans.meetsB s.waits (x, y)) := by
          rcases Hst.out with ⟨h1, h2⟩ | ⟨_, h2⟩
          · have hn : o = none := hd.elim id (fun h => alD_none (fun z => by rw [← h1 z]; exact h z))
            subst hn
            have hw0 : s.waits = [] := HWT.out
            rw [h2, hw0]; simp [Spans.meetsB]
          · exact h2
        have HE2 := HE1.out
        rw [← hv] at HE2
        have HBE := Lib.hid (HB2.out.trans (hb.mono hsz))
        clear hv hb hrg Hst
        cases b
        all_goals
          subst HE2
          go_wp2_with fail
          go_ret
          exact ⟨rfl, HBE.out⟩
      · intro A nA cA w4 left1 cnt1 ho hl hrg1 hl1 hlt hgr hsz4 hen
        subst ho
        obtain rfl : b = m1 := by
          rcases Hst.out with h | ⟨h, _⟩
          · exact h.2
          · exfalso
            have := hl (.int .i64 s.ep)
            rw [h, alD_has, alKey_self] at this
            cases this
        have HX : Hid (SpX w2 (A, nA, cA) s.waits) := HWT
        have hb4 : Below r w2 w4 := hb.trans ⟨hgr.os, hgr.tape, hgr.output, hgr.size, fun j hj => hgr.block j (by have := hb.size; omega) (by intro e; injection e with e; omega)⟩
        have hb4' : Below w2.heap.size w2 w4 := hr ▸ hb4
        have HR4 := Lib.hid (HR2.out.keep hb4')
        have e0 : w4.cell? ⟨w.heap.size, 0, none⟩ = some (.int .i64 x) := HR4.out.cell (j := 0) rfl
        have e1 : w4.cell? ⟨w.heap.size, 1, none⟩ = some (.int .i64 y) := HR4.out.cell (j := 1) rfl
        have hf := Lib.hid (meets_any A nA cA s.waits x y w4 HX.out.len (HX.out.keep hb4').at_.src (by have h1 : nA = s.waits.length := HX.out.len; have := HNW.out; omega))
        have HR1 := Lib.hid hrg1
        have HH := Lib.hid hl1
        have hl4 := HR1.out.left_eq
        have hz4 := hb4.size
        clear hrg1 hgr hb hrg hb4'
        generalize hm2 : Spans.meetsB s.waits (x, y) = m2 at *
        cases b
        · go_wp2_with fail
          refine hf.out.mono ?_
          rintro e w5 ⟨rfl, hb5⟩
          have HR5 := Lib.hid (HR1.out.kept (row := none) ⟨hb5.os, hb5.tape, hb5.output, hb5.size, fun j hj _ => hb5.block j hj⟩ (by simp) (by simp))
          have hb6 := hb4.trans (hb5.mono (by omega))
          have hl5 := HR5.out.left_eq
          clear hb5 hb4 e0 e1
          go_wp2_with fail
          go_roundw
          case rel => exact ⟨m2, rfl, left1, cnt1, HR5.out, hb6, .inr ⟨HH.out, by rw [hm2]; rfl⟩⟩
          case measure => omega
        · go_wp2_with fail
          go_roundw
          case rel => exact ⟨true, rfl, left1, cnt1, HR1.out, hb4, .inr ⟨HH.out, rfl⟩⟩
          case measure => omega
end Go.Proofs.Ytnlkljmboifnkaa

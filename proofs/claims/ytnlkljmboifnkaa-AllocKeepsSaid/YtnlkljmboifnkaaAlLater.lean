/- Later on an alloc. No conditions but those that stand in each lemma. -/
import Derived.Test.YtnlkljmboifnkaaAlGive
namespace Go.Proofs.Ytnlkljmboifnkaa
open Go.RowKit Go.Maps

set_option maxRecDepth 100000 in
set_option maxHeartbeats 2000000 in
theorem later_any {w : World} {p m k : Nat} {s : AlS} {F S : SlV} {o : Option SlV} (h : AlAt w p m k s F S o) (hok : AlOk s) (hk1 : k ≤ 1000000) (x y : Int) :
    Calls Try.prog 12 #[.pointer (some ⟨p, 0, none⟩), .agg #[.int .i64 x, .int .i64 y]] w fun e w' => e = .returned (.int .i64 (alInE s (x, y))) ∧ AlOth p m w w' ∧ Al w' p m (k + 1) (alLatered s (x, y)) := by
  have hk : Below w.heap.size w (w.alloc (.cells #[.int .i64 x, .int .i64 y] 23)) := (Below.refl _ _).alloc (Nat.le_refl _) _
  have HA := Lib.hid h
  have HO := Lib.hid hok
  have HWI := Lib.hid (alloc_inUse (h.keep hk) hok x y)
  have hlt := h.ltP
  have HE := Lib.hid (show (alInE s (x, y) = 0 → alLatered s (x, y) = { s with waits := Spans.addL s.waits (x, y) }) ∧ (alInE s (x, y) ≠ 0 → alLatered s (x, y) = s) from ⟨fun h => if_pos h, fun h => if_neg h⟩)
  have HW := Lib.hid (show (Lit.int .i64 s.ep).wf = true from WalkArith.wf_i64 (by have := hok.ep0; have := hok.ep1; omega))
  have HK1 := Lib.hid hk1
  generalize alInE s (x, y) = E at *
  generalize alLatered s (x, y) = s' at *
  have HAD : ∀ w1, AlAt w1 p m k s F S o → Calls Try.prog 24 #[.slice (alX o).1 (alX o).2.1 (alX o).2.2, .agg #[.int .i64 x, .int .i64 y]] w1 (GivesS w1 23 (Spans.addL s.waits (x, y))) :=
    fun w1 h1 => by
      have hx := alW_x h1.waits
      exact add_any _ _ _ s.waits _ _ w1 hx.len hx.at_.src (by have h2 := hx.len; have := hok.nw; omega) hx.cap hx.most
  have HAD := Lib.hid HAD
  clear h hok hk1
  go_enter Try.func12, Try.ntmps12
  go_wp2_with fail
  refine HWI.out.mono ?_
  rintro e w1 ⟨rfl, hb1⟩
  have HR := Lib.hid (sp_row hb1)
  obtain ⟨d0, d1, hb2⟩ := sp_new hb1
  have HB := Lib.hid hb2
  clear hb1 d0 d1 hk HWI
  by_cases hE : E = 0
  · have HS := Lib.hid (HE.out.1 hE)
    subst hE
    have HAB := Lib.hid (HA.out.keep hb2)
    have hlt2 : p < w1.heap.size := HAB.out.ltP
    have c3 := cells_above HAB.out.obj.drew (j := 3) (v := .int .i64 s.ep) rfl
    have c6 := cells_above HAB.out.obj.drew (j := 6) (v := .map (some m)) rfl
    have hgl := HR.out.lt
    clear HA HE
    go_wp2_with fail
    refine wp_region_segsT 19 [([0, 1, 2, 3, 4, 5, 6, 7, 8, 9, 10, 11, 12, 13, 14, 15, 17], 16), ([], 18)] [] (by kernel_rfl) (by kernel_rfl) ⟨by kernel_rfl, by decide⟩ (by kernel_rfl) (by kernel_rfl) (fun _ _ d _ _ h => by cases d <;> exact h) ?_
    refine wpSegsT_next (by simp [pickOps]; rfl) ?_
    repeat (go_big_quiet_step (fail))
    obtain ⟨fs, hfs⟩ := Try.alStruct
    refine wpQuiet_load_cells rfl 23 (.tmp 3) rfl w.heap.size 0 rfl #[.int .i64 x, .int .i64 y] _ HR.out.drew.cells HR.out.lt hfs rfl Try.alSize ?_
    refine wpQuiet_nil ?_
    refine wpOp_alone rfl rfl (fun K hK => ?_)
    refine wp_lookup_al (.tmp 22) (.tmp 26) rfl HW.out rfl rfl (HAB.out.keep (Below.refl _ _).drew).map ?_
    refine hK _ _ ⟨Ext.refl _, ?_⟩
    clear hK K
    refine wpSegsT_next rfl ?_
    refine wpQuiet_nil ?_
    refine wpOp_alone rfl rfl (fun K hK => ?_)
    go_simp
    refine (HAD.out _ (HAB.out.keep (Below.refl _ _).drew)).mono ?_
    intro e w2 hg
    obtain ⟨z, rfl, hx2, hb4, hfresh⟩ := spx_of_gives hg
    have HAV : Hid (Away z (Spans.addL s.waits (x, y)) s.av) := Lib.hid (.fresh hfresh HAB.out.away.1)
    clear hfresh
    have HA4 := Lib.hid ((HAB.out.keep (Below.refl _ _).drew).keep hb4)
    have HX4 := Lib.hid hx2
    have HB4 := Lib.hid (HB.out.trans (((Below.refl _ _).drew.trans hb4).mono HB.out.size))
    refine hK _ _ ⟨hb4, ?_⟩
    clear hK K hb4 c3 c6 hx2 hg HAD
    refine wpSegsT_last rfl ?_
    refine wpQuiet_nil ?_
    refine wpOp_alone rfl rfl (fun K hK => ?_)
    refine wp_update_al (.tmp 14) (.tmp 18) (.tmp 29) rfl HW.out rfl rfl z rfl HK1.out HX4.out HAV.out HA4.out ?_
    intro w3 hA5 ho5
    refine hK _ _ ?_
    clear hK K
    have HA5 := Lib.hid hA5
    have HO5 := Lib.hid ((AlOth.grow HB4.out).trans ho5)
    clear hA5 ho5
    go_wp2_with fail
    go_ret
    exact ⟨rfl, HO5.out, by rw [HS.out]; exact HA5.out⟩
  · have hs := HE.out.2 hE
    subst hs
    have hE1 : (E == 0) = false := by simpa using hE
    have HAB := Lib.hid (HA.out.keep hb2)
    clear HE
    go_wp2_with fail
    go_ret
    exact ⟨rfl, .grow HB.out, _, _, _, HAB.out.more (by omega)⟩
end Go.Proofs.Ytnlkljmboifnkaa

/- Give and Later on an alloc. No conditions but those that stand in each lemma. -/
import Derived.Test.YtnlkljmboifnkaaAlInUse
import Derived.Test.YtnlkljmboifnkaaAlTake
namespace Go.Proofs.Ytnlkljmboifnkaa
open Go.RowKit Go.Maps

/-- Behind a Give; behind a Later. -/
def alGiven (s : AlS) (t : Sp) : AlS := if alInE s t = 0 then { s with free := Spans.addL s.free t } else s
def alLatered (s : AlS) (t : Sp) : AlS := if alInE s t = 0 then { s with waits := Spans.addL s.waits t } else s

set_option maxRecDepth 100000 in
set_option maxHeartbeats 2000000 in
theorem give_any {w : World} {p m k : Nat} {s : AlS} {F S : SlV} {o : Option SlV} (h : AlAt w p m k s F S o) (hok : AlOk s) (x y : Int) :
    Calls Try.prog 11 #[.pointer (some ⟨p, 0, none⟩), .agg #[.int .i64 x, .int .i64 y]] w fun e w' => e = .returned (.int .i64 (alInE s (x, y))) ∧ AlOth p m w w' ∧ Al w' p m k (alGiven s (x, y)) := by
  have hk : Below w.heap.size w (w.alloc (.cells #[.int .i64 x, .int .i64 y] 23)) := (Below.refl _ _).alloc (Nat.le_refl _) _
  have HA := Lib.hid h
  have HO := Lib.hid hok
  have HWI := Lib.hid (alloc_inUse (h.keep hk) hok x y)
  have hlt := h.ltP
  have HE := Lib.hid (show (alInE s (x, y) = 0 → alGiven s (x, y) = { s with free := Spans.addL s.free (x, y) }) ∧ (alInE s (x, y) ≠ 0 → alGiven s (x, y) = s) from ⟨fun h => if_pos h, fun h => if_neg h⟩)
  generalize alInE s (x, y) = E at *
  generalize alGiven s (x, y) = s' at *
  have HAD : ∀ w1, AlAt w1 p m k s F S o → Calls Try.prog 24 #[.slice F.1 F.2.1 F.2.2, .agg #[.int .i64 x, .int .i64 y]] w1 (GivesS w1 23 (Spans.addL s.free (x, y))) :=
    fun w1 h1 => add_any F.1 F.2.1 F.2.2 s.free _ _ w1 h1.free.len h1.free.at_.src (by have h2 := h1.free.len; have := hok.nf; omega) h1.free.cap h1.free.most
  have HAD := Lib.hid HAD
  clear h hok
  go_enter Try.func11, Try.ntmps11
  go_wp2_with fail
  refine HWI.out.mono ?_
  rintro e w1 ⟨rfl, hb1⟩
  have HR := Lib.hid (sp_row hb1)
  obtain ⟨d0, d1, hb2⟩ := sp_new hb1
  have HB := Lib.hid hb2
  clear hb1 d0 d1 hk HWI
  by_cases hE : E = 0
  · have HS := Lib.hid (HE.out.1 hE)
    subst hE
    have HAB := Lib.hid (HA.out.keep hb2)
    have hlt2 : p < w1.heap.size := HAB.out.ltP
    have c4 := cells_above HAB.out.obj.drew (j := 4) (v := .slice F.1 F.2.1 F.2.2) rfl
    have hgl := HR.out.lt
    clear HA HE
    go_wp2_with fail
    refine wp_region_segsT 9 [([0, 1, 2, 3, 4, 5], 6)] [7, 8] (by kernel_rfl) (by kernel_rfl) ⟨by kernel_rfl, by decide⟩ (by kernel_rfl) (by kernel_rfl) (fun _ _ d _ _ h => by cases d <;> exact h) ?_
    refine wpSegsT_next (by simp [pickOps]; rfl) ?_
    repeat (go_big_quiet_step (fail))
    obtain ⟨fs, hfs⟩ := Try.alStruct
    refine wpQuiet_load_cells rfl 23 (.tmp 3) rfl w.heap.size 0 rfl #[.int .i64 x, .int .i64 y] _ HR.out.drew.cells HR.out.lt hfs rfl Try.alSize ?_
    refine wpQuiet_nil ?_
    refine wpOp_alone rfl rfl (fun K hK => ?_)
    go_simp
    refine (HAD.out _ (HAB.out.keep (Below.refl _ _).drew)).mono ?_
    intro e w2 hg
    obtain ⟨z, rfl, hb4, hfr, hA4, hx4, hA5, ho5⟩ := alStored (HAB.out.keep (Below.refl _ _).drew) hg
    have lc4 := hA4.c4
    have HA5 := Lib.hid hA5
    have HO5 := Lib.hid ((AlOth.grow HB.out).trans ((AlOth.drew w1).trans ho5))
    refine hK _ _ ⟨hb4, ?_⟩
    clear hK K hb4 c4 hA4 hx4 hA5 ho5 hg
    refine wpSegsT_last (by simp [pickOps]; rfl) ?_
    repeat (go_big_quiet_step (fail))
    refine wpQuiet_nil ?_
    refine wpOp_alone rfl rfl (fun K hK => ?_)
    go_simp
    refine hK _ _ ?_
    clear hK K
    go_wp2_with fail
    go_ret
    exact ⟨rfl, HO5.out, by rw [HS.out]; exact HA5.out⟩
  · have hs := HE.out.2 hE
    subst hs
    have hE1 : (E == 0) = false := by simpa using hE
    have HAB := Lib.hid (HA.out.keep hb2)
    clear HE
    go_wp2_with fail
    go_ret
    exact ⟨rfl, .grow HB.out, _, _, _, HAB.out⟩
end Go.Proofs.Ytnlkljmboifnkaa

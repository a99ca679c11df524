/- How many are free, wait, are in use; which are free. No conditions but those that stand in each lemma. -/
import Derived.Test.YtnlkljmboifnkaaAlMap
namespace Go.Proofs.Ytnlkljmboifnkaa
open Go.RowKit Go.Maps

theorem alloc_free {w : World} {p m k : Nat} {s : AlS} {F S : SlV} {o : Option SlV} (h : AlAt w p m k s F S o) (hok : AlOk s) :
    Calls Try.prog 13 #[.pointer (some ⟨p, 0, none⟩)] w fun e w' => e = .returned (.int .i64 (Spans.totalL s.free)) ∧ Below w.heap.size w w' := by
  have c4 := h.c4
  have hf := Lib.hid (total_any F.1 F.2.1 F.2.2 s.free w h.free.len h.free.at_.src (by have := h.free.len; have := hok.nf; omega))
  have HA := Lib.hid h
  clear h hok
  go_enter Try.func13, Try.ntmps13
  go_wp2_with fail
  refine (alloc_made HA.out).mono ?_
  rintro e w1 ⟨rfl, rfl⟩
  go_wp2_with fail
  refine hf.out.mono ?_
  rintro e w2 ⟨rfl, hb⟩
  go_wp2_with fail
  go_ret
  exact ⟨rfl, hb⟩

/-- At a round's head: what waits has not come up yet, or has. -/
def AlRound (w0 : World) (m r k : Nat) (ep : Int) (o : Option SlV) (wr : World) (fresh done : Prop) : Prop :=
  ∃ left cnt, wr.ranges Try.prog 3 slR m r k (alD ep o) left cnt ∧ Below w0.heap.size w0 wr ∧ (((∀ z, left z = has (alD ep o) z) ∧ fresh) ∨ ((∀ z, left z = false) ∧ done))
set_option maxRecDepth 100000 in
theorem alloc_waiting {w : World} {p m k : Nat} {s : AlS} {F S : SlV} {o : Option SlV} (h : AlAt w p m k s F S o) (hok : AlOk s) :
    Calls Try.prog 14 #[.pointer (some ⟨p, 0, none⟩)] w fun e w' => e = .returned (.int .i64 (Spans.totalL s.waits)) ∧ Below w.heap.size w w' := by
  have c6 := h.c6
  have HA := Lib.hid h
  have HW := Lib.hid h.waits
  have HN := Lib.hid hok.nw
  have HM := Lib.hid h.map
  have hmlt := h.ltM
  have HT := Lib.hid (Spans.total_bounds (l := s.waits))
  clear h hok
  go_enter Try.func14, Try.ntmps14
  go_wp2_with fail
  refine (alloc_made HA.out).mono ?_
  rintro e w1 ⟨rfl, rfl⟩
  go_wp2_with (at_range; refine wpList_range_own _ rfl _ 26 rfl 3 25 alKeyed Try.underlying26 slR m k (alD s.ep o) rfl HM.out ?_; intro w3 hrg hg3 hs3)
  go_frame
  have hb3 : Below w1.heap.size w1 w3 := ⟨hg3.os, hg3.tape, hg3.output, hg3.size, fun j hj => hg3.block j hj (by simp)⟩
  have start : AlRound w1 m w1.heap.size k s.ep o w3 ((0 : Int) = 0) ((0 : Int) = Spans.totalL s.waits) := ⟨_, _, hrg, hb3, .inl ⟨fun _ => rfl, rfl⟩⟩
  clear hrg hg3 hs3 hb3 c6
  generalize hr : w1.heap.size = r at *
  go_loopw [3, 5] (fun v _ wr => ∃ n : Int, v = .int .i64 n ∧ AlRound w1 m r k s.ep o wr (n = 0) (n = Spans.totalL s.waits)) (fun _ _ wr => wr.rangeLeft m r)
  case atStart => exact ⟨0, rfl, start⟩
  case round =>
    clear start
    obtain ⟨n, rfl, left, cnt, hrg, hb, hst⟩ := hrel
    have Hst := Lib.hid hst
    have hml : m < wr.heap.size := hrg.owns.lt
    have hrl := hrg.left_eq
    clear hst
    go_wp2_with (at_next; refine wpList_next_al rfl _ rfl rfl hrg (Hst.out.imp And.left And.left) ?_ ?_)
    · intro hd
      have hv : n = Spans.totalL s.waits := by
        rcases Hst.out with ⟨h1, h2⟩ | ⟨_, h2⟩
        · have hn : o = none := hd.elim id (fun h => alD_none (fun z => by rw [← h1 z]; exact h z))
          subst hn
          have hw0 : s.waits = [] := HW.out
          rw [h2, hw0]; rfl
        · exact h2
      subst hv
      go_wp2_with fail
      go_ret
      exact ⟨rfl, hr ▸ hb⟩
    · intro A nA cA w4 left1 cnt1 ho hl hrg1 hl1 hlt hgr hsz hen
      subst ho
      obtain rfl : n = 0 := by
        rcases Hst.out with h | ⟨h, _⟩
        · exact h.2
        · exfalso
          have := hl (.int .i64 s.ep)
          rw [h, alD_has, alKey_self] at this
          cases this
      have HX : Hid (SpX w1 (A, nA, cA) s.waits) := HW
      have hb4 : Below w1.heap.size w1 w4 := hb.trans ⟨hgr.os, hgr.tape, hgr.output, hgr.size, fun j hj => hgr.block j (by have := hb.size; omega) (by intro e; injection e with e; omega)⟩
      have hf := Lib.hid (total_any A nA cA s.waits w4 HX.out.len (HX.out.keep hb4).at_.src (by have h1 : nA = s.waits.length := HX.out.len; have := HN.out; omega))
      have HR1 := Lib.hid hrg1
      have HH := Lib.hid hl1
      clear hrg1 hgr hb hrg
      go_wp2_with fail
      refine hf.out.mono ?_
      rintro e w5 ⟨rfl, hb5⟩
      have hT := HT.out
      have HR5 := Lib.hid (HR1.out.kept (row := none) ⟨hb5.os, hb5.tape, hb5.output, hb5.size, fun j hj _ => hb5.block j hj⟩ (by simp) (by simp))
      have hb6 := hb4.trans (hb5.mono hb4.size)
      have hl5 := HR5.out.left_eq
      clear hb5 hb4
      go_wp2_with fail
      go_roundw
      case rel => exact ⟨Spans.totalL s.waits, by go_num, left1, cnt1, HR5.out, hb6, .inr ⟨HH.out, rfl⟩⟩
      case measure => omega

set_option maxRecDepth 100000 in
theorem alloc_used {w : World} {p m k : Nat} {s : AlS} {F S : SlV} {o : Option SlV} (h : AlAt w p m k s F S o) (hok : AlOk s) :
    Calls Try.prog 15 #[.pointer (some ⟨p, 0, none⟩)] w fun e w' => e = .returned (.int .i64 (s.hi - s.lo - Spans.totalL s.free - Spans.totalL s.waits)) ∧ Below w.heap.size w w' := by
  have HA := Lib.hid h
  have hbd := Spans.total_bounds (l := s.free)
  have hbw := Spans.total_bounds (l := s.waits)
  have hlo := hok.lo0
  have hlh := hok.lohi
  have hh1 := hok.hi1
  have HO := Lib.hid hok
  have hlt := h.ltP
  have HF : ∀ w1, Below w.heap.size w w1 → Calls Try.prog 13 #[.pointer (some ⟨p, 0, none⟩)] w1 fun e w' => e = .returned (.int .i64 (Spans.totalL s.free)) ∧ Below w1.heap.size w1 w' := fun w1 hb => alloc_free (h.keep hb) hok
  have HG : ∀ w1, Below w.heap.size w w1 → Calls Try.prog 14 #[.pointer (some ⟨p, 0, none⟩)] w1 fun e w' => e = .returned (.int .i64 (Spans.totalL s.waits)) ∧ Below w1.heap.size w1 w' := fun w1 hb => alloc_waiting (h.keep hb) hok
  have HF := Lib.hid HF
  have HG := Lib.hid HG
  have HC0 := Lib.hid h.c0
  have HC1 := Lib.hid h.c1
  clear h hok
  generalize Spans.totalL s.free = f at *
  generalize Spans.totalL s.waits = g at *
  generalize s.lo = lo at *
  generalize s.hi = hi at *
  go_enter Try.func15, Try.ntmps15
  go_wp2_with fail
  refine (alloc_made HA.out).mono ?_
  rintro e w1 ⟨rfl, rfl⟩
  have c0 : ∀ g' : Above w1.drew, g'.1.cell? ⟨p, 0, none⟩ = some (.int .i64 lo) := fun g' => (g'.2.cell (p := ⟨p, 0, none⟩) hlt).trans HC0.out
  have c1 : ∀ g' : Above w1.drew, g'.1.cell? ⟨p, 1, none⟩ = some (.int .i64 hi) := fun g' => (g'.2.cell (p := ⟨p, 1, none⟩) hlt).trans HC1.out
  go_wp2_with fail
  refine wp_region_segs [([0, 1, 2, 3, 4, 5, 6, 7, 8, 9, 12], 10), ([11], 13)] [14, 15] (by kernel_rfl) (by kernel_rfl) (by kernel_rfl) (by kernel_rfl) (fun _ _ d _ _ h => by cases d <;> exact h) ?_
  refine wpSegs_next (by simp [pickOps]; rfl) ?_
  repeat (go_big_quiet_step (fail))
  refine wpQuiet_nil ?_
  refine wpOp_alone rfl rfl (fun K hK => ?_)
  go_simp
  refine (HF.out _ (Below.refl _ _).drew).mono ?_
  rintro e w2 ⟨rfl, hb2⟩
  refine hK _ _ ⟨hb2, ?_⟩
  have hb2' : Below w1.heap.size w1 w2 := (Below.refl _ _).drew.trans hb2
  clear hK K hb2 c0 c1
  refine wpSegs_next (by simp [pickOps]; rfl) ?_
  repeat (go_big_quiet_step (fail))
  refine wpQuiet_nil ?_
  refine wpOp_alone rfl rfl (fun K hK => ?_)
  go_simp
  refine (HG.out _ hb2').mono ?_
  rintro e w3 ⟨rfl, hb3⟩
  refine hK _ _ ⟨hb3, ?_⟩
  have hb3' : Below w1.heap.size w1 w3 := hb2'.trans (hb3.mono hb2'.size)
  clear hK K hb3 hb2'
  refine wpSegs_last (by simp [pickOps]; rfl) ?_
  repeat (go_big_quiet_step (fail))
  refine wpQuiet_nil ?_
  go_wp2_with fail
  go_ret
  exact ⟨rfl, hb3'⟩
theorem alloc_spans {w : World} {p m k : Nat} {s : AlS} {F S : SlV} {o : Option SlV} (h : AlAt w p m k s F S o) (hok : AlOk s) :
    Calls Try.prog 16 #[.pointer (some ⟨p, 0, none⟩)] w (GivesS w 23 s.free) := by
  have HA := Lib.hid h
  have HX := Lib.hid h.free
  have HN : Hid (F.2.1 ≤ 40000) := Lib.hid (by have h1 := h.free.len; have := hok.nf; omega)
  have hlt := h.ltP
  have HC4 := Lib.hid h.c4
  clear h hok
  obtain ⟨A, n, c⟩ := F
  go_enter Try.func16, Try.ntmps16
  go_wp2_with fail
  refine (alloc_made HA.out).mono ?_
  rintro e w1 ⟨rfl, rfl⟩
  have hbe : Below w1.heap.size w1 (w1.alloc (.cells #[] 23)) := (Below.refl _ _).alloc (Nat.le_refl _) _
  have HL : Hid (n = s.free.length) := Lib.hid HX.out.len
  have HS2 := Lib.hid (HX.out.at_.src.keep hbe)
  have c4 : (w1.alloc (.cells #[] 23)).cell? ⟨p, 4, none⟩ = some (.slice A n c) := (hbe.cell (p := ⟨p, 4, none⟩) hlt).trans HC4.out
  go_wp2_with (at_builtin; refine wpList_append_sp Try.spans rfl _ _ rfl w1.heap.size _ 0 0 [] rfl rfl (spown_made w1 _ _ (Nat.le_refl _)) A n c s.free rfl HL.out HS2.out (by have := HN.out; simp at *; omega) (by simp) ?_; rintro v' w4 ⟨A4, n4, c4', rfl, hn4, ho4, hb4⟩; have HN4 := Lib.hid hn4; have HO5 := Lib.hid ho4; clear hn4 ho4)
  go_ret
  exact ⟨_, rfl, A4, n4, c4', rfl, HN4.out, HO5.out, hbe.trans hb4⟩
end Go.Proofs.Ytnlkljmboifnkaa

/- Take on an alloc. No conditions but those that stand in each lemma. -/
import Derived.Test.YtnlkljmboifnkaaAlLooks
import Derived.Test.YtnlkljmboifnkaaAlNums
namespace Go.Proofs.Ytnlkljmboifnkaa
open Go.RowKit Go.Maps

/-- Are there so many free ones side by side, and are enough left? -/
def alFits (s : AlS) (n : Int) (spare : Bool) : Bool := decide (0 ≤ Spans.findL s.free n) && (spare || decide (s.res ≤ Spans.totalL s.free - n))
/-- What is free behind a Take. -/
def alTaken (s : AlS) (n : Int) : AlS := { s with free := Spans.remL s.free (Spans.findL s.free n, Spans.findL s.free n + n) }

set_option maxRecDepth 100000 in
set_option maxHeartbeats 2000000 in
theorem take_no {w : World} {p m k : Nat} {s : AlS} {F S : SlV} {o : Option SlV} (h : AlAt w p m k s F S o) (hok : AlOk s) (n : Int) (h1 : 1 ≤ n) (h2 : n ≤ 1000000000000000000) (spare : Bool) (hf : alFits s n spare = false) :
    Calls Try.prog 7 #[.pointer (some ⟨p, 0, none⟩), .int .i64 n, .bool spare] w fun e w' => e = .returned (.tuple #[.int .i64 0, .int .i64 15]) ∧ Below w.heap.size w w' := by
  have g1 : ¬ n < 1 := by omega
  have c4 := h.c4
  have HFI := Lib.hid (find_any F.1 F.2.1 F.2.2 s.free n w h.free.len h.free.at_.src (by have h1 := h.free.len; have := hok.nf; omega))
  have hlo := Spans.findL_lo s.free n
  have htop := Spans.findL_top s.free n
  have hbd := Spans.total_bounds (l := s.free)
  have hr0 := hok.res0
  have hr1 := hok.res1
  have HA := Lib.hid h
  have HO := Lib.hid hok
  have HFT := Lib.hid hf
  unfold alFits at HFT
  clear h hok hf
  generalize Spans.findL s.free n = at_ at *
  generalize hT : Spans.totalL s.free = T at *
  have HT := Lib.hid hT
  clear hT
  go_enter Try.func7, Try.ntmps7
  go_wp2_with fail
  refine (alloc_made HA.out).mono ?_
  rintro e w1 ⟨rfl, rfl⟩
  go_wp2_with fail
  refine HFI.out.mono ?_
  rintro e w2 ⟨rfl, hb⟩
  have HB := Lib.hid hb
  have HAB := Lib.hid (HA.out.keep hb)
  have hplt := HAB.out.ltP
  have c2 := Row.above HAB.out.obj.drew (j := 2) (v := .int .i64 s.res) rfl
  clear hb c4 HFI HA
  generalize hres : s.res = res at *
  by_cases ha : at_ < 0
  · have d1 : decide (at_ < 0) = true := by simp; omega
    go_wp2_with fail
    go_quiet (fail)
    go_wp2_with fail
    go_ret2
    exact ⟨rfl, below_drewN HB.out _⟩
  · have hft := HFT.out
    rw [Bool.and_eq_false_iff] at hft
    have hft2 := hft.resolve_left (by simp; omega)
    rw [Bool.or_eq_false_iff] at hft2
    obtain ⟨rfl, hft3⟩ := hft2
    have hlow : T - n < res := by simpa using hft3
    clear hft hft3 HFT
    have d1 : decide (at_ < 0) = false := by simp; omega
    have d2 : decide (T - n < res) = true := by simp; omega
    go_wp2_with fail
    refine wp_region_segs [([0, 1, 2, 3, 4, 5, 6, 8, 10, 11, 12, 13], 7)] [9, 14, 15, 16] (by kernel_rfl) (by kernel_rfl) (by kernel_rfl) (by kernel_rfl) (fun _ _ d _ _ h => by cases d <;> exact h) ?_
    refine wpSegs_next (by simp [pickOps]; rfl) ?_
    repeat (go_big_quiet_step (fail))
    refine wpQuiet_nil ?_
    refine wpOp_alone rfl rfl (fun K hK => ?_)
    go_simp
    refine (alloc_free (HAB.out.keep (Below.refl _ _).drew) HO.out).mono ?_
    rintro e w3 ⟨rfl, hb⟩
    rw [HT.out]
    refine hK _ _ ⟨hb, ?_⟩
    have HB3 := Lib.hid (HB.out.trans (((Below.refl _ _).drew.trans hb).mono HB.out.size))
    clear hK K hb c2
    refine wpSegs_last (by simp [pickOps]; rfl) ?_
    repeat (go_big_quiet_step (fail))
    refine wpQuiet_nil ?_
    go_wp2_with fail
    go_ret2
    exact ⟨rfl, HB3.out⟩

theorem alStored {w : World} {p m k : Nat} {s : AlS} {F S : SlV} {o : Option SlV} (h : AlAt w p m k s F S o) {l : List Sp} {e : Ending} {w' : World} (hg : GivesS w 23 l e w') :
    ∃ x : SlV, e = .returned (.slice x.1 x.2.1 x.2.2) ∧ Below w.heap.size w w' ∧ w'.frozen? ⟨p, 4, none⟩ = false ∧ AlAt w' p m k s F S o ∧ (SpX w' x l ∧ Away x l s.av) ∧ (Al (w'.setCell ⟨p, 4, none⟩ (.slice x.1 x.2.1 x.2.2)) p m k { s with free := l }) ∧ AlOth p m w (w'.setCell ⟨p, 4, none⟩ (.slice x.1 x.2.1 x.2.2)) := by
  obtain ⟨x, he, hx, hb, hfresh⟩ := spx_of_gives hg
  have hk := h.keep hb
  have hv : Away x l s.av := .fresh hfresh h.away.1
  exact ⟨x, he, hb, hk.obj.free 4, hk, ⟨hx, hv⟩, ⟨x, S, o, hk.setFree hx hv⟩, (AlOth.grow hb).trans (.set 4 _)⟩

set_option maxRecDepth 100000 in
set_option maxHeartbeats 2000000 in
theorem take_yes {w : World} {p m k : Nat} {s : AlS} {F S : SlV} {o : Option SlV} (h : AlAt w p m k s F S o) (hok : AlOk s) (n : Int) (h1 : 1 ≤ n) (h2 : n ≤ 1000000000000000000) (spare : Bool) (hf : alFits s n spare = true) :
    Calls Try.prog 7 #[.pointer (some ⟨p, 0, none⟩), .int .i64 n, .bool spare] w fun e w' => e = .returned (.tuple #[.int .i64 (Spans.findL s.free n), .int .i64 0]) ∧ AlOth p m w w' ∧ Al w' p m k (alTaken s n) := by
  have g1 : ¬ n < 1 := by omega
  have c4 := h.c4
  have HFI := Lib.hid (find_any F.1 F.2.1 F.2.2 s.free n w h.free.len h.free.at_.src (by have h1 := h.free.len; have := hok.nf; omega))
  have htop := Spans.findL_top s.free n
  have hbd := Spans.total_bounds (l := s.free)
  have hr0 := hok.res0
  have hr1 := hok.res1
  have HA := Lib.hid h
  have HO := Lib.hid hok
  unfold alFits at hf
  rw [Bool.and_eq_true] at hf
  obtain ⟨hf1, hf2⟩ := hf
  have ha : 0 ≤ Spans.findL s.free n := by simpa using hf1
  have hhi := Spans.findL_hi ha
  have HRM : ∀ w1, AlAt w1 p m k s F S o → Calls Try.prog 23 #[.slice F.1 F.2.1 F.2.2, .agg #[.int .i64 (Spans.findL s.free n), .int .i64 (Spans.findL s.free n + n)]] w1 (GivesS w1 23 (alTaken s n).free) :=
    fun w1 h1 => remove_any F.1 F.2.1 F.2.2 s.free _ _ w1 h1.free.len h1.free.at_.src (by have h2 := h1.free.len; have := hok.nf; omega)
  have HRM := Lib.hid HRM
  have HST : Hid (alTaken s n = { s with free := (alTaken s n).free }) := Lib.hid rfl
  generalize alTaken s n = s' at *
  clear h hok hf1
  generalize Spans.findL s.free n = at_ at *
  generalize hT : Spans.totalL s.free = T at *
  have HT := Lib.hid hT
  clear hT
  have d1 : decide (at_ < 0) = false := by simp; omega
  have d3 : ¬ at_ < 0 := by omega
  have HRE : ∃ res, s.res = res := ⟨_, rfl⟩
  obtain ⟨res, hres⟩ := HRE
  rw [hres] at hf2 hr0 hr1
  cases spare
  · have hlow : ¬ T - n < res := by simp at hf2; omega
    have d2 : decide (T - n < res) = false := by simp; omega
    clear hf2
    go_enter Try.func7, Try.ntmps7
    go_wp2_with fail
    refine (alloc_made HA.out).mono ?_
    rintro e w1 ⟨rfl, rfl⟩
    go_wp2_with fail
    refine HFI.out.mono ?_
    rintro e w2 ⟨rfl, hb⟩
    have HB := Lib.hid hb
    have HAB := Lib.hid (HA.out.keep hb)
    have c2 := Row.above HAB.out.obj.drew (j := 2) (v := .int .i64 res) (by rw [← hres]; rfl)
    clear hb c4 HFI HA
    go_wp2_with fail
    refine wp_region_segs [([0, 1, 2, 3, 4, 5, 6, 8, 10, 11, 12, 13], 7)] [9, 14, 15, 16] (by kernel_rfl) (by kernel_rfl) (by kernel_rfl) (by kernel_rfl) (fun _ _ d _ _ h => by cases d <;> exact h) ?_
    refine wpSegs_next (by simp [pickOps]; rfl) ?_
    repeat (go_big_quiet_step (fail))
    refine wpQuiet_nil ?_
    refine wpOp_alone rfl rfl (fun K hK => ?_)
    go_simp
    refine (alloc_free (HAB.out.keep (Below.refl _ _).drew) HO.out).mono ?_
    rintro e w3 ⟨rfl, hb⟩
    rw [HT.out]
    refine hK _ _ ⟨hb, ?_⟩
    have HB3 := Lib.hid (HB.out.trans (((Below.refl _ _).drew.trans hb).mono HB.out.size))
    have HAC := Lib.hid (HAB.out.keep ((Below.refl _ _).drew.trans hb))
    have c4 := HAC.out.c4
    clear hK K hb c2 HAB HB
    refine wpSegs_last (by simp [pickOps]; rfl) ?_
    repeat (go_big_quiet_step (fail))
    refine wpQuiet_nil ?_
    go_wp2_with fail
    refine (HRM.out _ HAC.out).mono ?_
    intro e w4 hg
    obtain ⟨x, rfl, hb4, hfr, hA4, hx4, hA5, ho5⟩ := alStored HAC.out hg
    have lc4 := hA4.c4
    have HA5 := Lib.hid hA5
    have HO5 := Lib.hid ((AlOth.grow HB3.out).trans ho5)
    clear hA4 hx4 hA5 ho5 hb4 c4 hg
    go_wp2_with fail
    go_ret2
    exact ⟨rfl, HO5.out, by rw [HST.out]; exact HA5.out⟩
  · go_enter Try.func7, Try.ntmps7
    go_wp2_with fail
    refine (alloc_made HA.out).mono ?_
    rintro e w1 ⟨rfl, rfl⟩
    go_wp2_with fail
    refine HFI.out.mono ?_
    rintro e w2 ⟨rfl, hb⟩
    have HB := Lib.hid hb
    have HAC := Lib.hid (HA.out.keep hb)
    clear hb c4 HFI HA
    go_wp2_with fail
    go_quiet (fail)
    have HAC := Lib.hid (HAC.out.keep (below_drewN (Below.refl _ _) nq))
    have HB3 := Lib.hid (below_drewN HB.out nq)
    have c4 := HAC.out.c4
    generalize w2.drewN nq = w3 at *
    go_wp2_with fail
    refine (HRM.out _ HAC.out).mono ?_
    intro e w4 hg
    obtain ⟨x, rfl, hb4, hfr, hA4, hx4, hA5, ho5⟩ := alStored HAC.out hg
    have lc4 := hA4.c4
    have HA5 := Lib.hid hA5
    have HO5 := Lib.hid ((AlOth.grow HB3.out).trans ho5)
    clear hA4 hx4 hA5 ho5 hb4 c4 hg
    go_wp2_with fail
    go_ret2
    exact ⟨rfl, HO5.out, by rw [HST.out]; exact HA5.out⟩
end Go.Proofs.Ytnlkljmboifnkaa

/- Are spans, and one that is held against them, what they must be: the program's way (any list of at most 100000). No conditions but those that stand in each lemma. -/
import Derived.Test.YtnlkljmboifnkaaSpValid
namespace Go.Proofs.Ytnlkljmboifnkaa
open Go.RowKit

theorem fitB_of {l : List Sp} {s : Sp} {t u : Bool} (ht : Spans.validB l = t) (hu : Spans.rightB s = u) : Spans.fitB l s = (t && u) := by unfold Spans.fitB; rw [ht, hu]
set_option maxHeartbeats 1000000 in
theorem fit_any (A : Option Addr) (n c : Nat) (l : List Sp) (x y : Int) (w : World) (hn : n = l.length) (hs : SpSrc w A l) (hl : n ≤ 100000) :
    Calls Try.prog 30 #[.slice A n c, .agg #[.int .i64 x, .int .i64 y]] w fun e w' => e = .returned (.bool (Spans.fitB l (x, y))) ∧ Below w.heap.size w w' := by
  have HV : ∀ w1, Below w.heap.size w w1 → Calls Try.prog 29 #[.slice A n c] w1 fun e w' => e = .returned (.bool (Spans.validB l)) ∧ Below w1.heap.size w1 w' := fun w1 hb => valid_any A n c l w1 hn (hs.keep hb) hl
  have HR : ∀ w1, Calls Try.prog 33 #[.agg #[.int .i64 x, .int .i64 y]] w1 fun e w' => e = .returned (.bool (Spans.rightB (x, y))) ∧ Below w1.heap.size w1 w' := right_any x y
  have HB := fun (t u : Bool) => @fitB_of l (x, y) t u
  obtain ⟨t, ht⟩ : ∃ t, Spans.validB l = t := ⟨_, rfl⟩
  obtain ⟨u, hu⟩ : ∃ u, Spans.rightB (x, y) = u := ⟨_, rfl⟩
  have HF := Lib.hid (HB t u ht hu)
  rw [ht] at HV
  rw [hu] at HR
  have HV2 := Lib.hid HV
  have HR2 := Lib.hid HR
  clear HV HR HB ht hu hn hs
  generalize Spans.fitB l (x, y) = f at *
  cases t
  all_goals
    go_enter Try.func30, Try.ntmps30
    go_wp2_with fail
    refine (HV2.out _ ((Below.refl _ _).alloc (Nat.le_refl _) _)).mono ?_
    rintro e w1 ⟨rfl, hb1⟩
    obtain ⟨d0, d1, hb2⟩ := sp_new hb1
    clear hb1
    go_wp2_with fail
  · go_ret
    exact ⟨ret_bool HF.out.symm, hb2⟩
  · refine (HR2.out _).mono ?_
    rintro e w2 ⟨rfl, hb3⟩
    have hb4 := hb2.trans (hb3.mono hb2.size)
    clear hb3 d0 d1
    go_wp2_with fail
    go_ret
    exact ⟨ret_bool (by rw [HF.out]; rfl), hb4⟩
end Go.Proofs.Ytnlkljmboifnkaa

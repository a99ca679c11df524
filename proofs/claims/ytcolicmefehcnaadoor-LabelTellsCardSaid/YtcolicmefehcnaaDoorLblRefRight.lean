/- The document's in and Right: for any label; nothing that was there is written. No conditions but those that stand in each lemma. -/
import Derived.Test.YtcolicmefehcnaaDoorLblNums
import Derived.Test.YtcolicmefehcnaaDoorPtrRefRight
import Derived.Test.YtcolicmefehcnaaDoorPtrRefNone
import Derived.IntWalk
namespace Go.Proofs.YtcolicmefehcnaaDoor
open Go.RowKit

theorem rnum_any (n : Int) (v : Bool) (w : World) (hv : inB 1 1152921504606846976 n = v) :
    Calls Tryd.prog 35 #[.int .i64 n] w fun e w' => e = .returned (.bool v) ∧ w = w' := by
  by_cases ha : 1 ≤ n
  · by_cases hb : n ≤ 1152921504606846976
    · have : v = true := by rw [← hv]; exact inB_iff.2 ⟨ha, hb⟩
      subst this
      clear hv
      have d1 : decide (1 ≤ n) = true := by simpa using ha
      have d2 : decide (n ≤ 1152921504606846976) = true := by simpa using hb
      go_enter Tryd.func35, Tryd.ntmps35
      go_wp2
      go_ret
      exact ⟨rfl, rfl⟩
    · have : v = false := by rw [← hv]; unfold inB; simp; omega
      subst this
      clear hv
      have d1 : decide (1 ≤ n) = true := by simpa using ha
      have d2 : decide (n ≤ 1152921504606846976) = false := by simpa using hb
      go_enter Tryd.func35, Tryd.ntmps35
      go_wp2
      go_ret
      exact ⟨rfl, rfl⟩
  · have : v = false := by rw [← hv]; unfold inB; simp; omega
    subst this
    clear hv
    have d1 : decide (1 ≤ n) = false := by simpa using ha
    go_enter Tryd.func35, Tryd.ntmps35
    go_wp2
    go_ret
    exact ⟨rfl, rfl⟩
set_option maxHeartbeats 1000000 in
theorem rlright_any (l : Lb) (w : World) (hl : l.Ok) :
    Calls Tryd.prog 18 #[.agg (lcells l)] w fun e w' => e = .returned (.bool l.right) ∧ Below w.heap.size w w' := by
  have r1 := Row.new w 34 (lcells l)
  have b1 : Below w.heap.size w (w.alloc (.cells (lcells l) 34)) := (Below.refl _ _).alloc (Nat.le_refl _) _
  have HS := Lib.hid hl.root.shaL
  have HO := Lib.hid hl.root
  have c0 := lrow_epoch r1
  have c37 := lrow_next r1 hl.root.shaL
  have HD := Lib.hid (show l.right = (inB 1 1152921504606846976 l.epoch && (inB 1 1152921504606846976 l.next && (l.root.none || (l.root.right && decide (l.root.birth ≤ l.epoch))))) from rfl)
  clear hl
  cases h1 : inB 1 1152921504606846976 l.epoch with
  | false =>
    have HR := Lib.hid (show false = l.right by rw [HD.out, h1]; rfl)
    have H1 := Lib.hid h1
    clear h1
    go_enter Tryd.func18, Tryd.ntmps18
    go_wp2_with fail
    refine (rnum_any l.epoch false _ H1.out).mono ?_
    rintro e w' ⟨rfl, rfl⟩
    go_wp2_with fail
    go_ret
    exact ⟨by rw [← HR.out]; rfl, b1⟩
  | true =>
    cases h2 : inB 1 1152921504606846976 l.next with
    | false =>
      have HR := Lib.hid (show false = l.right by rw [HD.out, h1, h2]; rfl)
      have H1 := Lib.hid h1
      have H2 := Lib.hid h2
      clear h1 h2
      go_enter Tryd.func18, Tryd.ntmps18
      go_wp2_with fail
      refine (rnum_any l.epoch true _ H1.out).mono ?_
      rintro e w' ⟨rfl, rfl⟩
      go_wp2_with fail
      refine (rnum_any l.next false _ H2.out).mono ?_
      rintro e w' ⟨rfl, rfl⟩
      go_wp2_with fail
      go_ret
      exact ⟨by rw [← HR.out]; rfl, b1⟩
    | true =>
      have HE := Lib.hid (show l.right = (l.root.none || (l.root.right && decide (l.root.birth ≤ l.epoch))) by rw [HD.out, h1, h2]; rfl)
      have H1 := Lib.hid h1
      have H2 := Lib.hid h2
      clear h1 h2
      go_enter Tryd.func18, Tryd.ntmps18
      go_wp2_with fail
      refine (rnum_any l.epoch true _ H1.out).mono ?_
      rintro e w' ⟨rfl, rfl⟩
      go_wp2_with fail
      refine (rnum_any l.next true _ H2.out).mono ?_
      rintro e w' ⟨rfl, rfl⟩
      go_wp2_with (refine wpList_loadRoot (.tmp 12) rfl rfl w.heap.size rfl l HS.out r1 ?_)
      refine (refNone_any l.root _ HO.out).mono ?_
      rintro e w2 ⟨rfl, hb2⟩
      have r2 := r1.keep hb2
      have b2 := b1.trans (hb2.mono b1.size)
      clear r1 b1 hb2 c0 c37
      cases hN : l.root.none with
      | true =>
        have HR := Lib.hid (show true = l.right by rw [HE.out, hN]; rfl)
        clear hN
        go_wp2_with fail
        go_ret
        exact ⟨by rw [← HR.out]; rfl, b2⟩
      | false =>
        have HF := Lib.hid (show l.right = (l.root.right && decide (l.root.birth ≤ l.epoch)) by rw [HE.out, hN]; rfl)
        clear hN
        go_wp2_with (refine wpList_loadRoot (.tmp 16) rfl rfl w.heap.size rfl l HS.out r2 ?_)
        refine (refRight_any l.root _ HO.out).mono ?_
        rintro e w3 ⟨rfl, hb3⟩
        have r3 := r2.keep hb3
        have b3 := b2.trans (hb3.mono b2.size)
        have c0 := lrow_epoch r3
        have cb := lrow_birth r3
        clear r2 b2 hb3
        cases hR : l.root.right with
        | false =>
          have HR := Lib.hid (show false = l.right by rw [HF.out, hR]; rfl)
          clear hR
          go_wp2_with fail
          go_ret
          exact ⟨by rw [← HR.out]; rfl, b3⟩
        | true =>
          have HR := Lib.hid (show decide (l.root.birth ≤ l.epoch) = l.right by rw [HF.out, hR]; rfl)
          clear hR
          go_wp2_with fail
          go_ret
          exact ⟨by rw [← HR.out]; rfl, b3⟩
end Go.Proofs.YtcolicmefehcnaaDoor

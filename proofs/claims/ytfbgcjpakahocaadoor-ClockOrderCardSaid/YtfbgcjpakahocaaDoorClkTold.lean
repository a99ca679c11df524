/- told of the program: a time, if a text is what is told of it. Nothing that was there is written. Conditions: the listed tables lie where they were laid, and those that stand in each lemma. -/
import Derived.Test.YtfbgcjpakahocaaDoorClkParts
namespace Go.Proofs.YtfbgcjpakahocaaDoor
open Go.RowKit
namespace Clk

/-- What is read: the right time that tells the text, or none. -/
def ReadTo (W : Tm → List Int) (xs : List Int) (e : Ending) : Prop :=
  (∃ t : Tm, t.Right ∧ W t = xs ∧ e = .returned (.tuple #[tmV t, .bool true])) ∨ ((∀ t : Tm, t.Right → W t ≠ xs) ∧ e = .returned (.tuple #[tmV Tm.zero, .bool false]))
theorem Tryd.resultsTold : Tryd.f41.results = #[.cell 6 23, .tmp 7] := by kernel_rfl
/-- What told answers. -/
def ToldTo (W : Tm → List Int) (t : Tm) (xs : List Int) (q : Tm) (b : Bool) : Prop := (tellW W t = xs ∧ q = t ∧ b = true) ∨ (tellW W t ≠ xs ∧ q = Tm.zero ∧ b = false)
set_option maxRecDepth 100000 in
set_option maxHeartbeats 1000000 in
theorem told_any (F : FuncId) (W : Tm → List Int) (t : Tm) (s : ByteArray) (w : World) (ht : Tabs w) (hx : IsBytes (tellW W t)) (eF : ∀ args w, (callFunc F args).run Tryd.prog w = .ok (.enter F args) w)
    (hC : ∀ w', Tabs w' → Calls Tryd.prog F #[tmV t] w' fun e w2 => e = .returned (.string (strOfNums (tellW W t))) ∧ Below w'.heap.size w' w2) :
    Calls Tryd.prog 41 #[tmV t, .func (Fn.func F) #[] #[], .string s] w fun e w' => ∃ q b, e = .returned (.tuple #[tmV q, .bool b]) ∧ ToldTo W t (numsOf s) q b ∧ Below w.heap.size w w' := by
  have Ht := Lib.hid ht
  have HC := Lib.hid hC
  have hE := str_eq (tellW W t) s hx
  have hE2 : ((strOfNums (tellW W t)).toList == s.toList) = decide (tellW W t = numsOf s) := by rw [← beq_toListBytes]; exact hE
  clear ht hC hx
  unfold ToldTo
  generalize strOfNums (tellW W t) = S at *
  unfold tmV at HC ⊢
  by_cases hx : tellW W t = numsOf s
  · have HX := Lib.hid hx
    rw [decide_eq_true hx] at hE hE2
    clear hx
    go_enter Tryd.func41, Tryd.ntmps41
    go_wp2_with (first
      | (refine wpList_boxT ttP rfl (.tmp 0) rfl t rfl ?_; intro W1 r1 b1 z1; have HT1 := Lib.hid (Ht.out.keep b1); have HR1 := Lib.hid r1; have HB1 := Lib.hid b1; clear b1)
      | (refine wpList_allocT ttP rfl rfl ?_; intro W2 r2 b2 z2; have lt : w.heap.size < W1.heap.size := (by omega); have HR2 := Lib.hid (HR1.out.keep b2); have HR3 := Lib.hid r2; have HT2 := Lib.hid (HT1.out.keep b2); have HB2 := Lib.hid (HB1.out.trans (b2.mono HB1.out.size)); clear b2 r2 r1 z1 z2)
      | (refine wpList_loadT ttP (.tmp 3) rfl rfl w.heap.size rfl t ?_ ?_; exact HR2.out))
    refine (HC.out _ HT2.out).mono ?_
    rintro e w3 ⟨rfl, hb3⟩
    have HR4 := Lib.hid (HR2.out.keep hb3)
    have HR5 := Lib.hid (HR3.out.keep hb3)
    have HB3 := Lib.hid (HB2.out.trans (hb3.mono HB2.out.size))
    clear hb3 HR2 HR3 HB2 HC HT2 HT1 HB1 HR1
    go_wp2_with (first
      | (refine wpList_loadT ttP (.tmp 3) rfl rfl w.heap.size rfl t ?_ ?_; exact HR4.out)
      | (refine wpList_storeT ttP rfl (.tmp 6) (.tmp 14) rfl W1.heap.size rfl t rfl Tm.zero ?_ ?_; exact HR5.out; intro W9 r9 o9; have HB9 := Lib.hid (HB3.out.trans (o9.below.mono (Nat.le_of_lt lt)))))
    refine bodyPost_ret (v := .tuple #[tmV t, .bool true]) ?_ rfl ?_
    · exact results_time_tmp ttP Tryd.resultsTold _ _ W1.heap.size _ rfl r9
    · exact ⟨t, true, rfl, .inl ⟨HX.out, rfl, rfl⟩, HB9.out⟩
  · have HX := Lib.hid hx
    rw [decide_eq_false hx] at hE hE2
    clear hx
    go_enter Tryd.func41, Tryd.ntmps41
    go_wp2_with (first
      | (refine wpList_boxT ttP rfl (.tmp 0) rfl t rfl ?_; intro W1 r1 b1 z1; have HT1 := Lib.hid (Ht.out.keep b1); have HR1 := Lib.hid r1; have HB1 := Lib.hid b1; clear b1)
      | (refine wpList_allocT ttP rfl rfl ?_; intro W2 r2 b2 z2; have lt : w.heap.size < W1.heap.size := (by omega); have HR2 := Lib.hid (HR1.out.keep b2); have HR3 := Lib.hid r2; have HT2 := Lib.hid (HT1.out.keep b2); have HB2 := Lib.hid (HB1.out.trans (b2.mono HB1.out.size)); clear b2 r2 r1 z1 z2)
      | (refine wpList_loadT ttP (.tmp 3) rfl rfl w.heap.size rfl t ?_ ?_; exact HR2.out))
    refine (HC.out _ HT2.out).mono ?_
    rintro e w3 ⟨rfl, hb3⟩
    have HR5 := Lib.hid (HR3.out.keep hb3)
    have HB3 := Lib.hid (HB2.out.trans (hb3.mono HB2.out.size))
    clear hb3 HR2 HR3 HB2 HC HT2 HT1 HB1 HR1
    go_wp2_with (first
      | (refine wpList_storeT ttP rfl (.tmp 6) (.tmp 13) rfl W1.heap.size rfl Tm.zero rfl Tm.zero ?_ ?_; exact HR5.out; intro W9 r9 o9; have HB9 := Lib.hid (HB3.out.trans (o9.below.mono (Nat.le_of_lt lt)))))
    refine bodyPost_ret (v := .tuple #[tmV Tm.zero, .bool false]) ?_ rfl ?_
    · exact results_time_tmp ttP Tryd.resultsTold _ _ W1.heap.size _ rfl r9
    · exact ⟨Tm.zero, false, rfl, .inr ⟨HX.out, rfl, rfl⟩, HB9.out⟩
end Clk
end Go.Proofs.YtfbgcjpakahocaaDoor

/- formed: whether all of a node is right, but for how many bytes it has; nothing that was there is written. No conditions but those that stand in each lemma. -/
import Derived.Test.YtnoofmdhhlcbkaaLfForm
namespace Go.Proofs.Ytnoofmdhhlcbkaa
open Go.RowKit
namespace Lf
open Els

/-- All of a node is right, but for how many bytes, and keys, it has. -/
structure Formed (n : Nd) : Prop where
  lo : 0 ≤ n.level
  hi : n.level ≤ 12
  one : 1 ≤ n.keys.length
  leaf : n.level = 0 → n.vals.length = n.keys.length ∧ n.kids.length = 0
  above : 0 < n.level → n.kids.length = n.keys.length ∧ n.vals.length = 0
  rise : Rising n.keys
  short : Short_ n.keys 160
  vals : Short_ n.vals 1024
  kids : AllRight n.kids
theorem Formed.shape {n : Nd} (h : Formed n) (hk : n.keys.length ≤ 4096) : Shape n := by
  refine ⟨⟨h.lo, h.hi, h.one, hk, h.leaf, h.above⟩, fun i hi => ?_, fun i hi => ?_⟩
  · unfold keyOk
    rw [Bool.and_eq_true, decide_eq_true_eq, Bool.or_eq_true, decide_eq_true_eq]
    refine ⟨by have := h.short i hi; unfold Nd.key; omega, ?_⟩
    rcases i with _ | i
    · exact .inl rfl
    · right
      rw [last_next]
      exact h.rise i hi
  · unfold bodyOk
    split
    · rename_i h0
      rw [decide_eq_true_eq]
      have := h.vals i (by have := (h.leaf h0).1; omega)
      unfold Nd.val
      omega
    · rename_i h0
      have := h.lo
      exact h.kids i (by have := (h.above (by omega)).1; omega)
theorem Shape.formed {n : Nd} (h : Shape n) : Formed n := by
  have hlo := h.start.lo
  refine ⟨h.start.lo, h.start.hi, h.start.one, h.start.leaf, h.start.above, fun i hi => h.rises hi, fun i hi => by have := h.keyLen hi; unfold Nd.key at this; omega, fun i hi => ?_, fun i hi => ?_⟩
  · by_cases h0 : n.level = 0
    · have := h.valLen h0 (i := i) (by have := (h.start.leaf h0).1; omega)
      unfold Nd.val at this
      omega
    · have := (h.start.above (by omega)).2; omega
  · by_cases h0 : n.level = 0
    · have := (h.start.leaf h0).2; omega
    · exact h.kidRight (by omega) (by have := (h.start.above (by omega)).1; omega)
def FormedAt (n : Nd) (A1 : Option Addr) (c1 : Nat) (A2 : Option Addr) (c2 : Nat) (A3 : Option Addr) (c3 : Nat) (w : World) : Prop :=
  Calls Try.prog 18 #[.agg (ndC n A1 c1 A2 c2 A3 c3)] w (Tells (Formed n) w)
set_option maxHeartbeats 4000000 in
theorem formed_no {n : Nd} {A1 : Option Addr} {c1 : Nat} {A2 : Option Addr} {c2 : Nat} {A3 : Option Addr} {c3 : Nat} {w : World} (hk : n.keys.length ≤ 9223372036854775807) (lo : -9223372036854775808 ≤ n.level) (hi : n.level ≤ 9223372036854775807)
    (h : n.level < 0 ∨ 12 < n.level ∨ n.keys.length = 0) : FormedAt n A1 c1 A2 c2 A3 c3 w := by
  have HN : Hid (¬ Formed n) := fun f => by have := f.lo; have := f.hi; have := f.one; omega
  unfold FormedAt
  by_cases h1 : n.level < 0
  · clear h
    go_enter Try.func18, Try.ntmps18
    go_wp2_with (refine wpList_boxN rfl _ rfl rfl ?_; intro w1 hr1 hb1 hz1; have r0 := row_level hr1; have r1 := row_keys hr1; clear hr1)
    go_ret
    exact Tells.no HN.out hb1
  · by_cases h2 : 12 < n.level
    · clear h
      have t1 : decide (n.level < 0) = false := by simp; omega
      go_enter Try.func18, Try.ntmps18
      go_wp2_with (refine wpList_boxN rfl _ rfl rfl ?_; intro w1 hr1 hb1 hz1; have r0 := row_level hr1; have r1 := row_keys hr1; clear hr1)
      go_ret
      exact Tells.no HN.out hb1
    · have h3 : n.keys.length = 0 := by omega
      have t1 : decide (n.level < 0) = false := by simp; omega
      have t2 : decide ((12 : Int) < n.level) = false := by simp; omega
      clear h
      go_enter Try.func18, Try.ntmps18
      go_wp2_with (refine wpList_boxN rfl _ rfl rfl ?_; intro w1 hr1 hb1 hz1; have r0 := row_level hr1; have r1 := row_keys hr1; rw [h3] at r1; clear hr1)
      go_ret
      exact Tells.no HN.out hb1
/- formed's two ways -/
set_option maxHeartbeats 8000000 in
theorem formed_leaf {n : Nd} {A1 : Option Addr} {c1 : Nat} {ks : List Value} {A2 : Option Addr} {c2 : Nat} {vs : List Value} {A3 : Option Addr} {c3 : Nat} {w : World} (at_ : NdAt w n A1 c1 ks A2 c2 vs A3 c3) (ok : n.Ok) (hone : 1 ≤ n.keys.length) (h0 : n.level = 0) : FormedAt n A1 c1 A2 c2 A3 c3 w := by
  have HAt := Lib.hid at_
  have Hok := Lib.hid ok
  have m1 : n.keys.length ≤ 9223372036854775807 := by have := at_.keys.cap; have := at_.keys.max; unfold maxLen at this; omega
  have m2 : n.vals.length ≤ 9223372036854775807 := by have := at_.vals.cap; have := at_.vals.max; unfold maxLen at this; omega
  have m3 : n.kids.length ≤ 9223372036854775807 := by have := at_.cap; have := at_.max; unfold maxLen at this; omega
  clear at_ ok
  have H0 := Lib.hid h0
  have t1 : decide (n.level < 0) = false := by simp; omega
  have t2 : decide ((12 : Int) < n.level) = false := by simp; omega
  have t4 : decide ((0 : Int) < n.level) = false := by simp; omega
  clear h0
  have t3 : ((n.keys.length : Int) == 0) = false := beq_eq_false_iff_ne.2 (by omega)
  have t3' : n.keys.length ≠ 0 := by omega
  unfold FormedAt
  by_cases hv : n.vals.length = n.keys.length
  · by_cases hp : n.kids.length = 0
    · have HV := Lib.hid hv
      have HP := Lib.hid hp
      go_enter Try.func18, Try.ntmps18
      go_wp2_with (refine wpList_boxN rfl _ rfl rfl ?_; intro w1 hr1 hb1 hz1; have r0 := row_level hr1; have r1 := row_keys hr1; have r2 := row_vals hr1; have r3 := row_kids hr1; rw [hv] at r2; rw [hp] at r3; have HR := Lib.hid hr1; have HB := Lib.hid hb1; clear hr1 hb1)
      clear r0 r1 r2 r3 hv hp
      refine (rising_any A1 n.keys.length c1 ks n.keys _ rfl (HAt.out.keys.keep HB.out) Hok.out.keysB).mono ?_
      rintro e w2 ⟨x1, rfl, h1, hb2⟩
      have b2 := HB.out.trans (hb2.mono HB.out.size)
      have HR2 := Lib.hid (HR.out.keep hb2)
      clear HB HR hb2
      cases x1 with
      | false =>
        have H := Lib.hid h1
        clear h1
        go_wp2_with fail
        go_ret
        exact Tells.no (fun f => by have := H.out.2 f.rise; cases this) b2
      | true =>
        have H1 := Lib.hid (h1.1 rfl)
        clear h1
        have r1 := row_keys HR2.out
        go_wp2_with fail
        clear r1
        refine (nwithin_any A1 n.keys.length c1 ks n.keys 160 _ rfl (HAt.out.keys.keep b2)).mono ?_
        rintro e w3 ⟨x2, rfl, h2, hb3⟩
        have b3 := b2.trans (hb3.mono b2.size)
        have HR3 := Lib.hid (HR2.out.keep hb3)
        clear b2 HR2 hb3
        cases x2 with
        | false =>
          have H := Lib.hid h2
          clear h2
          go_wp2_with fail
          go_ret
          exact Tells.no (fun f => by have := H.out.2 f.short; cases this) b3
        | true =>
          have H2 := Lib.hid (h2.1 rfl)
          clear h2
          have r2 := row_vals HR3.out
          go_wp2_with fail
          clear r2
          refine (nwithin_any A2 n.vals.length c2 vs n.vals 1024 _ rfl (HAt.out.vals.keep b3)).mono ?_
          rintro e w4 ⟨x3, rfl, h3, hb4⟩
          have b4 := b3.trans (hb4.mono b3.size)
          have HR4 := Lib.hid (HR3.out.keep hb4)
          clear b3 HR3 hb4
          cases x3 with
          | false =>
            have H := Lib.hid h3
            clear h3
            go_wp2_with fail
            go_ret
            exact Tells.no (fun f => by have := H.out.2 f.vals; cases this) b4
          | true =>
            have H3 := Lib.hid (h3.1 rfl)
            clear h3
            have r3 := row_kids HR4.out
            go_wp2_with fail
            clear r3
            refine (allBlocks_any A3 n.kids.length c3 n.kids _ rfl (HAt.out.kids.keep b4) Hok.out.kidsB HAt.out.cap HAt.out.max).mono ?_
            rintro e w5 ⟨x4, rfl, h4, hb5⟩
            have b5 := b4.trans (hb5.mono b4.size)
            have H4 := Lib.hid h4
            clear b4 HR4 hb5 h4
            go_wp2_with fail
            go_ret
            exact ⟨x4, rfl, by rw [H4.out]; exact ⟨fun h => ⟨by have := H0.out; omega, by have := H0.out; omega, hone, fun _ => ⟨HV.out, HP.out⟩, fun hh => by have := H0.out; omega, H1.out, H2.out, H3.out, h⟩, fun f => f.kids⟩, b5⟩
    · have HP : Hid (¬ Formed n) := fun f => hp ((f.leaf H0.out).2)
      have t5 : ((n.kids.length : Int) == ((0 : Nat) : Int)) = false := by rw [beq_eq_false_iff_ne]; omega
      have t6 : (n.kids.length == 0) = false := by simpa using hp
      have t7 : ((n.kids.length : Int) == 0) = false := by rw [beq_eq_false_iff_ne]; omega
      go_enter Try.func18, Try.ntmps18
      go_wp2_with (refine wpList_boxN rfl _ rfl rfl ?_; intro w1 hr1 hb1 hz1; have r0 := row_level hr1; have r1 := row_keys hr1; have r2 := row_vals hr1; have r3 := row_kids hr1; rw [hv] at r2; have HR := Lib.hid hr1; have HB := Lib.hid hb1; clear hr1 hb1)
      go_ret
      exact Tells.no HP.out HB.out
  · have HV : Hid (¬ Formed n) := fun f => hv ((f.leaf H0.out).1)
    have t5 : ((n.vals.length : Int) == ((n.keys.length : Nat) : Int)) = false := by rw [beq_eq_false_iff_ne]; omega
    have t6 : (n.vals.length == n.keys.length) = false := by simpa using hv
    have t7 : ((n.vals.length : Int) == (n.keys.length : Int)) = false := by rw [beq_eq_false_iff_ne]; omega
    go_enter Try.func18, Try.ntmps18
    go_wp2_with (refine wpList_boxN rfl _ rfl rfl ?_; intro w1 hr1 hb1 hz1; have r0 := row_level hr1; have r1 := row_keys hr1; have r2 := row_vals hr1; have r3 := row_kids hr1; have HR := Lib.hid hr1; have HB := Lib.hid hb1; clear hr1 hb1)
    go_ret
    exact Tells.no HV.out HB.out
set_option maxHeartbeats 8000000 in
theorem formed_above {n : Nd} {A1 : Option Addr} {c1 : Nat} {ks : List Value} {A2 : Option Addr} {c2 : Nat} {vs : List Value} {A3 : Option Addr} {c3 : Nat} {w : World} (at_ : NdAt w n A1 c1 ks A2 c2 vs A3 c3) (ok : n.Ok) (hone : 1 ≤ n.keys.length) (h0 : 0 < n.level) (h12 : n.level ≤ 12) : FormedAt n A1 c1 A2 c2 A3 c3 w := by
  have HAt := Lib.hid at_
  have Hok := Lib.hid ok
  have m1 : n.keys.length ≤ 9223372036854775807 := by have := at_.keys.cap; have := at_.keys.max; unfold maxLen at this; omega
  have m2 : n.vals.length ≤ 9223372036854775807 := by have := at_.vals.cap; have := at_.vals.max; unfold maxLen at this; omega
  have m3 : n.kids.length ≤ 9223372036854775807 := by have := at_.cap; have := at_.max; unfold maxLen at this; omega
  clear at_ ok
  have t1 : decide (n.level < 0) = false := by simp; omega
  have t2 : decide ((12 : Int) < n.level) = false := by simp; omega
  have t4 : decide ((0 : Int) < n.level) = true := by simp; omega
  have t3 : ((n.keys.length : Int) == 0) = false := beq_eq_false_iff_ne.2 (by omega)
  have t3' : n.keys.length ≠ 0 := by omega
  unfold FormedAt
  by_cases hv : n.vals.length = 0
  · by_cases hp : n.kids.length = n.keys.length
    · have HV := Lib.hid hv
      have HP := Lib.hid hp
      go_enter Try.func18, Try.ntmps18
      go_wp2_with (refine wpList_boxN rfl _ rfl rfl ?_; intro w1 hr1 hb1 hz1; have r0 := row_level hr1; have r1 := row_keys hr1; have r2 := row_vals hr1; have r3 := row_kids hr1; rw [hv] at r2; rw [hp] at r3; have HR := Lib.hid hr1; have HB := Lib.hid hb1; clear hr1 hb1)
      clear r0 r1 r2 r3 hv hp
      refine (rising_any A1 n.keys.length c1 ks n.keys _ rfl (HAt.out.keys.keep HB.out) Hok.out.keysB).mono ?_
      rintro e w2 ⟨x1, rfl, h1, hb2⟩
      have b2 := HB.out.trans (hb2.mono HB.out.size)
      have HR2 := Lib.hid (HR.out.keep hb2)
      clear HB HR hb2
      cases x1 with
      | false =>
        have H := Lib.hid h1
        clear h1
        go_wp2_with fail
        go_ret
        exact Tells.no (fun f => by have := H.out.2 f.rise; cases this) b2
      | true =>
        have H1 := Lib.hid (h1.1 rfl)
        clear h1
        have r1 := row_keys HR2.out
        go_wp2_with fail
        clear r1
        refine (nwithin_any A1 n.keys.length c1 ks n.keys 160 _ rfl (HAt.out.keys.keep b2)).mono ?_
        rintro e w3 ⟨x2, rfl, h2, hb3⟩
        have b3 := b2.trans (hb3.mono b2.size)
        have HR3 := Lib.hid (HR2.out.keep hb3)
        clear b2 HR2 hb3
        cases x2 with
        | false =>
          have H := Lib.hid h2
          clear h2
          go_wp2_with fail
          go_ret
          exact Tells.no (fun f => by have := H.out.2 f.short; cases this) b3
        | true =>
          have H2 := Lib.hid (h2.1 rfl)
          clear h2
          have r2 := row_vals HR3.out
          go_wp2_with fail
          clear r2
          refine (nwithin_any A2 n.vals.length c2 vs n.vals 1024 _ rfl (HAt.out.vals.keep b3)).mono ?_
          rintro e w4 ⟨x3, rfl, h3, hb4⟩
          have b4 := b3.trans (hb4.mono b3.size)
          have HR4 := Lib.hid (HR3.out.keep hb4)
          clear b3 HR3 hb4
          cases x3 with
          | false =>
            have H := Lib.hid h3
            clear h3
            go_wp2_with fail
            go_ret
            exact Tells.no (fun f => by have := H.out.2 f.vals; cases this) b4
          | true =>
            have H3 := Lib.hid (h3.1 rfl)
            clear h3
            have r3 := row_kids HR4.out
            go_wp2_with fail
            clear r3
            refine (allBlocks_any A3 n.kids.length c3 n.kids _ rfl (HAt.out.kids.keep b4) Hok.out.kidsB HAt.out.cap HAt.out.max).mono ?_
            rintro e w5 ⟨x4, rfl, h4, hb5⟩
            have b5 := b4.trans (hb5.mono b4.size)
            have H4 := Lib.hid h4
            clear b4 HR4 hb5 h4
            go_wp2_with fail
            go_ret
            exact ⟨x4, rfl, by rw [H4.out]; exact ⟨fun h => ⟨by omega, h12, hone, fun hh => by omega, fun _ => ⟨HP.out, HV.out⟩, H1.out, H2.out, H3.out, h⟩, fun f => f.kids⟩, b5⟩
    · have HP : Hid (¬ Formed n) := fun f => hp ((f.above h0).1)
      have t5 : ((n.kids.length : Int) == ((n.keys.length : Nat) : Int)) = false := by rw [beq_eq_false_iff_ne]; omega
      have t6 : (n.kids.length == n.keys.length) = false := by simpa using hp
      have t7 : ((n.kids.length : Int) == (n.keys.length : Int)) = false := by rw [beq_eq_false_iff_ne]; omega
      go_enter Try.func18, Try.ntmps18
      go_wp2_with (refine wpList_boxN rfl _ rfl rfl ?_; intro w1 hr1 hb1 hz1; have r0 := row_level hr1; have r1 := row_keys hr1; have r2 := row_vals hr1; have r3 := row_kids hr1; rw [hv] at r2; have HR := Lib.hid hr1; have HB := Lib.hid hb1; clear hr1 hb1)
      go_ret
      exact Tells.no HP.out HB.out
  · have HV : Hid (¬ Formed n) := fun f => hv ((f.above h0).2)
    have t5 : ((n.vals.length : Int) == ((0 : Nat) : Int)) = false := by rw [beq_eq_false_iff_ne]; omega
    have t6 : (n.vals.length == 0) = false := by simpa using hv
    have t7 : ((n.vals.length : Int) == 0) = false := by rw [beq_eq_false_iff_ne]; omega
    go_enter Try.func18, Try.ntmps18
    go_wp2_with (refine wpList_boxN rfl _ rfl rfl ?_; intro w1 hr1 hb1 hz1; have r0 := row_level hr1; have r1 := row_keys hr1; have r2 := row_vals hr1; have r3 := row_kids hr1; have HR := Lib.hid hr1; have HB := Lib.hid hb1; clear hr1 hb1)
    go_ret
    exact Tells.no HV.out HB.out
theorem formed_any {n : Nd} {A1 : Option Addr} {c1 : Nat} {ks : List Value} {A2 : Option Addr} {c2 : Nat} {vs : List Value} {A3 : Option Addr} {c3 : Nat} {w : World} (at_ : NdAt w n A1 c1 ks A2 c2 vs A3 c3) (ok : n.Ok) : FormedAt n A1 c1 A2 c2 A3 c3 w := by
  by_cases h : n.level < 0 ∨ 12 < n.level ∨ n.keys.length = 0
  · exact formed_no (by have := at_.keys.cap; have := at_.keys.max; unfold maxLen at this; omega) ok.lo ok.hi h
  · by_cases h0 : n.level = 0
    · exact formed_leaf at_ ok (by omega) h0
    · exact formed_above at_ ok (by omega) (by omega) (by omega)
end Lf
end Go.Proofs.Ytnoofmdhhlcbkaa

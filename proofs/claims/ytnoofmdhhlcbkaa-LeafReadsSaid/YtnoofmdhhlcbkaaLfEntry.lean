/- formed: whether all of a node is right, but for how many bytes it has; nothing that was there is written. No conditions but those that stand in each lemma. | entry: the bytes of a key of a node, and of its value, or its child, in memory of the call's own. No conditions but those that stand in each lemma. -/
import Derived.Test.YtnoofmdhhlcbkaaLfForm
import Derived.Test.YtnoofmdhhlcbkaaCut
import Derived.Test.YtnoofmdhhlcbkaaPtrPut

namespace Go.Proofs.Ytnoofmdhhlcbkaa
open Go.RowKit
namespace Lf
open Els

/-- All of a node is right, but for how many bytes, and keys, it has. -/
structure Formed (n : Nd) : Prop where
  lo : 0 ≤ n.level
  hi : n.level ≤ 12
  one : 1 ≤ n.keys.length
  leaf : n.level = 0 → n.vals.length = n.keys.length ∧ n.kids.length = 0
  above : 0 < n.level → n.kids.length = n.keys.length ∧ n.vals.length = 0
  rise : Rising n.keys
  short : Short_ n.keys 160
  vals : Short_ n.vals 1024
  kids : AllRight n.kids
theorem Formed.shape {n : Nd} (h : Formed n) (hk : n.keys.length ≤ 4096) : Shape n := by
  refine ⟨⟨h.lo, h.hi, h.one, hk, h.leaf, h.above⟩, fun i hi => ?_, fun i hi => ?_⟩
  · unfold keyOk
    rw [Bool.and_eq_true, decide_eq_true_eq, Bool.or_eq_true, decide_eq_true_eq]
    refine ⟨by have := h.short i hi; unfold Nd.key; omega, ?_⟩
    rcases i with _ | i
    · exact .inl rfl
    · right
      rw [last_next]
      exact h.rise i hi
  · unfold bodyOk
    split
    · rename_i h0
      rw [decide_eq_true_eq]
      have := h.vals i (by have := (h.leaf h0).1; omega)
      unfold Nd.val
      omega
    · rename_i h0
      have := h.lo
      exact h.kids i (by have := (h.above (by omega)).1; omega)
theorem Shape.formed {n : Nd} (h : Shape n) : Formed n := by
  have hlo := h.start.lo
  refine ⟨h.start.lo, h.start.hi, h.start.one, h.start.leaf, h.start.above, fun i hi => h.rises hi, fun i hi => by have := h.keyLen hi; unfold Nd.key at this; omega, fun i hi => ?_, fun i hi => ?_⟩
  · by_cases h0 : n.level = 0
    · have := h.valLen h0 (i := i) (by have := (h.start.leaf h0).1; omega)
      unfold Nd.val at this
      omega
    · have := (h.start.above (by omega)).2; omega
  · by_cases h0 : n.level = 0
    · have := (h.start.leaf h0).2; omega
    · exact h.kidRight (by omega) (by have := (h.start.above (by omega)).1; omega)
def FormedAt (n : Nd) (A1 : Option Addr) (c1 : Nat) (A2 : Option Addr) (c2 : Nat) (A3 : Option Addr) (c3 : Nat) (w : World) : Prop :=
  Calls Try.prog 18 #[.agg (ndC n A1 c1 A2 c2 A3 c3)] w (Tells (Formed n) w)
set_option maxHeartbeats 4000000 in
theorem formed_no {n : Nd} {A1 : Option Addr} {c1 : Nat} {A2 : Option Addr} {c2 : Nat} {A3 : Option Addr} {c3 : Nat} {w : World} (hk : n.keys.length ≤ 9223372036854775807) (lo : -9223372036854775808 ≤ n.level) (hi : n.level ≤ 9223372036854775807)
    (h : n.level < 0 ∨ 12 < n.level ∨ n.keys.length = 0) : FormedAt n A1 c1 A2 c2 A3 c3 w := by
  have HN : Hid (¬ Formed n) := fun f => by have := f.lo; have := f.hi; have := f.one; omega
  unfold FormedAt
  by_cases h1 : n.level < 0
  · clear h
    go_enter Try.func18, Try.ntmps18
    go_wp2_with (refine wpList_boxN rfl _ rfl rfl ?_; intro w1 hr1 hb1 hz1; have r0 := row_level hr1; have r1 := row_keys hr1; clear hr1)
    go_ret
    exact Tells.no HN.out hb1
  · by_cases h2 : 12 < n.level
    · clear h
      have t1 : decide (n.level < 0) = false := by simp; omega
      go_enter Try.func18, Try.ntmps18
      go_wp2_with (refine wpList_boxN rfl _ rfl rfl ?_; intro w1 hr1 hb1 hz1; have r0 := row_level hr1; have r1 := row_keys hr1; clear hr1)
      go_ret
      exact Tells.no HN.out hb1
    · have h3 : n.keys.length = 0 := by omega
      have t1 : decide (n.level < 0) = false := by simp; omega
      have t2 : decide ((12 : Int) < n.level) = false := by simp; omega
      clear h
      go_enter Try.func18, Try.ntmps18
      go_wp2_with (refine wpList_boxN rfl _ rfl rfl ?_; intro w1 hr1 hb1 hz1; have r0 := row_level hr1; have r1 := row_keys hr1; rw [h3] at r1; clear hr1)
      go_ret
      exact Tells.no HN.out hb1
/- formed's two ways -/
set_option maxHeartbeats 8000000 in
theorem formed_leaf {n : Nd} {A1 : Option Addr} {c1 : Nat} {ks : List Value} {A2 : Option Addr} {c2 : Nat} {vs : List Value} {A3 : Option Addr} {c3 : Nat} {w : World} (at_ : NdAt w n A1 c1 ks A2 c2 vs A3 c3) (ok : n.Ok) (hone : 1 ≤ n.keys.length) (h0 : n.level = 0) : FormedAt n A1 c1 A2 c2 A3 c3 w := by
  have HAt := Lib.hid at_
  have Hok := Lib.hid ok
  have m1 : n.keys.length ≤ 9223372036854775807 := by have := at_.keys.cap; have := at_.keys.max; unfold maxLen at this; omega
  have m2 : n.vals.length ≤ 9223372036854775807 := by have := at_.vals.cap; have := at_.vals.max; unfold maxLen at this; omega
  have m3 : n.kids.length ≤ 9223372036854775807 := by have := at_.cap; have := at_.max; unfold maxLen at this; omega
  clear at_ ok
  have H0 := Lib.hid h0
  have t1 : decide (n.level < 0) = false := by simp; omega
  have t2 : decide ((12 : Int) < n.level) = false := by simp; omega
  have t4 : decide ((0 : Int) < n.level) = false := by simp; omega
  clear h0
  have t3 : ((n.keys.length : Int) == 0) = false := beq_eq_false_iff_ne.2 (by omega)
  have t3' : n.keys.length ≠ 0 := by omega
  unfold FormedAt
  by_cases hv : n.vals.length = n.keys.length
  · by_cases hp : n.kids.length = 0
    · have HV := Lib.hid hv
      have HP := Lib.hid hp
      go_enter Try.func18, Try.ntmps18
      go_wp2_with (refine wpList_boxN rfl _ rfl rfl ?_; intro w1 hr1 hb1 hz1; have r0 := row_level hr1; have r1 := row_keys hr1; have r2 := row_vals hr1; have r3 := row_kids hr1; rw [hv] at r2; rw [hp] at r3; have HR := Lib.hid hr1; have HB := Lib.hid hb1; clear hr1 hb1)
      clear r0 r1 r2 r3 hv hp
      refine (rising_any A1 n.keys.length c1 ks n.keys _ rfl (HAt.out.keys.keep HB.out) Hok.out.keysB).mono ?_
      rintro e w2 ⟨x1, rfl, h1, hb2⟩
      have b2 := HB.out.trans (hb2.mono HB.out.size)
      have HR2 := Lib.hid (HR.out.keep hb2)
      clear HB HR hb2
      cases x1 with
      | false =>
        have H := Lib.hid h1
        clear h1
        go_wp2_with fail
        go_ret
        exact Tells.no (fun f => by have := H.out.2 f.rise; cases this) b2
      | true =>
        have H1 := Lib.hid (h1.1 rfl)
        clear h1
        have r1 := row_keys HR2.out
        go_wp2_with fail
        clear r1
        refine (nwithin_any A1 n.keys.length c1 ks n.keys 160 _ rfl (HAt.out.keys.keep b2)).mono ?_
        rintro e w3 ⟨x2, rfl, h2, hb3⟩
        have b3 := b2.trans (hb3.mono b2.size)
        have HR3 := Lib.hid (HR2.out.keep hb3)
        clear b2 HR2 hb3
        cases x2 with
        | false =>
          have H := Lib.hid h2
          clear h2
          go_wp2_with fail
          go_ret
          exact Tells.no (fun f => by have := H.out.2 f.short; cases this) b3
        | true =>
          have H2 := Lib.hid (h2.1 rfl)
          clear h2
          have r2 := row_vals HR3.out
          go_wp2_with fail
          clear r2
          refine (nwithin_any A2 n.vals.length c2 vs n.vals 1024 _ rfl (HAt.out.vals.keep b3)).mono ?_
          rintro e w4 ⟨x3, rfl, h3, hb4⟩
          have b4 := b3.trans (hb4.mono b3.size)
          have HR4 := Lib.hid (HR3.out.keep hb4)
          clear b3 HR3 hb4
          cases x3 with
          | false =>
            have H := Lib.hid h3
            clear h3
            go_wp2_with fail
            go_ret
            exact Tells.no (fun f => by have := H.out.2 f.vals; cases this) b4
          | true =>
            have H3 := Lib.hid (h3.1 rfl)
            clear h3
            have r3 := row_kids HR4.out
            go_wp2_with fail
            clear r3
            refine (allBlocks_any A3 n.kids.length c3 n.kids _ rfl (HAt.out.kids.keep b4) Hok.out.kidsB HAt.out.cap HAt.out.max).mono ?_
            rintro e w5 ⟨x4, rfl, h4, hb5⟩
            have b5 := b4.trans (hb5.mono b4.size)
            have H4 := Lib.hid h4
            clear b4 HR4 hb5 h4
            go_wp2_with fail
            go_ret
            exact ⟨x4, rfl, by rw [H4.out]; exact ⟨fun h => ⟨by have := H0.out; omega, by have := H0.out; omega, hone, fun _ => ⟨HV.out, HP.out⟩, fun hh => by have := H0.out; omega, H1.out, H2.out, H3.out, h⟩, fun f => f.kids⟩, b5⟩
    · have HP : Hid (¬ Formed n) := fun f => hp ((f.leaf H0.out).2)
      have t5 : ((n.kids.length : Int) == ((0 : Nat) : Int)) = false := by rw [beq_eq_false_iff_ne]; omega
      have t6 : (n.kids.length == 0) = false := by simpa using hp
      have t7 : ((n.kids.length : Int) == 0) = false := by rw [beq_eq_false_iff_ne]; omega
      go_enter Try.func18, Try.ntmps18
      go_wp2_with (refine wpList_boxN rfl _ rfl rfl ?_; intro w1 hr1 hb1 hz1; have r0 := row_level hr1; have r1 := row_keys hr1; have r2 := row_vals hr1; have r3 := row_kids hr1; rw [hv] at r2; have HR := Lib.hid hr1; have HB := Lib.hid hb1; clear hr1 hb1)
      go_ret
      exact Tells.no HP.out HB.out
  · have HV : Hid (¬ Formed n) := fun f => hv ((f.leaf H0.out).1)
    have t5 : ((n.vals.length : Int) == ((n.keys.length : Nat) : Int)) = false := by rw [beq_eq_false_iff_ne]; omega
    have t6 : (n.vals.length == n.keys.length) = false := by simpa using hv
    have t7 : ((n.vals.length : Int) == (n.keys.length : Int)) = false := by rw [beq_eq_false_iff_ne]; omega
    go_enter Try.func18, Try.ntmps18
    go_wp2_with (refine wpList_boxN rfl _ rfl rfl ?_; intro w1 hr1 hb1 hz1; have r0 := row_level hr1; have r1 := row_keys hr1; have r2 := row_vals hr1; have r3 := row_kids hr1; have HR := Lib.hid hr1; have HB := Lib.hid hb1; clear hr1 hb1)
    go_ret
    exact Tells.no HV.out HB.out
set_option maxHeartbeats 8000000 in
theorem formed_above {n : Nd} {A1 : Option Addr} {c1 : Nat} {ks : List Value} {A2 : Option Addr} {c2 : Nat} {vs : List Value} {A3 : Option Addr} {c3 : Nat} {w : World} (at_ : NdAt w n A1 c1 ks A2 c2 vs A3 c3) (ok : n.Ok) (hone : 1 ≤ n.keys.length) (h0 : 0 < n.level) (h12 : n.level ≤ 12) : FormedAt n A1 c1 A2 c2 A3 c3 w := by
  have HAt := Lib.hid at_
  have Hok := Lib.hid ok
  have m1 : n.keys.length ≤ 9223372036854775807 := by have := at_.keys.cap; have := at_.keys.max; unfold maxLen at this; omega
  have m2 : n.vals.length ≤ 9223372036854775807 := by have := at_.vals.cap; have := at_.vals.max; unfold maxLen at this; omega
  have m3 : n.kids.length ≤ 9223372036854775807 := by have := at_.cap; have := at_.max; unfold maxLen at this; omega
  clear at_ ok
  have t1 : decide (n.level < 0) = false := by simp; omega
  have t2 : decide ((12 : Int) < n.level) = false := by simp; omega
  have t4 : decide ((0 : Int) < n.level) = true := by simp; omega
  have t3 : ((n.keys.length : Int) == 0) = false := beq_eq_false_iff_ne.2 (by omega)
  have t3' : n.keys.length ≠ 0 := by omega
  unfold FormedAt
  by_cases hv : n.vals.length = 0
  · by_cases hp : n.kids.length = n.keys.length
    · have HV := Lib.hid hv
      have HP := Lib.hid hp
      go_enter Try.func18, Try.ntmps18
      go_wp2_with (refine wpList_boxN rfl _ rfl rfl ?_; intro w1 hr1 hb1 hz1; have r0 := row_level hr1; have r1 := row_keys hr1; have r2 := row_vals hr1; have r3 := row_kids hr1; rw [hv] at r2; rw [hp] at r3; have HR := Lib.hid hr1; have HB := Lib.hid hb1; clear hr1 hb1)
      clear r0 r1 r2 r3 hv hp
      refine (rising_any A1 n.keys.length c1 ks n.keys _ rfl (HAt.out.keys.keep HB.out) Hok.out.keysB).mono ?_
      rintro e w2 ⟨x1, rfl, h1, hb2⟩
      have b2 := HB.out.trans (hb2.mono HB.out.size)
      have HR2 := Lib.hid (HR.out.keep hb2)
      clear HB HR hb2
      cases x1 with
      | false =>
        have H := Lib.hid h1
        clear h1
        go_wp2_with fail
        go_ret
        exact Tells.no (fun f => by have := H.out.2 f.rise; cases this) b2
      | true =>
        have H1 := Lib.hid (h1.1 rfl)
        clear h1
        have r1 := row_keys HR2.out
        go_wp2_with fail
        clear r1
        refine (nwithin_any A1 n.keys.length c1 ks n.keys 160 _ rfl (HAt.out.keys.keep b2)).mono ?_
        rintro e w3 ⟨x2, rfl, h2, hb3⟩
        have b3 := b2.trans (hb3.mono b2.size)
        have HR3 := Lib.hid (HR2.out.keep hb3)
        clear b2 HR2 hb3
        cases x2 with
        | false =>
          have H := Lib.hid h2
          clear h2
          go_wp2_with fail
          go_ret
          exact Tells.no (fun f => by have := H.out.2 f.short; cases this) b3
        | true =>
          have H2 := Lib.hid (h2.1 rfl)
          clear h2
          have r2 := row_vals HR3.out
          go_wp2_with fail
          clear r2
          refine (nwithin_any A2 n.vals.length c2 vs n.vals 1024 _ rfl (HAt.out.vals.keep b3)).mono ?_
          rintro e w4 ⟨x3, rfl, h3, hb4⟩
          have b4 := b3.trans (hb4.mono b3.size)
          have HR4 := Lib.hid (HR3.out.keep hb4)
          clear b3 HR3 hb4
          cases x3 with
          | false =>
            have H := Lib.hid h3
            clear h3
            go_wp2_with fail
            go_ret
            exact Tells.no (fun f => by have := H.out.2 f.vals; cases this) b4
          | true =>
            have H3 := Lib.hid (h3.1 rfl)
            clear h3
            have r3 := row_kids HR4.out
            go_wp2_with fail
            clear r3
            refine (allBlocks_any A3 n.kids.length c3 n.kids _ rfl (HAt.out.kids.keep b4) Hok.out.kidsB HAt.out.cap HAt.out.max).mono ?_
            rintro e w5 ⟨x4, rfl, h4, hb5⟩
            have b5 := b4.trans (hb5.mono b4.size)
            have H4 := Lib.hid h4
            clear b4 HR4 hb5 h4
            go_wp2_with fail
            go_ret
            exact ⟨x4, rfl, by rw [H4.out]; exact ⟨fun h => ⟨by omega, h12, hone, fun hh => by omega, fun _ => ⟨HP.out, HV.out⟩, H1.out, H2.out, H3.out, h⟩, fun f => f.kids⟩, b5⟩
    · have HP : Hid (¬ Formed n) := fun f => hp ((f.above h0).1)
      have t5 : ((n.kids.length : Int) == ((n.keys.length : Nat) : Int)) = false := by rw [beq_eq_false_iff_ne]; omega
      have t6 : (n.kids.length == n.keys.length) = false := by simpa using hp
      have t7 : ((n.kids.length : Int) == (n.keys.length : Int)) = false := by rw [beq_eq_false_iff_ne]; omega
      go_enter Try.func18, Try.ntmps18
      go_wp2_with (refine wpList_boxN rfl _ rfl rfl ?_; intro w1 hr1 hb1 hz1; have r0 := row_level hr1; have r1 := row_keys hr1; have r2 := row_vals hr1; have r3 := row_kids hr1; rw [hv] at r2; have HR := Lib.hid hr1; have HB := Lib.hid hb1; clear hr1 hb1)
      go_ret
      exact Tells.no HP.out HB.out
  · have HV : Hid (¬ Formed n) := fun f => hv ((f.above h0).2)
    have t5 : ((n.vals.length : Int) == ((0 : Nat) : Int)) = false := by rw [beq_eq_false_iff_ne]; omega
    have t6 : (n.vals.length == 0) = false := by simpa using hv
    have t7 : ((n.vals.length : Int) == 0) = false := by rw [beq_eq_false_iff_ne]; omega
    go_enter Try.func18, Try.ntmps18
    go_wp2_with (refine wpList_boxN rfl _ rfl rfl ?_; intro w1 hr1 hb1 hz1; have r0 := row_level hr1; have r1 := row_keys hr1; have r2 := row_vals hr1; have r3 := row_kids hr1; have HR := Lib.hid hr1; have HB := Lib.hid hb1; clear hr1 hb1)
    go_ret
    exact Tells.no HV.out HB.out
theorem formed_any {n : Nd} {A1 : Option Addr} {c1 : Nat} {ks : List Value} {A2 : Option Addr} {c2 : Nat} {vs : List Value} {A3 : Option Addr} {c3 : Nat} {w : World} (at_ : NdAt w n A1 c1 ks A2 c2 vs A3 c3) (ok : n.Ok) : FormedAt n A1 c1 A2 c2 A3 c3 w := by
  by_cases h : n.level < 0 ∨ 12 < n.level ∨ n.keys.length = 0
  · exact formed_no (by have := at_.keys.cap; have := at_.keys.max; unfold maxLen at this; omega) ok.lo ok.hi h
  · by_cases h0 : n.level = 0
    · exact formed_leaf at_ ok (by omega) h0
    · exact formed_above at_ ok (by omega) (by omega) (by omega)
end Lf
end Go.Proofs.Ytnoofmdhhlcbkaa

namespace Go.Proofs.Ytnoofmdhhlcbkaa
open Go.RowKit
namespace Lf
open Els

theorem getD_eq {α : Type} (l : List α) (i : Nat) (d : α) : l.getD i d = l.getD i d := rfl
/-- What has been laid of a key. -/
theorem key_laid (n : Nd) (i : Nat) (hb : IsBytes (n.key i)) : [] ++ shortOf (n.same i) ++ textOf (strOfNums ((n.key i).drop (n.same i))) = keyB n i := by
  rw [textOf_L _ (hb.drop _), List.nil_append]
  rfl
theorem keyB_len {n : Nd} {i : Nat} (h : (n.key i).length ≤ 160) : (keyB n i).length ≤ 200 ∧ 0 < (keyB n i).length := by
  have h1 := (same_le (n.key i) (lastK n.keys i)).1
  have h2 := shortOf_ten (n.same i) (by unfold Nd.same; omega)
  have h3 := shortOf_pos (n.same i)
  have h4 := shortOf_ten ((n.key i).drop (n.same i)).length (by rw [List.length_drop]; omega)
  unfold keyB textL
  simp only [List.length_append, List.length_drop] at h4 ⊢
  omega
theorem str_size {xs : List Int} (h : IsBytes xs) : (strOfNums xs).size = xs.length := by
  have := numsOf_length (strOfNums xs)
  rw [numsOf_strOfNums xs h] at this
  exact this.symm
set_option maxHeartbeats 8000000 in
set_option maxRecDepth 100000 in
theorem entry_f0 {n : Nd} {A1 : Option Addr} {c1 : Nat} {ks : List Value} {A2 : Option Addr} {c2 : Nat} {vs : List Value} {A3 : Option Addr} {c3 : Nat} {w : World} (at_ : NdAt w n A1 c1 ks A2 c2 vs A3 c3) (ok : n.Ok) (f : Formed n) (hi : 0 < n.keys.length) (h0 : n.level = 0) :
    Calls Try.prog 20 #[.agg (ndC n A1 c1 A2 c2 A3 c3), .int .i64 0] w (Gives w (entB n 0)) := by
  have HAt := Lib.hid at_
  have Hok := Lib.hid ok
  have m1 : n.keys.length ≤ 9223372036854775807 := by have := at_.keys.cap; have := at_.keys.max; unfold maxLen at this; omega
  have hvl : 0 < n.vals.length := by have := (f.leaf h0).1; omega
  have m2 : n.vals.length ≤ 9223372036854775807 := by have := at_.vals.cap; have := at_.vals.max; unfold maxLen at this; omega
  have t4 : decide ((0 : Int) < n.level) = false := by simp; omega
  have hks : (n.key 0).length ≤ 160 := by have := f.short 0 hi; unfold Nd.key; omega
  have hvs : (n.val 0).length ≤ 1024 := by have := f.vals 0 hvl; unfold Nd.val; omega
  have hkB := keyB_len hks
  have HKL := Lib.hid (key_laid n 0 (getD_bytes ok.keysB 0))
  have HE : Hid (entB n 0 = keyB n 0 ++ textL (n.val 0)) := by show _ = _; unfold entB bodyB; rw [if_pos h0]
  have hsm : n.same 0 ≤ (n.key 0).length := (same_le _ _).1
  clear at_ ok f h0
  obtain ⟨b1, o1, v1, hA1, hlt1, hcell1, S1, d1, hv1, hsrc1, hd1, hd1'⟩ := HAt.out.keys.at_ 0 hi
  have HYB : Hid (IsBytes (n.key 0)) := getD_bytes Hok.out.keysB 0
  have hcell1' : w.cell? ⟨b1, o1 + 0, none⟩ = some (.slice S1 (n.key 0).length d1) := by rw [hcell1, hv1]; rfl
  simp only [Nat.add_zero] at hcell1'
  have hsrc1' : Src .u8 w S1 (n.key 0) := hsrc1
  have hd1x : (n.key 0).length ≤ d1 := hd1
  clear hcell1 hv1 v1 hsrc1 hd1
  obtain ⟨y, hy⟩ : ∃ y, Hid (y = n.key 0) := ⟨_, rfl⟩
  obtain ⟨s, hs⟩ : ∃ s, Hid (s = n.same 0) := ⟨_, rfl⟩
  rw [← hy.out] at hcell1' hsrc1' hd1x HYB HKL hsm hks
  rw [← hs.out] at HKL hsm
  have u1 : IntKind.u64.wrap (s : Int) = (s : Int) := by rw [IntKind.wrap_u64]; omega
  subst hA1
  go_enter Try.func20, Try.ntmps20
  go_wp2_with (refine wpList_boxN rfl _ rfl rfl ?_; intro w1 hr1 hb1 hz1; have r1 := row_keys hr1; have k1 := (hb1.cell (p := ⟨b1, o1, none⟩) hlt1).trans hcell1'; have HR := Lib.hid hr1; have HB := Lib.hid hb1; clear hr1 hb1)
  have hs0 : s = 0 := by rw [hs.out]; unfold Nd.same; rw [last_zero]; exact same_none _
  subst hs0
  obtain ⟨w2, hw2⟩ : ∃ w2, w2 = w1 := ⟨_, rfl⟩
  have HR2 : Hid (Row w2 w.heap.size 26 (ndC n (some ⟨b1, o1, none⟩) c1 A2 c2 A3 c3)) := by rw [hw2]; exact HR.out
  have B2 : Hid (Below w.heap.size w w2) := by rw [hw2]; exact HB.out
  rw [← hw2]
  clear hw2 HR HB r1 k1
  have hsl := Lib.hid (hsrc1'.keep B2.out)
  obtain ⟨T, hT⟩ : ∃ T, Hid (T = strOfNums (y.drop 0)) := ⟨_, rfl⟩
  have kt : ∀ g : Above w2.drew, (convert 22 9 (.slice S1 y.length d1)).run Try.prog g.1 = .ok (.string T) g.1 := fun g => by rw [hT.out, List.drop_zero]; exact run_text g.1 _ _ _ y rfl (hsl.out.keep (Ext.trans (Ext.drew w2) g.2))
  have hTs : T.size ≤ 10000 := by rw [hT.out, str_size (HYB.out.drop 0), List.length_drop]; omega
  refine wp_region_segs [([0, 1, 3, 4, 5, 6], 2), ([], 7)] [8] (by kernel_rfl) (by kernel_rfl) (by kernel_rfl) (by kernel_rfl) (fun _ _ d _ _ h => by cases d <;> exact h) ?_
  refine wpSegs_next (by simp [pickOps]; rfl) ?_
  repeat (go_big_quiet_step (fail))
  refine wpQuiet_nil ?_
  refine wpOp_alone rfl rfl (fun K hK => ?_)
  go_simp
  clear kt
  refine (short_any none 0 0 [] (0 : Int) _ rfl Src.none_ (by omega) (by omega) (by omega)).mono ?_
  rintro e w3 ⟨v3, rfl, A4, n4, c4, rfl, hn4, ho4, hb3⟩
  rw [Int.toNat_zero] at hn4 ho4
  have hn4' : n4 ≤ 20 := by have := shortOf_ten 0 (by omega); rw [List.nil_append] at hn4; omega
  have HN4 := Lib.hid hn4
  have HO4 := Lib.hid ho4
  refine hK _ _ ⟨hb3, ?_⟩
  clear hK K hn4 ho4
  refine wpSegs_next (by simp [pickOps]; rfl) ?_
  refine wpQuiet_nil ?_
  refine wpOp_alone rfl rfl (fun K hK => ?_)
  go_simp
  refine (text_any A4 n4 c4 ([] ++ shortOf 0) T _ HN4.out HO4.out.src (by omega) hTs).mono ?_
  rw [hT.out, HKL.out]
  rintro e w4 ⟨v4, rfl, A5, n5, c5, rfl, hn5, ho5, hb4⟩
  have B4 := Lib.hid ((B2.out.drew).trans ((Ext.trans hb3 hb4).mono B2.out.size))
  have HR4 := Lib.hid ((HR2.out.keep (Ext.drew w2)).keep (Ext.trans hb3 hb4))
  refine hK _ _ ⟨hb4, ?_⟩
  have hn5' : n5 ≤ 200 := by omega
  have hn5'' : 0 < n5 := by omega
  have HN5 := Lib.hid hn5
  have HO5 := Lib.hid ho5
  have r0 := row_level HR4.out
  have r2 := row_vals HR4.out
  clear hK K hn5 ho5 hb3 hb4 HN4 HO4 HKL B2 HR2 hsl
  refine wpSegs_last (by simp [pickOps]; rfl) ?_
  repeat (go_big_quiet_step (fail))
  refine wpQuiet_nil ?_
  obtain ⟨b6, o6, v6, hA6, hlt6, hcell6, S6, d6, hv6, hsrc6, hd6, hd6'⟩ := (HAt.out.vals.keep B4.out).at_ 0 hvl
  have hcell6' : w4.cell? ⟨b6, o6 + 0, none⟩ = some (.slice S6 (n.val 0).length d6) := by rw [hcell6, hv6]; rfl
  simp only [Nat.add_zero] at hcell6'
  have kv := run_text w4 S6 (n.val 0).length d6 (n.val 0) rfl hsrc6
  have HTL : Hid (textOf (strOfNums (n.val 0)) = textL (n.val 0)) := textOf_L _ (getD_bytes Hok.out.valsB 0)
  have hsz : (strOfNums (n.val 0)).size ≤ 10000 := by rw [str_size (xs := n.val 0) (getD_bytes Hok.out.valsB 0)]; omega
  obtain ⟨U, hU⟩ : ∃ U, Hid (U = strOfNums (n.val 0)) := ⟨_, rfl⟩
  rw [← hU.out] at kv HTL hsz
  subst hA6
  clear hcell6 hsrc6 hd6 hd6' hv6
  go_wp2_with fail
  refine (text_any A5 n5 c5 (keyB n 0) U _ HN5.out HO5.out.src (by omega) hsz).mono ?_
  rw [HTL.out, ← HE.out]
  rintro e w7 ⟨v7, rfl, A7, n7, c7, rfl, hn7, ho7, hb7⟩
  have HN7 := Lib.hid hn7
  have HO7 := Lib.hid ho7
  clear hn7 ho7
  go_wp2_with fail
  go_ret
  exact ⟨_, rfl, A7, n7, c7, rfl, HN7.out, HO7.out.more B4.out.size, B4.out.trans (hb7.mono B4.out.size)⟩
set_option maxHeartbeats 8000000 in
set_option maxRecDepth 100000 in
theorem entry_f1 {n : Nd} {A1 : Option Addr} {c1 : Nat} {ks : List Value} {A2 : Option Addr} {c2 : Nat} {vs : List Value} {A3 : Option Addr} {c3 : Nat} {w : World} (at_ : NdAt w n A1 c1 ks A2 c2 vs A3 c3) (ok : n.Ok) (f : Formed n) (hi : 0 < n.keys.length) (h0 : 0 < n.level) :
    Calls Try.prog 20 #[.agg (ndC n A1 c1 A2 c2 A3 c3), .int .i64 0] w (Gives w (entB n 0)) := by
  have HAt := Lib.hid at_
  have Hok := Lib.hid ok
  have m1 : n.keys.length ≤ 9223372036854775807 := by have := at_.keys.cap; have := at_.keys.max; unfold maxLen at this; omega
  have hkl : 0 < n.kids.length := by have := (f.above h0).1; omega
  have m2 : n.kids.length ≤ 9223372036854775807 := by have := at_.cap; have := at_.max; unfold maxLen at this; omega
  have t4 : decide ((0 : Int) < n.level) = true := by simp; omega
  have hks : (n.key 0).length ≤ 160 := by have := f.short 0 hi; unfold Nd.key; omega
  have hkB := keyB_len hks
  have HKL := Lib.hid (key_laid n 0 (getD_bytes ok.keysB 0))
  have HE : Hid (entB n 0 = keyB n 0 ++ putOf (n.kid 0)) := by show _ = _; unfold entB bodyB; rw [if_neg (by omega)]
  have hsm : n.same 0 ≤ (n.key 0).length := (same_le _ _).1
  clear at_ ok f h0
  obtain ⟨b1, o1, v1, hA1, hlt1, hcell1, S1, d1, hv1, hsrc1, hd1, hd1'⟩ := HAt.out.keys.at_ 0 hi
  have HYB : Hid (IsBytes (n.key 0)) := getD_bytes Hok.out.keysB 0
  have hcell1' : w.cell? ⟨b1, o1 + 0, none⟩ = some (.slice S1 (n.key 0).length d1) := by rw [hcell1, hv1]; rfl
  simp only [Nat.add_zero] at hcell1'
  have hsrc1' : Src .u8 w S1 (n.key 0) := hsrc1
  have hd1x : (n.key 0).length ≤ d1 := hd1
  clear hcell1 hv1 v1 hsrc1 hd1
  obtain ⟨y, hy⟩ : ∃ y, Hid (y = n.key 0) := ⟨_, rfl⟩
  obtain ⟨s, hs⟩ : ∃ s, Hid (s = n.same 0) := ⟨_, rfl⟩
  rw [← hy.out] at hcell1' hsrc1' hd1x HYB HKL hsm hks
  rw [← hs.out] at HKL hsm
  have u1 : IntKind.u64.wrap (s : Int) = (s : Int) := by rw [IntKind.wrap_u64]; omega
  subst hA1
  go_enter Try.func20, Try.ntmps20
  go_wp2_with (refine wpList_boxN rfl _ rfl rfl ?_; intro w1 hr1 hb1 hz1; have r1 := row_keys hr1; have k1 := (hb1.cell (p := ⟨b1, o1, none⟩) hlt1).trans hcell1'; have HR := Lib.hid hr1; have HB := Lib.hid hb1; clear hr1 hb1)
  have hs0 : s = 0 := by rw [hs.out]; unfold Nd.same; rw [last_zero]; exact same_none _
  subst hs0
  obtain ⟨w2, hw2⟩ : ∃ w2, w2 = w1 := ⟨_, rfl⟩
  have HR2 : Hid (Row w2 w.heap.size 26 (ndC n (some ⟨b1, o1, none⟩) c1 A2 c2 A3 c3)) := by rw [hw2]; exact HR.out
  have B2 : Hid (Below w.heap.size w w2) := by rw [hw2]; exact HB.out
  rw [← hw2]
  clear hw2 HR HB r1 k1
  have hsl := Lib.hid (hsrc1'.keep B2.out)
  obtain ⟨T, hT⟩ : ∃ T, Hid (T = strOfNums (y.drop 0)) := ⟨_, rfl⟩
  have kt : ∀ g : Above w2.drew, (convert 22 9 (.slice S1 y.length d1)).run Try.prog g.1 = .ok (.string T) g.1 := fun g => by rw [hT.out, List.drop_zero]; exact run_text g.1 _ _ _ y rfl (hsl.out.keep (Ext.trans (Ext.drew w2) g.2))
  have hTs : T.size ≤ 10000 := by rw [hT.out, str_size (HYB.out.drop 0), List.length_drop]; omega
  refine wp_region_segs [([0, 1, 3, 4, 5, 6], 2), ([], 7)] [8] (by kernel_rfl) (by kernel_rfl) (by kernel_rfl) (by kernel_rfl) (fun _ _ d _ _ h => by cases d <;> exact h) ?_
  refine wpSegs_next (by simp [pickOps]; rfl) ?_
  repeat (go_big_quiet_step (fail))
  refine wpQuiet_nil ?_
  refine wpOp_alone rfl rfl (fun K hK => ?_)
  go_simp
  clear kt
  refine (short_any none 0 0 [] (0 : Int) _ rfl Src.none_ (by omega) (by omega) (by omega)).mono ?_
  rintro e w3 ⟨v3, rfl, A4, n4, c4, rfl, hn4, ho4, hb3⟩
  rw [Int.toNat_zero] at hn4 ho4
  have hn4' : n4 ≤ 20 := by have := shortOf_ten 0 (by omega); rw [List.nil_append] at hn4; omega
  have HN4 := Lib.hid hn4
  have HO4 := Lib.hid ho4
  refine hK _ _ ⟨hb3, ?_⟩
  clear hK K hn4 ho4
  refine wpSegs_next (by simp [pickOps]; rfl) ?_
  refine wpQuiet_nil ?_
  refine wpOp_alone rfl rfl (fun K hK => ?_)
  go_simp
  refine (text_any A4 n4 c4 ([] ++ shortOf 0) T _ HN4.out HO4.out.src (by omega) hTs).mono ?_
  rw [hT.out, HKL.out]
  rintro e w4 ⟨v4, rfl, A5, n5, c5, rfl, hn5, ho5, hb4⟩
  have B4 := Lib.hid ((B2.out.drew).trans ((Ext.trans hb3 hb4).mono B2.out.size))
  have HR4 := Lib.hid ((HR2.out.keep (Ext.drew w2)).keep (Ext.trans hb3 hb4))
  refine hK _ _ ⟨hb4, ?_⟩
  have hn5' : n5 ≤ 200 := by omega
  have hn5'' : 0 < n5 := by omega
  have HN5 := Lib.hid hn5
  have HO5 := Lib.hid ho5
  have r0 := row_level HR4.out
  have r3 := row_kids HR4.out
  clear hK K hn5 ho5 hb3 hb4 HN4 HO4 HKL B2 HR2 hsl
  refine wpSegs_last (by simp [pickOps]; rfl) ?_
  repeat (go_big_quiet_step (fail))
  refine wpQuiet_nil ?_
  obtain ⟨b6, o6, hA6, hlt6, hcell6⟩ := pt_at (HAt.out.kids.keep B4.out) 0 hkl
  have HP : Hid (n.kid 0).Ok := getD_ok Hok.out.kidsB 0
  have HC6 : Hid (Cells w4 b6 (o6 + 0 * 36) (pcells (n.kid 0))) := hcell6
  simp only [Nat.zero_mul, Nat.add_zero] at HC6
  subst hA6
  clear hcell6
  obtain ⟨q, hq⟩ : ∃ q, Hid (q = n.kid 0) := ⟨_, rfl⟩
  rw [← hq.out] at HP HC6 HE
  go_wp2_with (refine wpList_loadPs _ rfl rfl b6 (o6) rfl q HP.out.shaL HC6.out ?_)
  refine (put_any A5 n5 c5 (keyB n 0) q _ HP.out HN5.out HO5.out.src (by omega)).mono ?_
  rw [← HE.out]
  rintro e w7 ⟨v7, rfl, A7, n7, c7, rfl, hn7, ho7, hb7⟩
  have HN7 := Lib.hid hn7
  have HO7 := Lib.hid ho7
  clear hn7 ho7
  go_wp2_with fail
  go_ret
  exact ⟨_, rfl, A7, n7, c7, rfl, HN7.out, HO7.out.more B4.out.size, B4.out.trans (hb7.mono B4.out.size)⟩
set_option maxHeartbeats 8000000 in
set_option maxRecDepth 100000 in
theorem entry_n0 {n : Nd} {A1 : Option Addr} {c1 : Nat} {ks : List Value} {A2 : Option Addr} {c2 : Nat} {vs : List Value} {A3 : Option Addr} {c3 : Nat} {w : World} (at_ : NdAt w n A1 c1 ks A2 c2 vs A3 c3) (ok : n.Ok) (f : Formed n) (i j : Nat) (hij : i = j + 1) (hi : i < n.keys.length) (h0 : n.level = 0) :
    Calls Try.prog 20 #[.agg (ndC n A1 c1 A2 c2 A3 c3), .int .i64 (i : Int)] w (Gives w (entB n i)) := by
  have HAt := Lib.hid at_
  have Hok := Lib.hid ok
  have m1 : n.keys.length ≤ 9223372036854775807 := by have := at_.keys.cap; have := at_.keys.max; unfold maxLen at this; omega
  have hvl : i < n.vals.length := by have := (f.leaf h0).1; omega
  have m2 : n.vals.length ≤ 9223372036854775807 := by have := at_.vals.cap; have := at_.vals.max; unfold maxLen at this; omega
  have t4 : decide ((0 : Int) < n.level) = false := by simp; omega
  have hks : (n.key i).length ≤ 160 := by have := f.short i hi; unfold Nd.key; omega
  have hvs : (n.val i).length ≤ 1024 := by have := f.vals i hvl; unfold Nd.val; omega
  have hkB := keyB_len hks
  have HKL := Lib.hid (key_laid n i (getD_bytes ok.keysB i))
  have HE : Hid (entB n i = keyB n i ++ textL (n.val i)) := by show _ = _; unfold entB bodyB; rw [if_pos h0]
  have hsm : n.same i ≤ (n.key i).length := (same_le _ _).1
  have HJ := Lib.hid hij
  have t1 : decide ((0 : Int) < (i : Int)) = true := by simp; omega
  have t2 : (i : Int) - 1 = (j : Int) := by omega
  have i1 : (i : Int) < (n.keys.length : Int) := by omega
  have i2 : (j : Int) < (n.keys.length : Int) := by omega
  have HS : Hid (sameOf (n.keys.getD j []) (n.key i) = n.same i) := by show _ = _; unfold Nd.same; rw [same_comm, hij, last_next]
  have hjl : (n.keys.getD j []).length ≤ 160 := by have := f.short j (by omega); omega
  clear hij
  clear at_ ok f h0
  obtain ⟨b1, o1, v1, hA1, hlt1, hcell1, S1, d1, hv1, hsrc1, hd1, hd1'⟩ := HAt.out.keys.at_ i hi
  have HYB : Hid (IsBytes (n.key i)) := getD_bytes Hok.out.keysB i
  have hcell1' : w.cell? ⟨b1, o1 + i, none⟩ = some (.slice S1 (n.key i).length d1) := by rw [hcell1, hv1]; rfl
  have hsrc1' : Src .u8 w S1 (n.key i) := hsrc1
  have hd1x : (n.key i).length ≤ d1 := hd1
  clear hcell1 hv1 v1 hsrc1 hd1
  obtain ⟨b2, o2, v2, hA2, hlt2, hcell2, S2, d2, hv2, hsrc2, hd2, hd2'⟩ := HAt.out.keys.at_ j (by have := HJ.out; omega)
  rw [hA1] at hA2
  injection hA2 with hA2
  injection hA2 with e1 e2 _
  subst e1 e2 hv2
  obtain ⟨z, hz⟩ : ∃ z, Hid (z = n.keys.getD j []) := ⟨_, rfl⟩
  rw [← hz.out] at hcell2 hsrc2 hd2 HS hjl
  obtain ⟨y, hy⟩ : ∃ y, Hid (y = n.key i) := ⟨_, rfl⟩
  obtain ⟨s, hs⟩ : ∃ s, Hid (s = n.same i) := ⟨_, rfl⟩
  rw [← hy.out] at hcell1' hsrc1' hd1x HYB HKL hsm hks HS
  rw [← hs.out] at HKL hsm HS
  have u1 : IntKind.u64.wrap (s : Int) = (s : Int) := by rw [IntKind.wrap_u64]; omega
  subst hA1
  go_enter Try.func20, Try.ntmps20
  go_wp2_with (refine wpList_boxN rfl _ rfl rfl ?_; intro w1 hr1 hb1 hz1; have r1 := row_keys hr1; have k1 := (hb1.cell (p := ⟨b1, o1 + i, none⟩) hlt1).trans hcell1'; have k2 := (hb1.cell (p := ⟨b1, o1 + j, none⟩) hlt2).trans hcell2; have HR := Lib.hid hr1; have HB := Lib.hid hb1; clear hr1 hb1)
  refine (common_any S2 S1 z.length d2 y.length d1 z y _ rfl (hsrc2.keep HB.out) rfl (hsrc1'.keep HB.out) (by omega)).mono ?_
  rw [HS.out]
  rintro e w2 ⟨rfl, hb2⟩
  have HR2 := Lib.hid (HR.out.keep hb2)
  have B2 := Lib.hid (HB.out.trans (hb2.mono HB.out.size))
  clear HR HB hb2 r1 k1 k2 t1 t2 i2 hjl hcell2 hsrc2 hd2 hd2'
  go_wp2_with fail
  have hsl := Lib.hid (hsrc1'.keep B2.out)
  obtain ⟨T, hT⟩ : ∃ T, Hid (T = strOfNums (y.drop s)) := ⟨_, rfl⟩
  have kt : ∀ g : Above w2.drew, (convert 22 9 (.slice (if d1 = s then S1 else Option.map (fun x => x.add s) S1) (y.length - s) (d1 - s))).run Try.prog g.1 = .ok (.string T) g.1 := fun g => by rw [hT.out]; exact run_text g.1 _ _ _ (y.drop s) (by rw [List.length_drop]) (Cut.src_cut (hsl.out.keep (Ext.trans (Ext.drew w2) g.2)) hsm hd1x)
  have hTs : T.size ≤ 10000 := by rw [hT.out, str_size (HYB.out.drop s), List.length_drop]; omega
  refine wp_region_segs [([0, 1, 3, 4, 5, 6], 2), ([], 7)] [8] (by kernel_rfl) (by kernel_rfl) (by kernel_rfl) (by kernel_rfl) (fun _ _ d _ _ h => by cases d <;> exact h) ?_
  refine wpSegs_next (by simp [pickOps]; rfl) ?_
  repeat (go_big_quiet_step (fail))
  refine wpQuiet_nil ?_
  refine wpOp_alone rfl rfl (fun K hK => ?_)
  go_simp
  clear kt
  generalize (if d1 = s then S1 else Option.map (fun x => x.add s) S1) = S9
  refine (short_any none 0 0 [] (s : Int) _ rfl Src.none_ (by omega) (by omega) (by omega)).mono ?_
  rintro e w3 ⟨v3, rfl, A4, n4, c4, rfl, hn4, ho4, hb3⟩
  rw [Int.toNat_natCast] at hn4 ho4
  have hn4' : n4 ≤ 20 := by have := shortOf_ten s (by omega); rw [List.nil_append] at hn4; omega
  have HN4 := Lib.hid hn4
  have HO4 := Lib.hid ho4
  refine hK _ _ ⟨hb3, ?_⟩
  clear hK K hn4 ho4
  refine wpSegs_next (by simp [pickOps]; rfl) ?_
  refine wpQuiet_nil ?_
  refine wpOp_alone rfl rfl (fun K hK => ?_)
  go_simp
  refine (text_any A4 n4 c4 ([] ++ shortOf s) T _ HN4.out HO4.out.src (by omega) hTs).mono ?_
  rw [hT.out, HKL.out]
  rintro e w4 ⟨v4, rfl, A5, n5, c5, rfl, hn5, ho5, hb4⟩
  have B4 := Lib.hid ((B2.out.drew).trans ((Ext.trans hb3 hb4).mono B2.out.size))
  have HR4 := Lib.hid ((HR2.out.keep (Ext.drew w2)).keep (Ext.trans hb3 hb4))
  refine hK _ _ ⟨hb4, ?_⟩
  have hn5' : n5 ≤ 200 := by omega
  have hn5'' : 0 < n5 := by omega
  have HN5 := Lib.hid hn5
  have HO5 := Lib.hid ho5
  have r0 := row_level HR4.out
  have r2 := row_vals HR4.out
  clear hK K hn5 ho5 hb3 hb4 HN4 HO4 HKL B2 HR2 hsl
  refine wpSegs_last (by simp [pickOps]; rfl) ?_
  repeat (go_big_quiet_step (fail))
  refine wpQuiet_nil ?_
  obtain ⟨b6, o6, v6, hA6, hlt6, hcell6, S6, d6, hv6, hsrc6, hd6, hd6'⟩ := (HAt.out.vals.keep B4.out).at_ i hvl
  have hcell6' : w4.cell? ⟨b6, o6 + i, none⟩ = some (.slice S6 (n.val i).length d6) := by rw [hcell6, hv6]; rfl
  have i3 : (i : Int) < (n.vals.length : Int) := by omega
  have kv := run_text w4 S6 (n.val i).length d6 (n.val i) rfl hsrc6
  have HTL : Hid (textOf (strOfNums (n.val i)) = textL (n.val i)) := textOf_L _ (getD_bytes Hok.out.valsB i)
  have hsz : (strOfNums (n.val i)).size ≤ 10000 := by rw [str_size (xs := n.val i) (getD_bytes Hok.out.valsB i)]; omega
  obtain ⟨U, hU⟩ : ∃ U, Hid (U = strOfNums (n.val i)) := ⟨_, rfl⟩
  rw [← hU.out] at kv HTL hsz
  subst hA6
  clear hcell6 hsrc6 hd6 hd6' hv6
  go_wp2_with fail
  refine (text_any A5 n5 c5 (keyB n i) U _ HN5.out HO5.out.src (by omega) hsz).mono ?_
  rw [HTL.out, ← HE.out]
  rintro e w7 ⟨v7, rfl, A7, n7, c7, rfl, hn7, ho7, hb7⟩
  have HN7 := Lib.hid hn7
  have HO7 := Lib.hid ho7
  clear hn7 ho7
  go_wp2_with fail
  go_ret
  exact ⟨_, rfl, A7, n7, c7, rfl, HN7.out, HO7.out.more B4.out.size, B4.out.trans (hb7.mono B4.out.size)⟩
set_option maxHeartbeats 8000000 in
set_option maxRecDepth 100000 in
theorem entry_n1 {n : Nd} {A1 : Option Addr} {c1 : Nat} {ks : List Value} {A2 : Option Addr} {c2 : Nat} {vs : List Value} {A3 : Option Addr} {c3 : Nat} {w : World} (at_ : NdAt w n A1 c1 ks A2 c2 vs A3 c3) (ok : n.Ok) (f : Formed n) (i j : Nat) (hij : i = j + 1) (hi : i < n.keys.length) (h0 : 0 < n.level) :
    Calls Try.prog 20 #[.agg (ndC n A1 c1 A2 c2 A3 c3), .int .i64 (i : Int)] w (Gives w (entB n i)) := by
  have HAt := Lib.hid at_
  have Hok := Lib.hid ok
  have m1 : n.keys.length ≤ 9223372036854775807 := by have := at_.keys.cap; have := at_.keys.max; unfold maxLen at this; omega
  have hkl : i < n.kids.length := by have := (f.above h0).1; omega
  have m2 : n.kids.length ≤ 9223372036854775807 := by have := at_.cap; have := at_.max; unfold maxLen at this; omega
  have t4 : decide ((0 : Int) < n.level) = true := by simp; omega
  have hks : (n.key i).length ≤ 160 := by have := f.short i hi; unfold Nd.key; omega
  have hkB := keyB_len hks
  have HKL := Lib.hid (key_laid n i (getD_bytes ok.keysB i))
  have HE : Hid (entB n i = keyB n i ++ putOf (n.kid i)) := by show _ = _; unfold entB bodyB; rw [if_neg (by omega)]
  have hsm : n.same i ≤ (n.key i).length := (same_le _ _).1
  have HJ := Lib.hid hij
  have t1 : decide ((0 : Int) < (i : Int)) = true := by simp; omega
  have t2 : (i : Int) - 1 = (j : Int) := by omega
  have i1 : (i : Int) < (n.keys.length : Int) := by omega
  have i2 : (j : Int) < (n.keys.length : Int) := by omega
  have HS : Hid (sameOf (n.keys.getD j []) (n.key i) = n.same i) := by show _ = _; unfold Nd.same; rw [same_comm, hij, last_next]
  have hjl : (n.keys.getD j []).length ≤ 160 := by have := f.short j (by omega); omega
  clear hij
  clear at_ ok f h0
  obtain ⟨b1, o1, v1, hA1, hlt1, hcell1, S1, d1, hv1, hsrc1, hd1, hd1'⟩ := HAt.out.keys.at_ i hi
  have HYB : Hid (IsBytes (n.key i)) := getD_bytes Hok.out.keysB i
  have hcell1' : w.cell? ⟨b1, o1 + i, none⟩ = some (.slice S1 (n.key i).length d1) := by rw [hcell1, hv1]; rfl
  have hsrc1' : Src .u8 w S1 (n.key i) := hsrc1
  have hd1x : (n.key i).length ≤ d1 := hd1
  clear hcell1 hv1 v1 hsrc1 hd1
  obtain ⟨b2, o2, v2, hA2, hlt2, hcell2, S2, d2, hv2, hsrc2, hd2, hd2'⟩ := HAt.out.keys.at_ j (by have := HJ.out; omega)
  rw [hA1] at hA2
  injection hA2 with hA2
  injection hA2 with e1 e2 _
  subst e1 e2 hv2
  obtain ⟨z, hz⟩ : ∃ z, Hid (z = n.keys.getD j []) := ⟨_, rfl⟩
  rw [← hz.out] at hcell2 hsrc2 hd2 HS hjl
  obtain ⟨y, hy⟩ : ∃ y, Hid (y = n.key i) := ⟨_, rfl⟩
  obtain ⟨s, hs⟩ : ∃ s, Hid (s = n.same i) := ⟨_, rfl⟩
  rw [← hy.out] at hcell1' hsrc1' hd1x HYB HKL hsm hks HS
  rw [← hs.out] at HKL hsm HS
  have u1 : IntKind.u64.wrap (s : Int) = (s : Int) := by rw [IntKind.wrap_u64]; omega
  subst hA1
  go_enter Try.func20, Try.ntmps20
  go_wp2_with (refine wpList_boxN rfl _ rfl rfl ?_; intro w1 hr1 hb1 hz1; have r1 := row_keys hr1; have k1 := (hb1.cell (p := ⟨b1, o1 + i, none⟩) hlt1).trans hcell1'; have k2 := (hb1.cell (p := ⟨b1, o1 + j, none⟩) hlt2).trans hcell2; have HR := Lib.hid hr1; have HB := Lib.hid hb1; clear hr1 hb1)
  refine (common_any S2 S1 z.length d2 y.length d1 z y _ rfl (hsrc2.keep HB.out) rfl (hsrc1'.keep HB.out) (by omega)).mono ?_
  rw [HS.out]
  rintro e w2 ⟨rfl, hb2⟩
  have HR2 := Lib.hid (HR.out.keep hb2)
  have B2 := Lib.hid (HB.out.trans (hb2.mono HB.out.size))
  clear HR HB hb2 r1 k1 k2 t1 t2 i2 hjl hcell2 hsrc2 hd2 hd2'
  go_wp2_with fail
  have hsl := Lib.hid (hsrc1'.keep B2.out)
  obtain ⟨T, hT⟩ : ∃ T, Hid (T = strOfNums (y.drop s)) := ⟨_, rfl⟩
  have kt : ∀ g : Above w2.drew, (convert 22 9 (.slice (if d1 = s then S1 else Option.map (fun x => x.add s) S1) (y.length - s) (d1 - s))).run Try.prog g.1 = .ok (.string T) g.1 := fun g => by rw [hT.out]; exact run_text g.1 _ _ _ (y.drop s) (by rw [List.length_drop]) (Cut.src_cut (hsl.out.keep (Ext.trans (Ext.drew w2) g.2)) hsm hd1x)
  have hTs : T.size ≤ 10000 := by rw [hT.out, str_size (HYB.out.drop s), List.length_drop]; omega
  refine wp_region_segs [([0, 1, 3, 4, 5, 6], 2), ([], 7)] [8] (by kernel_rfl) (by kernel_rfl) (by kernel_rfl) (by kernel_rfl) (fun _ _ d _ _ h => by cases d <;> exact h) ?_
  refine wpSegs_next (by simp [pickOps]; rfl) ?_
  repeat (go_big_quiet_step (fail))
  refine wpQuiet_nil ?_
  refine wpOp_alone rfl rfl (fun K hK => ?_)
  go_simp
  clear kt
  generalize (if d1 = s then S1 else Option.map (fun x => x.add s) S1) = S9
  refine (short_any none 0 0 [] (s : Int) _ rfl Src.none_ (by omega) (by omega) (by omega)).mono ?_
  rintro e w3 ⟨v3, rfl, A4, n4, c4, rfl, hn4, ho4, hb3⟩
  rw [Int.toNat_natCast] at hn4 ho4
  have hn4' : n4 ≤ 20 := by have := shortOf_ten s (by omega); rw [List.nil_append] at hn4; omega
  have HN4 := Lib.hid hn4
  have HO4 := Lib.hid ho4
  refine hK _ _ ⟨hb3, ?_⟩
  clear hK K hn4 ho4
  refine wpSegs_next (by simp [pickOps]; rfl) ?_
  refine wpQuiet_nil ?_
  refine wpOp_alone rfl rfl (fun K hK => ?_)
  go_simp
  refine (text_any A4 n4 c4 ([] ++ shortOf s) T _ HN4.out HO4.out.src (by omega) hTs).mono ?_
  rw [hT.out, HKL.out]
  rintro e w4 ⟨v4, rfl, A5, n5, c5, rfl, hn5, ho5, hb4⟩
  have B4 := Lib.hid ((B2.out.drew).trans ((Ext.trans hb3 hb4).mono B2.out.size))
  have HR4 := Lib.hid ((HR2.out.keep (Ext.drew w2)).keep (Ext.trans hb3 hb4))
  refine hK _ _ ⟨hb4, ?_⟩
  have hn5' : n5 ≤ 200 := by omega
  have hn5'' : 0 < n5 := by omega
  have HN5 := Lib.hid hn5
  have HO5 := Lib.hid ho5
  have r0 := row_level HR4.out
  have r3 := row_kids HR4.out
  clear hK K hn5 ho5 hb3 hb4 HN4 HO4 HKL B2 HR2 hsl
  refine wpSegs_last (by simp [pickOps]; rfl) ?_
  repeat (go_big_quiet_step (fail))
  refine wpQuiet_nil ?_
  obtain ⟨b6, o6, hA6, hlt6, hcell6⟩ := pt_at (HAt.out.kids.keep B4.out) i hkl
  have HP : Hid (n.kid i).Ok := getD_ok Hok.out.kidsB i
  have HC6 : Hid (Cells w4 b6 (o6 + i * 36) (pcells (n.kid i))) := hcell6
  have i3 : (i : Int) < (n.kids.length : Int) := by omega
  subst hA6
  clear hcell6
  obtain ⟨q, hq⟩ : ∃ q, Hid (q = n.kid i) := ⟨_, rfl⟩
  rw [← hq.out] at HP HC6 HE
  go_wp2_with (refine wpList_loadPs _ rfl rfl b6 (o6 + i * 36) rfl q HP.out.shaL HC6.out ?_)
  refine (put_any A5 n5 c5 (keyB n i) q _ HP.out HN5.out HO5.out.src (by omega)).mono ?_
  rw [← HE.out]
  rintro e w7 ⟨v7, rfl, A7, n7, c7, rfl, hn7, ho7, hb7⟩
  have HN7 := Lib.hid hn7
  have HO7 := Lib.hid ho7
  clear hn7 ho7
  go_wp2_with fail
  go_ret
  exact ⟨_, rfl, A7, n7, c7, rfl, HN7.out, HO7.out.more B4.out.size, B4.out.trans (hb7.mono B4.out.size)⟩
theorem entry_any {n : Nd} {A1 : Option Addr} {c1 : Nat} {ks : List Value} {A2 : Option Addr} {c2 : Nat} {vs : List Value} {A3 : Option Addr} {c3 : Nat} {w : World} (at_ : NdAt w n A1 c1 ks A2 c2 vs A3 c3) (ok : n.Ok) (f : Formed n) (i : Nat) (hi : i < n.keys.length) :
    Calls Try.prog 20 #[.agg (ndC n A1 c1 A2 c2 A3 c3), .int .i64 (i : Int)] w (Gives w (entB n i)) := by
  have hlo := f.lo
  rcases i with _ | j
  · by_cases h0 : n.level = 0
    · exact entry_f0 at_ ok f hi h0
    · exact entry_f1 at_ ok f hi (by omega)
  · by_cases h0 : n.level = 0
    · exact entry_n0 at_ ok f (j + 1) j rfl hi h0
    · exact entry_n1 at_ ok f (j + 1) j rfl hi (by omega)
end Lf
end Go.Proofs.Ytnoofmdhhlcbkaa

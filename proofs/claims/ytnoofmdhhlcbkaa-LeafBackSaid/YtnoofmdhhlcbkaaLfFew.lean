/- few: a yes or a no, of any node; nothing that was there is written. No conditions but those that stand in each lemma. -/
import Derived.Test.YtnoofmdhhlcbkaaLfForm
namespace Go.Proofs.Ytnoofmdhhlcbkaa
open Go.RowKit
namespace Lf
open Els

def SomeBool (w : World) (e : Ending) (w' : World) : Prop := ∃ b : Bool, e = .returned (.bool b) ∧ Below w.heap.size w w'
def InR (q : Int) : Prop := -9223372036854775808 ≤ q ∧ q ≤ 9223372036854775807
theorem inR_wrap64 (q : Int) : InR (wrap64 q) := by unfold InR wrap64; omega
/-- At a round's head. -/
def FewAt (w : World) (g m : Nat) (cs : Array Value) (s i : Value) (wr : World) : Prop := ∃ (k : Nat) (q : Int), k ≤ m ∧ i = .int .i64 (k : Int) ∧ s = .int .i64 q ∧ InR q ∧ Below w.heap.size w wr ∧ Row wr g 26 cs
set_option maxHeartbeats 4000000 in
theorem few_any {n : Nd} {A1 : Option Addr} {c1 : Nat} {ks : List Value} {A2 : Option Addr} {c2 : Nat} {vs : List Value} {A3 : Option Addr} {c3 : Nat} {w : World} (at_ : NdAt w n A1 c1 ks A2 c2 vs A3 c3) :
    Calls Try.prog 9 #[.agg (ndC n A1 c1 A2 c2 A3 c3)] w (SomeBool w) := by
  have HAt := Lib.hid at_
  have m1 : n.keys.length ≤ 9223372036854775807 := by have := at_.keys.cap; have := at_.keys.max; unfold maxLen at this; omega
  have m2 : n.vals.length ≤ 9223372036854775807 := by have := at_.vals.cap; have := at_.vals.max; unfold maxLen at this; omega
  have m3 : n.kids.length ≤ 9223372036854775807 := by have := at_.cap; have := at_.max; unfold maxLen at this; omega
  clear at_
  go_enter Try.func9, Try.ntmps9
  go_wp2_with (refine wpList_boxN rfl _ rfl rfl ?_; intro w1 hr1 hb1 hz1; have r1 := row_keys hr1; have r2 := row_vals hr1; have r3 := row_kids hr1; have HR := Lib.hid hr1; have HB := Lib.hid hb1; clear hr1 hb1)
  have HS0 : Hid (InR (wrap64 (wrap64 (↑n.keys.length + ↑n.vals.length) + ↑n.kids.length))) := inR_wrap64 _
  generalize wrap64 (wrap64 ((n.keys.length : Int) + (n.vals.length : Int)) + (n.kids.length : Int)) = q0 at *
  go_loopw [3, 4] (fun s i wr => FewAt w w.heap.size n.keys.length (ndC n A1 c1 A2 c2 A3 c3) s i wr) (fun _ i _ => n.keys.length - (intOf i).toNat)
  case atStart => exact ⟨0, _, Nat.zero_le _, rfl, rfl, HS0.out, HB.out, HR.out⟩
  case round =>
    obtain ⟨k1, q1, hk, rfl, rfl, hq, hb, hr⟩ := hrel
    have HQ1 := Lib.hid hq
    have HB1 := Lib.hid hb
    have HR1 := Lib.hid hr
    have r1 := row_keys hr
    obtain ⟨ql, qh⟩ := hq
    have HK := Lib.hid hk
    clear hk hb hr
    by_cases hk : k1 < n.keys.length
    · have i1 : (k1 : Int) < (n.keys.length : Int) := by omega
      by_cases hq : q1 < 3000
      · have d1 : decide (q1 < 3000) = true := by simp; omega
        obtain ⟨bb, oo, v, hA, hlt, hcell, S, d, hv, hsrc, hd1, hd2⟩ := (HAt.out.keys.keep HB1.out).at_ k1 hk
        subst hv hA
        obtain ⟨y, hy⟩ : ∃ y : Nat, Hid (y = (n.keys.getD k1 []).length) := ⟨_, rfl⟩
        have hym : y ≤ 9223372036854775807 := by rw [hy.out]; unfold maxLen at hd2; omega
        rw [← hy.out] at hcell
        clear hsrc hd1 hd2
        by_cases hmin : (5000 : Int) < (y : Int)
        · go_wp2_with fail
          all_goals first
            | (go_roundw
               case rel => exact ⟨k1 + 1, _, by have := HK.out; omega, by go_num, rfl, ⟨by omega, by omega⟩, HB1.out, HR1.out⟩
               case measure => simp [intOf]; omega)
        · go_wp2_with fail
          all_goals first
            | (go_roundw
               case rel => exact ⟨k1 + 1, _, by have := HK.out; omega, by go_num, rfl, ⟨by omega, by omega⟩, HB1.out, HR1.out⟩
               case measure => simp [intOf]; omega)
      · have d1 : decide (q1 < 3000) = false := by simp; omega
        go_wp2_with fail
        go_loopw [3, 5] (fun s i wr => FewAt w w.heap.size n.vals.length (ndC n A1 c1 A2 c2 A3 c3) s i wr) (fun _ i _ => n.vals.length - (intOf i).toNat)
        case atStart => exact ⟨0, _, Nat.zero_le _, rfl, rfl, HQ1.out, HB1.out, HR1.out⟩
        case round =>
          obtain ⟨k2, q2, hk, rfl, rfl, hq, hb, hr⟩ := hrel
          have HQ2 := Lib.hid hq
          have HB2 := Lib.hid hb
          have HR2 := Lib.hid hr
          have r2 := row_vals hr
          obtain ⟨ql, qh⟩ := hq
          have HK := Lib.hid hk
          clear hk hb hr
          by_cases hk : k2 < n.vals.length
          · have i1 : (k2 : Int) < (n.vals.length : Int) := by omega
            by_cases hq : q2 < 12000
            · have d1 : decide (q2 < 12000) = true := by simp; omega
              obtain ⟨bb, oo, v, hA, hlt, hcell, S, d, hv, hsrc, hd1, hd2⟩ := (HAt.out.vals.keep HB2.out).at_ k2 hk
              subst hv hA
              obtain ⟨y, hy⟩ : ∃ y : Nat, Hid (y = (n.vals.getD k2 []).length) := ⟨_, rfl⟩
              have hym : y ≤ 9223372036854775807 := by rw [hy.out]; unfold maxLen at hd2; omega
              rw [← hy.out] at hcell
              clear hsrc hd1 hd2
              by_cases hmin : (15000 : Int) < (y : Int)
              · go_wp2_with fail
                all_goals first
                  | (go_roundw
                     case rel => exact ⟨k2 + 1, _, by have := HK.out; omega, by go_num, rfl, ⟨by omega, by omega⟩, HB2.out, HR2.out⟩
                     case measure => simp [intOf]; omega)
              · go_wp2_with fail
                all_goals first
                  | (go_roundw
                     case rel => exact ⟨k2 + 1, _, by have := HK.out; omega, by go_num, rfl, ⟨by omega, by omega⟩, HB2.out, HR2.out⟩
                     case measure => simp [intOf]; omega)
            · have d1 : decide (q2 < 12000) = false := by simp; omega
              go_wp2_with fail
              go_ret
              exact ⟨_, rfl, HB2.out⟩
          · have hk' : ¬ (k2 : Int) < (n.vals.length : Int) := by omega
            go_wp2_with fail
            go_ret
            exact ⟨_, rfl, HB2.out⟩
    · have hk' : ¬ (k1 : Int) < (n.keys.length : Int) := by omega
      go_wp2_with fail
      go_loopw [3, 5] (fun s i wr => FewAt w w.heap.size n.vals.length (ndC n A1 c1 A2 c2 A3 c3) s i wr) (fun _ i _ => n.vals.length - (intOf i).toNat)
      case atStart => exact ⟨0, _, Nat.zero_le _, rfl, rfl, HQ1.out, HB1.out, HR1.out⟩
      case round =>
        obtain ⟨k2, q2, hk, rfl, rfl, hq, hb, hr⟩ := hrel
        have HQ2 := Lib.hid hq
        have HB2 := Lib.hid hb
        have HR2 := Lib.hid hr
        have r2 := row_vals hr
        obtain ⟨ql, qh⟩ := hq
        have HK := Lib.hid hk
        clear hk hb hr
        by_cases hk : k2 < n.vals.length
        · have i1 : (k2 : Int) < (n.vals.length : Int) := by omega
          by_cases hq : q2 < 12000
          · have d1 : decide (q2 < 12000) = true := by simp; omega
            obtain ⟨bb, oo, v, hA, hlt, hcell, S, d, hv, hsrc, hd1, hd2⟩ := (HAt.out.vals.keep HB2.out).at_ k2 hk
            subst hv hA
            obtain ⟨y, hy⟩ : ∃ y : Nat, Hid (y = (n.vals.getD k2 []).length) := ⟨_, rfl⟩
            have hym : y ≤ 9223372036854775807 := by rw [hy.out]; unfold maxLen at hd2; omega
            rw [← hy.out] at hcell
            clear hsrc hd1 hd2
            by_cases hmin : (15000 : Int) < (y : Int)
            · go_wp2_with fail
              all_goals first
                | (go_roundw
                   case rel => exact ⟨k2 + 1, _, by have := HK.out; omega, by go_num, rfl, ⟨by omega, by omega⟩, HB2.out, HR2.out⟩
                   case measure => simp [intOf]; omega)
            · go_wp2_with fail
              all_goals first
                | (go_roundw
                   case rel => exact ⟨k2 + 1, _, by have := HK.out; omega, by go_num, rfl, ⟨by omega, by omega⟩, HB2.out, HR2.out⟩
                   case measure => simp [intOf]; omega)
          · have d1 : decide (q2 < 12000) = false := by simp; omega
            go_wp2_with fail
            go_ret
            exact ⟨_, rfl, HB2.out⟩
        · have hk' : ¬ (k2 : Int) < (n.vals.length : Int) := by omega
          go_wp2_with fail
          go_ret
          exact ⟨_, rfl, HB2.out⟩
end Lf
end Go.Proofs.Ytnoofmdhhlcbkaa

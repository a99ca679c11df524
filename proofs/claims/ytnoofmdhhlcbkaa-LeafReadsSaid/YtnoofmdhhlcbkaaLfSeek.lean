/- The place of the last key that is not above another (plain mathematics), of keys that rise. No conditions but those that stand in each lemma. | Find: the last key of a node that is not above a key; nothing that was there is written. No conditions but those that stand in each lemma. -/
import Derived.Test.YtnoofmdhhlcbkaaLex
import Derived.Test.YtnoofmdhhlcbkaaLfVar
import Derived.Test.YtnoofmdhhlcbkaaCmp
import Derived.LoopTactic

namespace Go.Proofs.Ytnoofmdhhlcbkaa
namespace Lf
open Lex

/-- Each key is below the next. -/
def Rising (keys : List (List Int)) : Prop := ∀ i, i + 1 < keys.length → lexB (keys.getD i []) (keys.getD (i + 1) []) = true
theorem Rising.below {keys : List (List Int)} (h : Rising keys) : ∀ {i j : Nat}, i < j → j < keys.length → lexB (keys.getD i []) (keys.getD j []) = true
  | i, j, hij, hj => by
    induction hij with
    | refl => exact h _ hj
    | step _ ih => exact lex_trans (ih (by omega)) (h _ hj)
/-- The last key that is not above x stands at k; k = -1: there is none. -/
structure FindIs (keys : List (List Int)) (x : List Int) (k : Int) : Prop where
  lo : -1 ≤ k
  hi : k < (keys.length : Int)
  at_ : 0 ≤ k → lexB x (keys.getD k.toNat []) = false
  next : k + 1 < (keys.length : Int) → lexB x (keys.getD (k + 1).toNat []) = true
theorem find_key {keys : List (List Int)} (h : Rising keys) {i : Nat} (hi : i < keys.length) {k : Int} (f : FindIs keys (keys.getD i []) k) : k = (i : Int) := by
  rcases Int.lt_trichotomy k (i : Int) with hlt | he | hgt
  · exfalso
    have h1 := f.next (by omega)
    have hlo := f.lo
    by_cases e : (k + 1).toNat = i
    · rw [e, lex_irrefl] at h1; cases h1
    · rw [lex_asymm (h.below (i := (k + 1).toNat) (j := i) (by omega) hi)] at h1; cases h1
  · exact he
  · exfalso
    have h1 := f.at_ (by omega)
    have hhi := f.hi
    rw [h.below (i := i) (j := k.toNat) (by omega) (by omega)] at h1
    cases h1
/-- Of a key with more behind it the place is not before the key's. -/
theorem find_more {keys : List (List Int)} (h : Rising keys) {i : Nat} (hi : i < keys.length) (y : Int) (ys : List Int) {k : Int} (f : FindIs keys (keys.getD i [] ++ y :: ys) k) : (i : Int) ≤ k := by
  rcases Int.lt_or_le k (i : Int) with hlt | hle
  · exfalso
    have h1 := f.next (by omega)
    have hlo := f.lo
    have h2 := lex_more (keys.getD i []) y ys
    by_cases e : (k + 1).toNat = i
    · rw [e, lex_asymm h2] at h1; cases h1
    · rw [lex_asymm (lex_trans (h.below (i := (k + 1).toNat) (j := i) (by omega) hi) h2)] at h1; cases h1
  · exact hle
theorem find_one {keys : List (List Int)} (h : Rising keys) {x : List Int} {k j : Int} (f : FindIs keys x k) (g : FindIs keys x j) : k = j := by
  have key : ∀ {k j : Int}, FindIs keys x k → FindIs keys x j → ¬ k < j := fun {k j} f g hlt => by
    have h1 := f.next (by have := g.hi; omega)
    have h2 := g.at_ (by have := f.lo; omega)
    have := f.lo
    have := g.hi
    by_cases e : (k + 1).toNat = j.toNat
    · rw [e, h2] at h1; cases h1
    · rw [lex_trans h1 (h.below (i := (k + 1).toNat) (j := j.toNat) (by omega) (by omega))] at h2; cases h2
  have := key f g
  have := key g f
  omega
/-- All keys up to one are not above x, all behind it are: a search by halves, or one by one, ends so. -/
theorem find_at {keys : List (List Int)} {x : List Int} {a : Nat} (ha : a ≤ keys.length) (hl : ∀ i, i < a → lexB x (keys.getD i []) = false) (hr : a < keys.length → lexB x (keys.getD a []) = true) : FindIs keys x ((a : Int) - 1) := by
  refine ⟨by omega, by omega, fun h0 => hl _ (by omega), fun h1 => ?_⟩
  rw [show ((a : Int) - 1 + 1).toNat = a by omega]
  exact hr (by omega)
/-- What is below one key that is not above x is not above x; what is above one that is above x is. -/
theorem not_above {keys : List (List Int)} (h : Rising keys) {x : List Int} {i j : Nat} (hij : i ≤ j) (hj : j < keys.length) (hx : lexB x (keys.getD j []) = false) : lexB x (keys.getD i []) = false := by
  rcases Nat.lt_or_eq_of_le hij with hlt | he
  · cases e : lexB x (keys.getD i []) with
    | false => rfl
    | true => rw [lex_trans e (h.below hlt hj)] at hx; cases hx
  · rw [he]; exact hx
theorem above {keys : List (List Int)} (h : Rising keys) {x : List Int} {i j : Nat} (hij : i ≤ j) (hj : j < keys.length) (hx : lexB x (keys.getD i []) = true) : lexB x (keys.getD j []) = true := by
  rcases Nat.lt_or_eq_of_le hij with hlt | he
  · exact lex_trans hx (h.below hlt hj)
  · rw [← he]; exact hx
end Lf
end Go.Proofs.Ytnoofmdhhlcbkaa

namespace Go.Proofs.Ytnoofmdhhlcbkaa
open Go.RowKit
namespace Lf
open Els

/-- At a round's head: all keys from a on are above. -/
def SeekAt (keys : List (List Int)) (x : List Int) (i : Value) : Prop := ∃ a : Nat, a ≤ keys.length ∧ i = .int .i64 ((a : Int) - 1) ∧ ∀ j, a ≤ j → j < keys.length → Lex.lexB x (keys.getD j []) = true
theorem seek_end {keys : List (List Int)} {x : List Int} {a : Nat} (ha : a ≤ keys.length) (hr : ∀ j, a ≤ j → j < keys.length → Lex.lexB x (keys.getD j []) = true) (hl : 0 < a → Lex.lexB x (keys.getD (a - 1) []) = false) : FindIs keys x ((a : Int) - 1) := by
  refine ⟨by omega, by omega, fun h0 => ?_, fun h1 => ?_⟩
  · rw [show ((a : Int) - 1).toNat = a - 1 by omega]
    exact hl (by omega)
  · rw [show ((a : Int) - 1 + 1).toNat = a by omega]
    exact hr a (Nat.le_refl _) (by omega)
def FindEnds (keys : List (List Int)) (x : List Int) (w : World) (e : Ending) (w' : World) : Prop := ∃ k : Int, e = .returned (.int .i64 k) ∧ FindIs keys x k ∧ Below w.heap.size w w'
set_option maxHeartbeats 2000000 in
theorem find_any (n : Nd) (A1 : Option Addr) (c1 : Nat) (ks : List Value) (A2 : Option Addr) (c2 : Nat) (A3 : Option Addr) (c3 : Nat) (S : Option Addr) (m d : Nat) (x : List Int) (w : World) (hk : Rows w A1 c1 ks n.keys) (hb : ∀ l ∈ n.keys, IsBytes l) (hm : m = x.length) (hs : Src .u8 w S x) (hx : IsBytes x) :
    Calls Try.prog 12 #[.agg (ndC n A1 c1 A2 c2 A3 c3), .slice S m d] w (FindEnds n.keys x w) := by
  have hcap : n.keys.length ≤ 9223372036854775807 := by have := hk.cap; have := hk.max; unfold maxLen at this; omega
  have Hm := Lib.hid hm
  have Hs := Lib.hid hs
  have Hx := Lib.hid hx
  have Hb := Lib.hid hb
  have Hk := Lib.hid hk
  clear hm hs hx hb hk
  go_enter Try.func12, Try.ntmps12
  go_wp2_with (refine wpList_boxN rfl _ rfl rfl ?_; intro w1 hr1 hb1 hz1; have r1 := row_keys hr1; have HB1 := Lib.hid hb1; clear hb1 hr1)
  go_loop [5] (fun i => SeekAt n.keys x i) (fun i => (intOf i + 1).toNat)
  case atStart => exact ⟨n.keys.length, Nat.le_refl _, rfl, fun j h1 h2 => by omega⟩
  case round =>
    obtain ⟨a, ha, rfl, hall⟩ := hrel
    have HA := Lib.hid hall
    clear hall
    rcases a with _ | a
    · go_wp2_with fail
      go_ret
      exact ⟨_, rfl, seek_end (a := 0) (by omega) HA.out (by omega), HB1.out⟩
    · obtain ⟨b, o, v, hA, hlt, hcell, A, c, hv, hsrc, hc1, hc2⟩ := (Hk.out.keep HB1.out).at_ a ha
      subst hv
      subst hA
      obtain ⟨y, hy⟩ : ∃ y, Hid (y = n.keys.getD a []) := ⟨_, rfl⟩
      rw [← hy.out] at hcell hsrc
      have hyb : IsBytes y := by rw [hy.out]; exact getD_bytes Hb.out a
      have Hyb := Lib.hid hyb
      have Hsrc := Lib.hid hsrc
      clear hyb hsrc
      obtain ⟨q, hq⟩ : ∃ q, Hid (q = Lex.cmpI y x) := ⟨_, rfl⟩
      have e0 : ((a + 1 : Nat) : Int) - 1 = (a : Int) := by omega
      rw [e0]
      clear e0
      have hlen : (a : Int) < (n.keys.length : Int) := by omega
      by_cases hpos : 0 < q
      · have Hpos : Hid (Lex.lexB x y = true) := by have := hq.out; rw [← Lex.cmp_pos, ← this]; exact hpos
        go_wp2_with (go_at_call 21; refine (Lex.compare_any A S y.length m c d y x _ rfl Hsrc.out Hyb.out Hm.out (Hs.out.keep HB1.out) Hx.out).mono ?_; rw [← hq.out]; rintro e w' ⟨rfl, rfl⟩)
        go_round
        case rel => exact ⟨a, by omega, rfl, fun j h1 h2 => by
          rcases Nat.lt_or_eq_of_le h1 with h | h
          · exact HA.out j h h2
          · rw [← h, ← hy.out]; exact Hpos.out⟩
        case measure => simp [intOf]
      · have Hneg : Hid (Lex.lexB x y = false) := by
          have := hq.out
          cases e : Lex.lexB x y with
          | false => rfl
          | true => rw [← Lex.cmp_pos, ← this] at e; exact absurd e hpos
        go_wp2_with (go_at_call 21; refine (Lex.compare_any A S y.length m c d y x _ rfl Hsrc.out Hyb.out Hm.out (Hs.out.keep HB1.out) Hx.out).mono ?_; rw [← hq.out]; rintro e w' ⟨rfl, rfl⟩)
        go_ret
        refine ⟨_, rfl, ?_, HB1.out⟩
        have := seek_end (a := a + 1) (by omega) HA.out (fun _ => by rw [Nat.add_sub_cancel, ← hy.out]; exact Hneg.out)
        rwa [show ((a + 1 : Nat) : Int) - 1 = (a : Int) by omega] at this
end Lf
end Go.Proofs.Ytnoofmdhhlcbkaa

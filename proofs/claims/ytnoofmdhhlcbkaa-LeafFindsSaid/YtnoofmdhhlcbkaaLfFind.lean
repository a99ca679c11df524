/- The place of the last key that is not above another (plain mathematics), of keys that rise. No conditions but those that stand in each lemma. -/
import Derived.Test.YtnoofmdhhlcbkaaLex
namespace Go.Proofs.Ytnoofmdhhlcbkaa
namespace Lf
open Lex

/-- Each key is below the next. -/
def Rising (keys : List (List Int)) : Prop := ∀ i, i + 1 < keys.length → lexB (keys.getD i []) (keys.getD (i + 1) []) = true
theorem Rising.below {keys : List (List Int)} (h : Rising keys) : ∀ {i j : Nat}, i < j → j < keys.length → lexB (keys.getD i []) (keys.getD j []) = true
  | i, j, hij, hj => by
    induction hij with
    | refl => exact h _ hj
    | step _ ih => exact lex_trans (ih (by omega)) (h _ hj)
/-- The last key that is not above x stands at k; k = -1: there is none. -/
structure FindIs (keys : List (List Int)) (x : List Int) (k : Int) : Prop where
  lo : -1 ≤ k
  hi : k < (keys.length : Int)
  at_ : 0 ≤ k → lexB x (keys.getD k.toNat []) = false
  next : k + 1 < (keys.length : Int) → lexB x (keys.getD (k + 1).toNat []) = true
theorem find_key {keys : List (List Int)} (h : Rising keys) {i : Nat} (hi : i < keys.length) {k : Int} (f : FindIs keys (keys.getD i []) k) : k = (i : Int) := by
  rcases Int.lt_trichotomy k (i : Int) with hlt | he | hgt
  · exfalso
    have h1 := f.next (by omega)
    have hlo := f.lo
    by_cases e : (k + 1).toNat = i
    · rw [e, lex_irrefl] at h1; cases h1
    · rw [lex_asymm (h.below (i := (k + 1).toNat) (j := i) (by omega) hi)] at h1; cases h1
  · exact he
  · exfalso
    have h1 := f.at_ (by omega)
    have hhi := f.hi
    rw [h.below (i := i) (j := k.toNat) (by omega) (by omega)] at h1
    cases h1
/-- Of a key with more behind it the place is not before the key's. -/
theorem find_more {keys : List (List Int)} (h : Rising keys) {i : Nat} (hi : i < keys.length) (y : Int) (ys : List Int) {k : Int} (f : FindIs keys (keys.getD i [] ++ y :: ys) k) : (i : Int) ≤ k := by
  rcases Int.lt_or_le k (i : Int) with hlt | hle
  · exfalso
    have h1 := f.next (by omega)
    have hlo := f.lo
    have h2 := lex_more (keys.getD i []) y ys
    by_cases e : (k + 1).toNat = i
    · rw [e, lex_asymm h2] at h1; cases h1
    · rw [lex_asymm (lex_trans (h.below (i := (k + 1).toNat) (j := i) (by omega) hi) h2)] at h1; cases h1
  · exact hle
theorem find_one {keys : List (List Int)} (h : Rising keys) {x : List Int} {k j : Int} (f : FindIs keys x k) (g : FindIs keys x j) : k = j := by
  have key : ∀ {k j : Int}, FindIs keys x k → FindIs keys x j → ¬ k < j := fun {k j} f g hlt => by
    have h1 := f.next (by have := g.hi; omega)
    have h2 := g.at_ (by have := f.lo; omega)
    have := f.lo
    have := g.hi
    by_cases e : (k + 1).toNat = j.toNat
    · rw [e, h2] at h1; cases h1
    · rw [lex_trans h1 (h.below (i := (k + 1).toNat) (j := j.toNat) (by omega) (by omega))] at h2; cases h2
  have := key f g
  have := key g f
  omega
/-- All keys up to one are not above x, all behind it are: a search by halves, or one by one, ends so. -/
theorem find_at {keys : List (List Int)} {x : List Int} {a : Nat} (ha : a ≤ keys.length) (hl : ∀ i, i < a → lexB x (keys.getD i []) = false) (hr : a < keys.length → lexB x (keys.getD a []) = true) : FindIs keys x ((a : Int) - 1) := by
  refine ⟨by omega, by omega, fun h0 => hl _ (by omega), fun h1 => ?_⟩
  rw [show ((a : Int) - 1 + 1).toNat = a by omega]
  exact hr (by omega)
/-- What is below one key that is not above x is not above x; what is above one that is above x is. -/
theorem not_above {keys : List (List Int)} (h : Rising keys) {x : List Int} {i j : Nat} (hij : i ≤ j) (hj : j < keys.length) (hx : lexB x (keys.getD j []) = false) : lexB x (keys.getD i []) = false := by
  rcases Nat.lt_or_eq_of_le hij with hlt | he
  · cases e : lexB x (keys.getD i []) with
    | false => rfl
    | true => rw [lex_trans e (h.below hlt hj)] at hx; cases hx
  · rw [he]; exact hx
theorem above {keys : List (List Int)} (h : Rising keys) {x : List Int} {i j : Nat} (hij : i ≤ j) (hj : j < keys.length) (hx : lexB x (keys.getD i []) = true) : lexB x (keys.getD j []) = true := by
  rcases Nat.lt_or_eq_of_le hij with hlt | he
  · exact lex_trans hx (h.below hlt hj)
  · rw [← he]; exact hx
end Lf
end Go.Proofs.Ytnoofmdhhlcbkaa

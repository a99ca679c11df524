/- The order of texts (of the first bytes that differ), of whatever bytes: irreflexive, transitive, total; and that of the model's strings. -/
import Derived.Test.YtnoofmdhhlcbkaaMem
import Derived.Lib.Strings
namespace Go.Proofs.Ytnoofmdhhlcbkaa
open Go.RowKit
namespace Lex
/-- The texts' order. -/
def lexB : List Int → List Int → Bool
  | _, [] => false
  | [], _ :: _ => true
  | x :: xs, y :: ys => decide (x < y) || (decide (x = y) && lexB xs ys)
theorem lex_cons (x y : Int) (xs ys : List Int) : lexB (x :: xs) (y :: ys) = true ↔ x < y ∨ (x = y ∧ lexB xs ys = true) := by simp [lexB]
theorem lex_none (xs : List Int) : lexB xs [] = false := by cases xs <;> rfl
theorem lex_irrefl : ∀ xs : List Int, lexB xs xs = false
  | [] => rfl
  | x :: xs => by simp [lexB, lex_irrefl xs]
theorem lex_trans : ∀ {xs ys zs : List Int}, lexB xs ys = true → lexB ys zs = true → lexB xs zs = true
  | _, [], _, h, _ => by rw [lex_none] at h; cases h
  | _, _ :: _, [], _, h => by rw [lex_none] at h; cases h
  | [], _ :: _, _ :: _, _, _ => rfl
  | x :: xs, y :: ys, z :: zs, h1, h2 => by
    rw [lex_cons] at h1 h2 ⊢
    rcases h1 with h1 | ⟨e1, h1⟩
    · rcases h2 with h2 | ⟨e2, h2⟩
      · exact .inl (by omega)
      · exact .inl (by omega)
    · rcases h2 with h2 | ⟨e2, h2⟩
      · exact .inl (by omega)
      · exact .inr ⟨by omega, lex_trans h1 h2⟩
theorem lex_total : ∀ {xs ys : List Int}, lexB xs ys = false → lexB ys xs = false → xs = ys
  | [], [], _, _ => rfl
  | [], _ :: _, h, _ => by cases h
  | _ :: _, [], _, h => by cases h
  | x :: xs, y :: ys, h1, h2 => by
    have n1 : ¬ (x < y ∨ (x = y ∧ lexB xs ys = true)) := fun h => by rw [(lex_cons x y xs ys).2 h] at h1; cases h1
    have n2 : ¬ (y < x ∨ (y = x ∧ lexB ys xs = true)) := fun h => by rw [(lex_cons y x ys xs).2 h] at h2; cases h2
    have e : x = y := by omega
    subst e
    have i1 : lexB xs ys = false := by cases h : lexB xs ys <;> simp_all
    have i2 : lexB ys xs = false := by cases h : lexB ys xs <;> simp_all
    rw [lex_total i1 i2]
theorem lex_asymm {xs ys : List Int} (h : lexB xs ys = true) : lexB ys xs = false := by
  cases e : lexB ys xs with
  | false => rfl
  | true => have := lex_trans h e; rw [lex_irrefl] at this; cases this
/-- A text and something behind it. -/
theorem lex_more : ∀ (xs : List Int) (y : Int) (ys : List Int), lexB xs (xs ++ y :: ys) = true
  | [], _, _ => rfl
  | x :: xs, y, ys => by rw [List.cons_append, lex_cons]; exact .inr ⟨rfl, lex_more xs y ys⟩
/-- Nothing is between a text and that with a zero behind it. -/
theorem lex_zero {xs ys : List Int} (h : lexB xs ys = true) (hy : ∀ y ∈ ys, 0 ≤ y) : lexB ys (xs ++ [0]) = false := by
  induction xs generalizing ys with
  | nil =>
    cases ys with
    | nil => cases h
    | cons y ys =>
      cases e : lexB (y :: ys) ([] ++ [0]) with
      | false => rfl
      | true =>
        rw [List.nil_append, lex_cons, lex_none] at e
        have := hy y (List.mem_cons_self ..)
        rcases e with e | ⟨_, e⟩
        · omega
        · cases e
  | cons x xs ih =>
    cases ys with
    | nil => cases h
    | cons y ys =>
      cases e : lexB (y :: ys) (x :: xs ++ [0]) with
      | false => rfl
      | true =>
        rw [List.cons_append, lex_cons] at e
        rw [lex_cons] at h
        rcases h with h | ⟨h1, h2⟩
        · rcases e with e | ⟨e, _⟩ <;> omega
        · rcases e with e | ⟨_, e⟩
          · omega
          · rw [ih h2 (fun z hz => hy z (List.mem_cons_of_mem _ hz))] at e; cases e
theorem less_map : ∀ (xs ys : List Int), IsBytes xs → IsBytes ys → Op.bytesLess (xs.map fun n => UInt8.ofNat n.toNat) (ys.map fun n => UInt8.ofNat n.toNat) = lexB xs ys
  | xs, [], _, _ => by cases xs <;> rfl
  | [], _ :: _, _, _ => rfl
  | x :: xs, y :: ys, hx, hy => by
    have a := hx x (List.mem_cons_self ..)
    have b := hy y (List.mem_cons_self ..)
    have ih := less_map xs ys (fun z hz => hx z (List.mem_cons_of_mem _ hz)) (fun z hz => hy z (List.mem_cons_of_mem _ hz))
    rw [List.map_cons, List.map_cons, Op.bytesLess, lexB, ih]
    have e1 : decide (UInt8.ofNat x.toNat < UInt8.ofNat y.toNat) = decide (x < y) := by
      rw [Bool.eq_iff_iff, decide_eq_true_eq, decide_eq_true_eq, UInt8.lt_iff_toNat_lt, UInt8.toNat_ofNat', UInt8.toNat_ofNat']
      omega
    have e2 : (UInt8.ofNat x.toNat == UInt8.ofNat y.toNat) = decide (x = y) := by
      rw [Bool.eq_iff_iff, beq_iff_eq, decide_eq_true_eq, ← UInt8.toNat_inj, UInt8.toNat_ofNat', UInt8.toNat_ofNat']
      omega
    rw [e1, e2]
theorem strOf_data (xs : List Int) : (strOfNums xs).data.toList = xs.map fun n => UInt8.ofNat n.toNat := by simp [strOfNums]
/-- The order of the model's strings. -/
theorem less_texts (xs ys : List Int) (hx : IsBytes xs) (hy : IsBytes ys) : Op.bytesLess (strOfNums xs).toList (strOfNums ys).toList = lexB xs ys := by
  rw [Lib.toList_data, Lib.toList_data, strOf_data, strOf_data, less_map xs ys hx hy]
end Lex
end Go.Proofs.Ytnoofmdhhlcbkaa

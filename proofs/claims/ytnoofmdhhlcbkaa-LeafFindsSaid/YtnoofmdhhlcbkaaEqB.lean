/- bytes.Equal: of any two rows of bytes; nothing is written. No conditions but those that stand in each lemma. -/
import Derived.Test.YtnoofmdhhlcbkaaLex
namespace Go.Proofs.Ytnoofmdhhlcbkaa
open Go.RowKit
namespace Lex
theorem eq_texts (xs ys : List Int) (hx : IsBytes xs) (hy : IsBytes ys) : ((strOfNums xs).toList == (strOfNums ys).toList) = decide (xs = ys) := by
  rw [Bool.eq_iff_iff, beq_iff_eq, decide_eq_true_eq, Lib.toList_data, Lib.toList_data]
  constructor
  · intro h
    have : numsOf (strOfNums xs) = numsOf (strOfNums ys) := by unfold numsOf; rw [h]
    rwa [numsOf_strOfNums xs hx, numsOf_strOfNums ys hy] at this
  · exact fun h => by rw [h]
theorem equal_any (A S : Option Addr) (n m c d : Nat) (xs ys : List Int) (w : World) (hn : n = xs.length) (hs : Src .u8 w A xs) (hx : IsBytes xs) (hm : m = ys.length) (hr : Src .u8 w S ys) (hy : IsBytes ys) :
    Calls Try.prog 15 #[.slice A n c, .slice S m d] w fun e w' => e = .returned (.bool (decide (xs = ys))) ∧ w = w' := by
  have h1 := run_text w A n c xs hn hs
  have h2 := run_text w S m d ys hm hr
  have HE := Lib.hid (eq_texts xs ys hx hy)
  generalize decide (xs = ys) = r at *
  generalize strOfNums xs = s at *
  generalize strOfNums ys = t at *
  clear hs hr hx hy hn hm
  go_enter Try.func15, Try.ntmps15
  go_wp2
  go_ret
  rw [HE.out]
  exact ⟨rfl, rfl⟩
end Lex
end Go.Proofs.Ytnoofmdhhlcbkaa

/- What reads a text as a time: its parts, its bytes, what told's answer is worth. No conditions but those that stand in each lemma. -/
import Derived.Test.YtfbgcjpakahocaaDoorClkTold
import Derived.Test.YtfbgcjpakahocaaDoorDrawT
import Derived.Shelf.Abstract
import Derived.Deep.DeepCutAuto
import Derived.Deep.CutBlock
namespace Go.Proofs.YtfbgcjpakahocaaDoor
open Go.RowKit Go.Shelf
namespace Clk

theorem nums_extract (s : ByteArray) (a b : Nat) : numsOf (s.extract a b) = partW (numsOf s) a b := by
  unfold partW numsOf
  rw [ByteArray.data_extract, Array.toList_extract, List.extract_eq_take_drop, ← List.map_take, ← List.map_drop, List.drop_take]
theorem lit_bytes (l : List Int) (h : l.all (fun x => decide (0 ≤ x ∧ x < 256)) = true) : IsBytes l := fun x hx => by
  have := List.all_eq_true.1 h x hx
  simpa using this
theorem dayW_bytes (b : List Int) (hb : IsBytes b) (t : Tm) : IsBytes (dayW b t) := (digK_bytes 2 _).append (hb.append ((digK_bytes 2 _).append (hb.append (digK_bytes 2 _))))
theorem yearW_bytes (b : List Int) (hb : IsBytes b) (t : Tm) : IsBytes (yearW b t) := (digK_bytes 4 _).append (hb.append ((digK_bytes 2 _).append (hb.append (digK_bytes 2 _))))
theorem isoW_bytes (t : Tm) : IsBytes (isoW t) := (yearW_bytes _ (lit_bytes _ (by decide)) t).append (IsBytes.cons (by decide) ((dayW_bytes _ (lit_bytes _ (by decide)) t).append (lit_bytes _ (by decide))))
theorem shortW_bytes (t : Tm) : IsBytes (shortW t) := (yearW_bytes _ IsBytes.nil t).append (IsBytes.cons (by decide) ((dayW_bytes _ IsBytes.nil t).append (lit_bytes _ (by decide))))
theorem webW_bytes (t : Tm) : IsBytes (webW t) := (wdN_bytes _).append (IsBytes.cons (by decide) (IsBytes.cons (by decide) ((digK_bytes 2 _).append (IsBytes.cons (by decide) ((moN_bytes _).append (IsBytes.cons (by decide) ((digK_bytes 4 _).append (IsBytes.cons (by decide) ((dayW_bytes _ (lit_bytes _ (by decide)) t).append (lit_bytes _ (by decide)))))))))))
theorem tell_bytes {W : Tm → List Int} (h : ∀ t, IsBytes (W t)) (t : Tm) : IsBytes (tellW W t) := by
  unfold tellW
  split
  · exact h t
  · exact IsBytes.nil
theorem told_read {W : Tm → List Int} {t q : Tm} {xs : List Int} {b : Bool} (hne : xs ≠ []) (hb : ∀ t', t'.Right → W t' = xs → t = t') (h : ToldTo W t xs q b) : ReadTo W xs (.returned (.tuple #[tmV q, .bool b])) := by
  rcases h with ⟨h, rfl, rfl⟩ | ⟨h, rfl, rfl⟩
  · by_cases hr : q.Right
    · exact .inl ⟨q, hr, by rw [← h, tell_yes hr], rfl⟩
    · rw [tell_no hr] at h
      exact absurd h.symm hne
  · refine .inr ⟨fun t' hr he => h ?_, rfl⟩
    rw [hb t' hr he, tell_yes hr, he]
end Clk
end Go.Proofs.YtfbgcjpakahocaaDoor

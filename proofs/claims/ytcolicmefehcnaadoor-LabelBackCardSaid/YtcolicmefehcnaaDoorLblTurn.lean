/- Bits turned in what is sealed, one by one, and what Open tells of them (plain mathematics). No conditions but those that stand in each lemma. -/
import Derived.Test.YtcolicmefehcnaaDoorLblNums
import Derived.Test.YtcolicmefehcnaaDoorTurnNums
namespace Go.Proofs.YtcolicmefehcnaaDoor
open Go.RowKit

/-- The first k of 32 bits from bit t on are turned, as b tells. -/
def Turned (xs ys : List Int) (b : Wd) (t k : Nat) : Prop :=
  ys.length = 512 ∧ IsBytes ys ∧ (b = 0#32 → ys = xs) ∧ foldW (~~~0#32) ys = foldW (~~~0#32) xs ^^^ stepsW (8 * xs.length - t) (lowW b k) ∧
    (t + 32 ≤ 4000 → foldW (~~~0#32) (ys.take 500) = foldW (~~~0#32) (xs.take 500) ^^^ stepsW (8 * (xs.take 500).length - t) (lowW b k) ∧ ys.drop 500 = xs.drop 500) ∧
    (4000 < t + 32 → ys.take 72 = xs.take 72)
theorem turned_start {xs : List Int} (hl : xs.length = 512) (hx : IsBytes xs) (b : Wd) (t : Nat) : Turned xs xs b t 0 := by
  refine ⟨hl, hx, fun _ => rfl, ?_, fun _ => ⟨?_, rfl⟩, fun _ => rfl⟩
  · unfold lowW; rw [stepsW_zero, BitVec.xor_zero]
  · unfold lowW; rw [stepsW_zero, BitVec.xor_zero]
theorem turned_skip {xs ys : List Int} {b : Wd} {t k : Nat} (h : Turned xs ys b t k) (hb : b.getLsbD k = false) : Turned xs ys b t (k + 1) := by
  unfold Turned
  rw [lowW_skip b k hb]
  exact h
theorem turned_set {xs ys : List Int} {b : Wd} {t k : Nat} (h : Turned xs ys b t k) (hl : xs.length = 512) (ht : t + 32 ≤ 4096) (hk : k < 32) (hb : b.getLsbD k = true) (y : Int) (hy0 : 0 ≤ y ∧ y < 256)
    (hy : BitVec.ofInt 32 y = BitVec.ofInt 32 (ys.getD ((t + k) / 8) 0) ^^^ BitVec.twoPow 32 ((t + k) % 8)) : Turned xs (ys.set ((t + k) / 8) y) b t (k + 1) := by
  obtain ⟨h1, h2, h3, h4, h5, h6⟩ := h
  refine ⟨by rw [List.length_set]; exact h1, h2.set_ _ y hy0, fun e => ?_, ?_, fun hh => ⟨?_, ?_⟩, fun hh => ?_⟩
  · rw [e] at hb; simp at hb
  · exact foldW_round xs ys _ b t k y (by rw [h1, hl]) (by rw [hl]; omega) hk hb hy h4
  · obtain ⟨h7, _⟩ := h5 hh
    have hq : (t + k) / 8 < 500 := by omega
    rw [List.take_set]
    refine foldW_round (xs.take 500) (ys.take 500) _ b t k y (by rw [List.length_take, List.length_take, h1, hl]) (by rw [List.length_take, hl]; omega) hk hb ?_ h7
    rw [List.getD_eq_getElem?_getD, List.getElem?_take, if_pos hq, ← List.getD_eq_getElem?_getD]
    exact hy
  · rw [List.drop_set_of_lt (by omega)]
    exact (h5 hh).2
  · rw [List.take_set_of_le (by omega)]
    exact h6 hh
theorem turned_end {l : Lb} (hok : l.Ok) (hr : l.right = true) {ys : List Int} {b : Wd} {t : Nat} (h : Turned (sealB l) ys b t 32) : (b = 0#32 ∧ ys = sealB l) ∨ ((uv b == 0) = false ∧ (openE ys = 11 ∨ openE ys = 12)) := by
  obtain ⟨h1, _, h3, h4, h5, h6⟩ := h
  rcases turns_end _ _ _ _ h4 with ⟨hb, _⟩ | ⟨hne, hb⟩
  · exact .inl ⟨hb, h3 hb⟩
  · refine .inr ⟨hb, ?_⟩
    by_cases ht : t + 32 ≤ 4000
    · obtain ⟨h7, h8⟩ := h5 ht
      rcases turns_end _ _ _ _ h7 with ⟨hb0, _⟩ | ⟨hne2, _⟩
      · rw [hb0] at hb; cases hb
      · refine .inr (open_sum hok h1 h8 ?_)
        have hbd := seal_body l hok.root.shaL []
        rw [List.append_nil] at hbd
        rw [hbd] at hne2
        exact hne2
    · refine open_other hok hr h1 (h6 (by omega)) fun e => ?_
      rw [e] at hne
      simp at hne
end Go.Proofs.YtcolicmefehcnaaDoor

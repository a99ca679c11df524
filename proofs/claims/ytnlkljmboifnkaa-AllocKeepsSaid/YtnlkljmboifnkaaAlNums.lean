/- Plain mathematics: where Find finds, and where it does not. No program, no conditions but those that stand in each lemma. -/
import Derived.Test.YtnlkljmboifnkaaSpBackNums
namespace Go.Proofs.Ytnlkljmboifnkaa
namespace Spans
theorem findIn_lo : ∀ (l : List P) (n : Int), (∀ x ∈ l, R x) → -1 ≤ findIn l n
  | [], _, _ => Int.le_refl _
  | x :: l, n, h => by
    have hx := h x (by simp)
    unfold R at hx
    unfold findIn
    split
    · omega
    · exact findIn_lo l n (fun y hy => h y (by simp [hy]))
theorem findIn_spec : ∀ (l : List P) (n : Int), (∀ x ∈ l, R x) → 0 ≤ findIn l n → ∃ x ∈ l, x.1 = findIn l n ∧ n ≤ x.2 - x.1
  | [], _, _, h => by simp [findIn] at h
  | x :: l, n, hr, h => by
    unfold findIn at h ⊢
    split
    · rename_i hx; exact ⟨x, by simp, rfl, hx⟩
    · rename_i hx
      rw [if_neg hx] at h
      obtain ⟨y, hy, h1⟩ := findIn_spec l n (fun y hy => hr y (by simp [hy])) h
      exact ⟨y, by simp [hy], h1⟩
theorem findIn_none : ∀ (l : List P) (n : Int), (∀ x ∈ l, R x) → findIn l n < 0 → ∀ x ∈ l, x.2 - x.1 < n
  | [], _, _, _ => fun _ h => (by cases h)
  | x :: l, n, hr, h => by
    have hx := hr x (by simp)
    unfold R at hx
    unfold findIn at h
    split at h
    · omega
    · rename_i hn
      intro y hy
      rcases List.mem_cons.1 hy with rfl | hy
      · omega
      · exact findIn_none l n (fun z hz => hr z (by simp [hz])) h y hy
theorem findL_spec {l : List P} {n : Int} (h : 0 ≤ findL l n) : VL l ∧ 1 ≤ n ∧ ∃ x ∈ l, x.1 = findL l n ∧ n ≤ x.2 - x.1 := by
  unfold findL at h ⊢
  split at h
  · omega
  · rename_i h1
    split at h
    · rename_i hv
      have hv' := (validB_iff l).1 hv
      rw [if_neg h1, if_pos hv]
      exact ⟨hv', by omega, findIn_spec l n hv'.1 h⟩
    · omega
theorem findL_lo (l : List P) (n : Int) : -1 ≤ findL l n := by
  unfold findL
  split
  · exact Int.le_refl _
  · split
    · rename_i hv; exact findIn_lo l n ((validB_iff l).1 hv).1
    · exact Int.le_refl _
theorem findL_none {l : List P} {n : Int} (hv : VL l) (h1 : 1 ≤ n) (h : findL l n < 0) : ∀ x ∈ l, x.2 - x.1 < n := by
  unfold findL at h
  rw [if_neg (by omega), if_pos ((validB_iff l).2 hv)] at h
  exact findIn_none l n hv.1 h
theorem findL_hi {l : List P} {n : Int} (h : 0 ≤ findL l n) : findL l n + n ≤ 1099511627776 := by
  obtain ⟨hv, _, x, hx, e, hn⟩ := findL_spec h
  have := hv.1 x hx
  unfold R at this
  omega
theorem findL_top (l : List P) (n : Int) : findL l n ≤ 1099511627776 := by
  by_cases h : 0 ≤ findL l n
  · obtain ⟨hv, _, x, hx, e, hn⟩ := findL_spec h
    have := hv.1 x hx
    unfold R at this
    omega
  · omega
end Spans
end Go.Proofs.Ytnlkljmboifnkaa

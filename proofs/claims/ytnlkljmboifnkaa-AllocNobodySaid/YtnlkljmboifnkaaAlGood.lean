/- Plain mathematics of an alloc's state: its lists are valid and lie within its bounds, whatever is taken, given, committed, undone; how many numbers they have. No conditions but those that stand in each lemma. -/
import Derived.Test.YtnlkljmboifnkaaAlCommit
import Derived.Test.YtnlkljmboifnkaaSpBits
namespace Go.Proofs.Ytnlkljmboifnkaa
namespace Spans
theorem sum_cntN (N : Nat) : ∀ (l : List P), VL l → (∀ x ∈ l, x.2 ≤ (N : Int)) → sum l = cnt (inB l) N
  | [], _, _ => by
    have : ∀ n, cnt (inB []) n = 0 := fun n => by
      induction n with
      | zero => rfl
      | succ n ih => rw [cnt, ih]; rfl
    rw [this]; rfl
  | x :: l, hv, h => by
    obtain ⟨hx, hall, hv'⟩ := VL.cons.1 hv
    have ih := sum_cntN N l hv' fun y hy => h y (by simp [hy])
    have hx2 := h x (by simp)
    unfold R at hx
    rw [sum_cons, ih]
    have e : cnt (inB (x :: l)) N = cnt (fun k => (decide (x.1 ≤ (k : Int)) && decide ((k : Int) < x.2)) || inB l k) N := cnt_congr N fun k _ => by simp [inB]
    rw [e, cnt_or N (fun k _ => by
      rintro ⟨h1, h2⟩
      obtain ⟨y, hy, h3⟩ := (inB_iff l k).1 h2
      have := hall y hy
      unfold has1 at h3
      simp at h1
      omega), cnt_span x.1 x.2 (by omega) (by omega) N]
    omega
theorem cnt_bounds (p : Nat → Bool) : ∀ k : Nat, 0 ≤ cnt p k ∧ cnt p k ≤ (k : Int)
  | 0 => by simp [cnt]
  | k + 1 => by
    have := cnt_bounds p k
    rw [cnt]
    split <;> omega
/-- The list is valid, and has numbers from lo to hi alone. -/
def Good (lo hi : Int) (l : List P) : Prop := VL l ∧ ∀ n, In l n → lo ≤ n ∧ n < hi
section
variable {lo hi : Int} {l : List P} {s : P}
theorem Good.nil : Good lo hi [] := ⟨VL.nil, fun n h => absurd h (In.nil n)⟩
theorem Good.add (h : Good lo hi l) (hs : R s) (h1 : lo ≤ s.1) (h2 : s.2 ≤ hi) : Good lo hi (addL l s) := ⟨addL_valid h.1 hs, fun n hn => by
  rcases (addL_in h.1 hs n).1 hn with h3 | h3
  · exact h.2 n h3
  · unfold has1 at h3; omega⟩
theorem Good.rem (h : Good lo hi l) (hs : R s) : Good lo hi (remL l s) := ⟨remL_valid h.1 hs, fun n hn => h.2 n ((remL_in h.1 hs n).1 hn).1⟩
theorem Good.high (h : Good lo hi l) : ∀ x ∈ l, x.2 ≤ hi := fun x hx => by
  have hr := h.1.1 x hx
  unfold R at hr
  have := (h.2 (x.2 - 1) ⟨x, hx, by unfold has1; omega⟩).2
  omega
theorem total_sum (hv : VL l) : totalL l = sum l := by unfold totalL; rw [if_pos ((validB_iff l).2 hv)]
theorem Good.total (h : Good lo hi l) (N : Nat) (hN : hi ≤ N) : totalL l = cnt (inB l) N := by
  rw [total_sum h.1]
  exact sum_cntN N l h.1 fun x hx => by have := h.high x hx; omega
theorem Good.len (h : Good lo hi l) (h0 : 0 ≤ hi) : (l.length : Int) ≤ hi := by
  have h1 := len_le_sum l h.1.1
  have h2 := h.total hi.toNat (by omega)
  rw [total_sum h.1] at h2
  have := (cnt_bounds (inB l) hi.toNat).2
  omega
/-- What is taken out of a list that has it makes it so much less. -/
theorem removed (hv : VL l) (hs : R s) (hin : ∀ n, has1 s n → In l n) : totalL (remL l s) = totalL l - (s.2 - s.1) := by
  have hm : meetsB (remL l s) s = false := by
    cases h : meetsB (remL l s) s with
    | false => rfl
    | true =>
      obtain ⟨n, h1, h2⟩ := (meetsB_iff (remL_valid hv hs) hs).1 h
      exact absurd h2 ((remL_in hv hs n).1 h1).2
  have he : addL (remL l s) s = l := by
    refine one_list _ _ (addL_valid (remL_valid hv hs) hs) hv fun n => ?_
    rw [addL_in (remL_valid hv hs) hs, remL_in hv hs]
    constructor
    · rintro (h | h)
      · exact h.1
      · exact hin n h
    · intro h
      by_cases h1 : has1 s n
      · exact .inr h1
      · exact .inl ⟨h, h1⟩
  have := total_added (remL_valid hv hs) hs hm
  rw [he] at this
  omega
/-- What Find finds is there. -/
theorem find_in {n : Int} (h : 0 ≤ findL l n) : R (findL l n, findL l n + n) ∧ ∀ k, has1 (findL l n, findL l n + n) k → In l k := by
  obtain ⟨hv, h1, x, hx, e, hn⟩ := findL_spec h
  have hr := hv.1 x hx
  refine ⟨?_, fun k hk => ⟨x, hx, ?_⟩⟩
  · unfold R at hr ⊢
    simp only
    omega
  · unfold has1 at hk ⊢
    simp only at hk
    omega
theorem find_removed {n : Int} (h : 0 ≤ findL l n) : totalL (remL l (findL l n, findL l n + n)) = totalL l - n := by
  obtain ⟨hv, _⟩ := findL_spec h
  obtain ⟨hr, hin⟩ := find_in h
  rw [removed hv hr hin]
  simp only
  omega
theorem find_total {n : Int} (h : 0 ≤ findL l n) : n ≤ totalL l := by
  have := find_removed h
  have := (total_bounds (l := remL l (findL l n, findL l n + n))).1
  omega
theorem find_one (hv : VL l) (h : 1 ≤ totalL l) : 0 ≤ findL l 1 := by
  rcases Int.lt_or_le (findL l 1) 0 with h1 | h1
  · have h2 := findL_none hv (by omega) h1
    cases l with
    | nil => rw [total_sum hv] at h; simp [sum] at h
    | cons x r =>
      have := h2 x (by simp)
      have hr := hv.1 x (by simp)
      unfold R at hr
      omega
  · exact h1
end
end Spans

/-- The state of an alloc, as calls leave it. -/
structure AlGood (s : AlS) : Prop where
  lo0 : 0 ≤ s.lo
  lohi : s.lo ≤ s.hi
  hi1 : s.hi ≤ 8192
  res0 : 0 ≤ s.res
  res1 : s.res ≤ s.hi - s.lo
  ep0 : 0 ≤ s.ep
  free : Spans.Good s.lo s.hi s.free
  settled : Spans.Good s.lo s.hi s.settled
  waits : Spans.Good s.lo s.hi s.waits
section
variable {s s0 : AlS} {t : Sp} {n : Int}
theorem AlGood.ok (h : AlGood s) (he : s.ep ≤ 1000000000) : AlOk s := by
  have h0 := h.lo0
  have h1 := h.lohi
  have h2 := h.hi1
  have h3 := h.free.len (by omega)
  have h4 := h.settled.len (by omega)
  have h5 := h.waits.len (by omega)
  have h6 := h.res1
  exact ⟨h0, h1, h2, h.res0, by omega, h.ep0, he, by omega, by omega, by omega⟩
theorem AlGood.within (h : AlGood s) (hw : alWithin s t = true) : Spans.R t ∧ s.lo ≤ t.1 ∧ t.2 ≤ s.hi := by
  have h0 := h.lo0
  have h1 := h.hi1
  unfold alWithin at hw
  rw [decide_eq_true_eq] at hw
  refine ⟨?_, by omega, by omega⟩
  unfold Spans.R
  omega
theorem alInE_zero (h : alInE s t = 0) : alWithin s t = true ∧ Spans.meetsB s.free t = false ∧ Spans.meetsB s.waits t = false := by
  unfold alInE at h
  split at h
  · rename_i hw
    split at h
    · omega
    · rename_i hm
      simp only [Bool.or_eq_true, not_or, Bool.not_eq_true] at hm
      exact ⟨hw, hm.1, hm.2⟩
  · omega
theorem AlGood.taken (h : AlGood s) (hf : 0 ≤ Spans.findL s.free n) : AlGood (alTaken s n) :=
  ⟨h.lo0, h.lohi, h.hi1, h.res0, h.res1, h.ep0, h.free.rem (Spans.find_in hf).1, h.settled, h.waits⟩
theorem AlGood.given (h : AlGood s) : AlGood (alGiven s t) := by
  unfold alGiven
  split
  · rename_i he
    obtain ⟨h1, h2, h3⟩ := h.within (alInE_zero he).1
    exact ⟨h.lo0, h.lohi, h.hi1, h.res0, h.res1, h.ep0, h.free.add h1 h2 h3, h.settled, h.waits⟩
  · exact h
theorem AlGood.latered (h : AlGood s) : AlGood (alLatered s t) := by
  unfold alLatered
  split
  · rename_i he
    obtain ⟨h1, h2, h3⟩ := h.within (alInE_zero he).1
    exact ⟨h.lo0, h.lohi, h.hi1, h.res0, h.res1, h.ep0, h.free, h.settled, h.waits.add h1 h2 h3⟩
  · exact h
theorem good_span {lo hi : Int} {l : List Sp} (h : Spans.Good lo hi l) (ht : t ∈ l) : Spans.R t ∧ lo ≤ t.1 ∧ t.2 ≤ hi := by
  have hr := h.1.1 t ht
  refine ⟨hr, ?_, h.high t ht⟩
  unfold Spans.R at hr
  exact (h.2 t.1 ⟨t, ht, by unfold Spans.has1; omega⟩).1
theorem good_fold {lo hi : Int} : ∀ (m l : List Sp), Spans.Good lo hi l → (∀ t ∈ m, Spans.R t ∧ lo ≤ t.1 ∧ t.2 ≤ hi) → Spans.Good lo hi (m.foldl Spans.addL l) ∧ ∀ k, Spans.In (m.foldl Spans.addL l) k ↔ Spans.In l k ∨ Spans.In m k
  | [], l, h, _ => ⟨h, fun k => by simp [Spans.In]⟩
  | x :: m, l, h, hm => by
    obtain ⟨h1, h2, h3⟩ := hm x (by simp)
    obtain ⟨g1, g2⟩ := good_fold m (Spans.addL l x) (h.add h1 h2 h3) fun t ht => hm t (by simp [ht])
    refine ⟨g1, fun k => ?_⟩
    rw [List.foldl_cons, g2 k, Spans.addL_in h.1 h1, Spans.In.cons, or_assoc]
theorem AlGood.committed (h : AlGood s) : AlGood (alCommitted s) := by
  have := (good_fold s.waits s.free h.free fun t ht => good_span h.waits ht).1
  exact ⟨h.lo0, h.lohi, h.hi1, h.res0, h.res1, by show 0 ≤ s.ep + 1; have := h.ep0; omega, this, this, .nil⟩
end
end Go.Proofs.Ytnlkljmboifnkaa

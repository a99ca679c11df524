/- AllocApart: what its table of sectors tells of the alloc, and how it goes on; words for the table in memory. No conditions but those that stand in each lemma. -/
import Derived.Test.YtnlkljmboifnkaaAlPlay
import Derived.Test.YtnlkljmboifnkaaSpQueue
namespace Go.Proofs.Ytnlkljmboifnkaa
open Go.RowKit Go.Maps

/-! The alloc beside blocks of the law's own. -/
theorem SpX.butBlock {w w' : World} {x : SlV} {l : List Sp} {g : Nat} (h : SpX w x l) (hk : ∀ b, b ≠ g → w'.heap[b]? = w.heap[b]?) (hs : w'.heap.size = w.heap.size)
    (ha : (∀ b, CellsT w 23 b → b ≠ g) ∨ (0 < l.length → ∀ a, x.1 = some a → a.block ≠ g)) : SpX w' x l := by
  refine ⟨h.len, h.cap, h.most, fun hn => ?_⟩
  obtain ⟨b, o, h1, h2, h3, h4⟩ := h.at_ hn
  have hb : b ≠ g := by
    rcases ha with ha | ha
    · exact ha b h3
    · exact ha hn _ h1
  have e := hk b hb
  refine ⟨b, o, h1, by omega, ?_, fun i hi => ⟨(World.cell?_of_block (a := ⟨b, o + i * 2, none⟩) e).trans (h4 i hi).1, (World.cell?_of_block (a := ⟨b, o + i * 2 + 1, none⟩) e).trans (h4 i hi).2⟩⟩
  obtain ⟨cs, mk, h5⟩ := h3
  exact ⟨cs, mk, e.trans h5⟩
theorem AlAt.butBlock {w w' : World} {p m k : Nat} {s : AlS} {F S : SlV} {o : Option SlV} {g : Nat} (h : AlAt w p m k s F S o) (hk : ∀ b, b ≠ g → w'.heap[b]? = w.heap[b]?) (hs : w'.heap.size = w.heap.size) (hp : p ≠ g) (hm : m ≠ g)
    (ha : (∀ b, CellsT w 23 b → b ≠ g) ∨ s.av g) : AlAt w' p m k s F S o := by
  have hx : ∀ (x : SlV) (l : List Sp), Away x l s.av → SpX w x l → SpX w' x l := fun x l hv h1 => h1.butBlock hk hs (ha.imp id fun hg hn a hxa e => hv hn a hxa (e ▸ hg))
  refine ⟨(hk p hp).trans h.obj, ?_, hx _ _ h.away.2.1 h.free, hx _ _ h.away.2.2.1 h.settled, ?_, fun b hb => by rw [hs]; exact h.away.1 b hb, h.away.2⟩
  · obtain ⟨es, clock, hb, r⟩ := h.map
    exact ⟨es, clock, (hk m hm).trans hb, r⟩
  · have h1 := h.waits
    have h2 := h.away.2.2.2
    cases o with
    | none => exact h1
    | some x => exact hx x _ h2 h1
/-- A block that was just made is one in which none of the alloc's slices lies. -/
theorem Al.avoid {w w' : World} {p m k : Nat} {s : AlS} (h : Al w p m k s) (hb : Below w.heap.size w w') (V : Nat → Prop) (hV : ∀ b, V b → w.heap.size ≤ b ∧ b < w'.heap.size) : Al w' p m k { s with av := V } := by
  obtain ⟨F, S, o, h⟩ := h
  have h1 := h.keep hb
  have hx : ∀ (x : SlV) (l : List Sp), SpX w x l → Away x l V := fun x l hs hn a ha hv => by
    obtain ⟨b, off, h2, h3, _⟩ := hs.at_ hn
    rw [h2] at ha
    injection ha with ha
    subst ha
    have := (hV _ hv).1
    simp only at this
    omega
  exact ⟨F, S, o, h1.obj, h1.map, h1.free, h1.settled, h1.waits, fun b hv => (hV b hv).2, hx _ _ h.free, hx _ _ h.settled, hx _ _ (alW_x h.waits)⟩

/-! The table: a row of numbers. -/
def nCells (st : List Int) : Array Value := (st.map (Value.int .i64)).toArray
theorem nCells_at (st : List Int) (k : Nat) (h : k < st.length) : (nCells st)[k]? = some (.int .i64 (st.getD k 0)) := by
  unfold nCells
  rw [List.getElem?_toArray, List.getElem?_map, List.getD_eq_getElem?_getD, List.getElem?_eq_getElem h]
  rfl
theorem nCells_set (st : List Int) (k : Nat) (v : Int) : (nCells st).setIfInBounds k (.int .i64 v) = nCells (st.set k v) := by
  unfold nCells
  rw [List.setIfInBounds_toArray, List.map_set]
theorem getD_set (st : List Int) (k j : Nat) (v : Int) (h : k < st.length) : (st.set k v).getD j 0 = if j = k then v else st.getD j 0 := by
  rw [List.getD_eq_getElem?_getD, List.getD_eq_getElem?_getD, List.getElem?_set]
  by_cases e : k = j
  · subst e; simp [h]
  · rw [if_neg e, if_neg (Ne.symm e)]
/-- From a on, j of them are v. -/
def setTo (st : List Int) (a : Nat) (v : Int) : Nat → List Int
  | 0 => st
  | j + 1 => (setTo st a v j).set (a + j) v
theorem setTo_len (st : List Int) (a : Nat) (v : Int) : ∀ j, (setTo st a v j).length = st.length
  | 0 => rfl
  | j + 1 => by rw [setTo, List.length_set, setTo_len st a v j]
theorem setTo_get (st : List Int) (a : Nat) (v : Int) (k : Nat) : ∀ j, a + j ≤ st.length → (setTo st a v j).getD k 0 = if a ≤ k ∧ k < a + j then v else st.getD k 0
  | 0, _ => by rw [if_neg (by omega)]; rfl
  | j + 1, h => by
    rw [setTo, getD_set _ _ _ _ (by rw [setTo_len]; omega), setTo_get st a v k j (by omega)]
    by_cases h1 : k = a + j
    · rw [if_pos h1, if_pos (by omega)]
    · rw [if_neg h1]
      by_cases h2 : a ≤ k ∧ k < a + j
      · rw [if_pos h2, if_pos (by omega)]
      · rw [if_neg h2, if_neg (by omega)]
/-- Of the j from 2 on those that are 2 are 0. -/
def clearTo (st : List Int) : Nat → List Int
  | 0 => st
  | j + 1 => if (clearTo st j).getD (2 + j) 0 = 2 then (clearTo st j).set (2 + j) 0 else clearTo st j
theorem clearTo_len (st : List Int) : ∀ j, (clearTo st j).length = st.length
  | 0 => rfl
  | j + 1 => by rw [clearTo]; split <;> simp [clearTo_len st j]
theorem clearTo_get (st : List Int) (k : Nat) : ∀ j, 2 + j ≤ st.length → (clearTo st j).getD k 0 = if 2 ≤ k ∧ k < 2 + j ∧ st.getD k 0 = 2 then 0 else st.getD k 0
  | 0, _ => by rw [if_neg (by omega)]; rfl
  | j + 1, h => by
    have ih := clearTo_get st k j (by omega)
    have ih2 := clearTo_get st (2 + j) j (by omega)
    rw [if_neg (by omega)] at ih2
    rw [clearTo]
    by_cases h2 : (clearTo st j).getD (2 + j) 0 = 2
    · rw [if_pos h2, getD_set _ _ _ _ (by rw [clearTo_len]; omega)]
      by_cases h1 : k = 2 + j
      · subst h1
        rw [if_pos rfl, if_pos (by rw [← ih2]; exact ⟨by omega, by omega, h2⟩)]
      · rw [if_neg h1, ih]
        by_cases h3 : 2 ≤ k ∧ k < 2 + j ∧ st.getD k 0 = 2
        · rw [if_pos h3, if_pos (by omega)]
        · rw [if_neg h3, if_neg (by omega)]
    · rw [if_neg h2, ih]
      by_cases h3 : 2 ≤ k ∧ k < 2 + j ∧ st.getD k 0 = 2
      · rw [if_pos h3, if_pos (by omega)]
      · rw [if_neg h3, if_neg]
        intro h4
        by_cases h1 : k = 2 + j
        · subst h1
          rw [ih2] at h2
          exact h2 h4.2.2
        · exact h3 (by omega)

/-! What the table tells. -/
structure ApS (N : Nat) (s : AlS) (st : List Int) (hl : List Sp) : Prop where
  good : AlGood s
  lo : s.lo = 2
  hi : s.hi = ((2 + N : Nat) : Int)
  res : s.res = 0
  len : st.length = 2 + N
  three : ∀ k : Nat, 2 ≤ k → k < 2 + N → st.getD k 0 = 0 ∨ st.getD k 0 = 1 ∨ st.getD k 0 = 2
  fr : ∀ k : Nat, 2 ≤ k → k < 2 + N → (st.getD k 0 = 0 ↔ Spans.In s.free (k : Int))
  wt : ∀ k : Nat, 2 ≤ k → k < 2 + N → (st.getD k 0 = 2 ↔ Spans.In s.waits (k : Int))
  held : ∀ t ∈ hl, 2 ≤ t.1 ∧ t.1 < t.2 ∧ t.2 ≤ ((2 + N : Nat) : Int) ∧ ∀ k : Nat, t.1 ≤ (k : Int) → (k : Int) < t.2 → st.getD k 0 = 1
  apart : hl.Pairwise (fun x y => x.2 ≤ y.1 ∨ y.2 ≤ x.1)
section
variable {N : Nat} {s : AlS} {st : List Int} {held : List Sp}
theorem ApS.at_free (h : ApS N s st held) {k : Int} (hk : Spans.In s.free k) : ∃ j : Nat, k = j ∧ 2 ≤ j ∧ j < 2 + N ∧ st.getD j 0 = 0 := by
  have h1 := h.good.free.2 k hk
  rw [h.lo, h.hi] at h1
  refine ⟨k.toNat, by omega, by omega, by omega, ?_⟩
  rw [h.fr k.toNat (by omega) (by omega), Int.toNat_of_nonneg (by omega)]
  exact hk
theorem ApS.at_waits (h : ApS N s st held) {k : Int} (hk : Spans.In s.waits k) : ∃ j : Nat, k = j ∧ 2 ≤ j ∧ j < 2 + N ∧ st.getD j 0 = 2 := by
  have h1 := h.good.waits.2 k hk
  rw [h.lo, h.hi] at h1
  refine ⟨k.toNat, by omega, by omega, by omega, ?_⟩
  rw [h.wt k.toNat (by omega) (by omega), Int.toNat_of_nonneg (by omega)]
  exact hk
theorem ApS.av (h : ApS N s st held) (V : Nat → Prop) : ApS N { s with av := V } st held :=
  ⟨⟨h.good.lo0, h.good.lohi, h.good.hi1, h.good.res0, h.good.res1, h.good.ep0, h.good.free, h.good.settled, h.good.waits⟩, h.lo, h.hi, h.res, h.len, h.three, h.fr, h.wt, h.held, h.apart⟩
/-- At the beginning all are free. -/
theorem ApS.new (hN : N ≤ 100) : ApS N (alNew 2 ((2 + N : Nat) : Int) 0) (List.replicate (2 + N) 0) [] := by
  obtain ⟨h1, _, h3⟩ := new_good (lo := 2) (hi := ((2 + N : Nat) : Int)) (res := 0) (by omega) (by omega) (by omega) (by omega) (by omega)
  have hg : ∀ k : Nat, k < 2 + N → (List.replicate (2 + N) (0 : Int)).getD k 0 = 0 := fun k hk => by
    rw [List.getD_eq_getElem?_getD, List.getElem?_replicate, if_pos hk]; rfl
  refine ⟨h1, rfl, rfl, rfl, List.length_replicate .., fun k _ hk => .inl (hg k hk), fun k h4 hk => ?_, fun k h4 hk => ?_, fun t ht => (by cases ht), List.Pairwise.nil⟩
  · rw [hg k hk, h3]
    constructor
    · intro _; omega
    · intro _; rfl
  · rw [hg k hk]
    constructor
    · intro h; omega
    · intro h; exact absurd h (Spans.In.nil _)
/-- What is taken was free. -/
theorem ApS.take (h : ApS N s st held) {n : Nat} {a : Nat} (hf : 0 ≤ Spans.findL s.free (n : Int)) (ha : Spans.findL s.free (n : Int) = (a : Int)) :
    1 ≤ n ∧ 2 ≤ a ∧ a + n ≤ 2 + N ∧ (∀ k : Nat, a ≤ k → k < a + n → st.getD k 0 = 0) ∧ ApS N (alTaken s (n : Int)) (setTo st a 1 n) (held ++ [((a : Int), (a : Int) + (n : Int))]) := by
  obtain ⟨hR, hin⟩ := Spans.find_in hf
  have hgd := h.good.taken hf
  obtain ⟨hv, hn1, _⟩ := Spans.findL_spec hf
  rw [ha] at hR hin
  have hfree : ∀ k : Nat, a ≤ k → k < a + n → 2 ≤ k ∧ k < 2 + N ∧ st.getD k 0 = 0 := fun k h1 h2 => by
    obtain ⟨j, hj, h3, h4, h5⟩ := h.at_free (hin k (by unfold Spans.has1; simp only; omega))
    obtain rfl : k = j := by omega
    exact ⟨h3, h4, h5⟩
  have h2a := hfree a (by omega) (by omega)
  have h2b := hfree (a + n - 1) (by omega) (by omega)
  have hlen := h.len
  have hget := fun k => setTo_get st a 1 k n (by omega)
  refine ⟨by omega, h2a.1, by omega, fun k h1 h2 => (hfree k h1 h2).2.2, hgd, h.lo, h.hi, h.res, by rw [setTo_len]; exact hlen, fun k h1 h2 => ?_, fun k h1 h2 => ?_, fun k h1 h2 => ?_, fun t ht => ?_, ?_⟩
  · rw [hget]
    split
    · exact .inr (.inl rfl)
    · exact h.three k h1 h2
  · rw [hget]
    show _ ↔ Spans.In (Spans.remL s.free (Spans.findL s.free n, Spans.findL s.free n + n)) k
    rw [ha, Spans.remL_in hv hR, ← h.fr k h1 h2]
    unfold Spans.has1
    simp only
    by_cases h3 : a ≤ k ∧ k < a + n
    · rw [if_pos h3]
      constructor
      · intro h4; omega
      · rintro ⟨_, h4⟩; exact absurd (by omega) h4
    · rw [if_neg h3]
      constructor
      · intro h4; exact ⟨h4, by omega⟩
      · exact And.left
  · rw [hget]
    show _ ↔ Spans.In s.waits k
    rw [← h.wt k h1 h2]
    by_cases h3 : a ≤ k ∧ k < a + n
    · rw [if_pos h3, (hfree k h3.1 h3.2).2.2]
      constructor <;> intro h4 <;> omega
    · rw [if_neg h3]
  · rcases List.mem_append.1 ht with ht | ht
    · obtain ⟨h1, h2, h3, h4⟩ := h.held t ht
      refine ⟨h1, h2, h3, fun k h5 h6 => ?_⟩
      rw [hget]
      split
      · rfl
      · exact h4 k h5 h6
    · obtain rfl := List.mem_singleton.1 ht
      refine ⟨by simp only; omega, by simp only; omega, by simp only; omega, fun k h5 h6 => ?_⟩
      simp only at h5 h6
      rw [hget, if_pos (by omega)]
  · rw [List.pairwise_append]
    refine ⟨h.apart, List.pairwise_singleton _ _, fun x hx y hy => ?_⟩
    obtain rfl := List.mem_singleton.1 hy
    obtain ⟨h1, h2, h3, h4⟩ := h.held x hx
    simp only
    rcases Int.lt_or_le (a : Int) x.2 with h5 | h5
    · rcases Int.lt_or_le x.1 ((a : Int) + n) with h6 | h6
      · exfalso
        obtain ⟨j, hj1, hj2, hj3, hj4⟩ : ∃ j : Nat, a ≤ j ∧ j < a + n ∧ x.1 ≤ (j : Int) ∧ (j : Int) < x.2 := by
          rcases Int.le_total (a : Int) x.1 with h7 | h7
          · exact ⟨x.1.toNat, by omega, by omega, by omega, by omega⟩
          · exact ⟨a, by omega, by omega, by omega, by omega⟩
        have e1 := h4 j hj3 hj4
        have e2 := (hfree j hj1 hj2).2.2
        omega
      · exact .inr (by omega)
    · exact .inl (by omega)
/-- What is held may be given back later. -/
theorem ApS.later {t : Sp} {r : List Sp} (h : ApS N s st (t :: r)) {a n : Nat} (ha : t.1 = (a : Int)) (hn : t.2 = (a : Int) + (n : Int)) :
    alInE s t = 0 ∧ 2 ≤ a ∧ a + n ≤ 2 + N ∧ ApS N (alLatered s t) (setTo st a 2 n) r := by
  obtain ⟨h1, h2, h3, h4⟩ := h.held t (by simp)
  have hR : Spans.R t := by have := h.good.hi1; have := h.hi; unfold Spans.R; omega
  have hw : alWithin s t = true := by unfold alWithin; rw [decide_eq_true_eq, h.lo, h.hi]; omega
  have hm : Spans.meetsB s.free t = false := by
    cases hh : Spans.meetsB s.free t with
    | false => rfl
    | true =>
      obtain ⟨k, hk1, hk2⟩ := (Spans.meetsB_iff h.good.free.1 hR).1 hh
      obtain ⟨j, rfl, _, _, h5⟩ := h.at_free hk1
      unfold Spans.has1 at hk2
      have := h4 j hk2.1 hk2.2
      omega
  have hm2 : Spans.meetsB s.waits t = false := by
    cases hh : Spans.meetsB s.waits t with
    | false => rfl
    | true =>
      obtain ⟨k, hk1, hk2⟩ := (Spans.meetsB_iff h.good.waits.1 hR).1 hh
      obtain ⟨j, rfl, _, _, h5⟩ := h.at_waits hk1
      unfold Spans.has1 at hk2
      have := h4 j hk2.1 hk2.2
      omega
  have hE : alInE s t = 0 := by rw [alInE_in hw, hm, hm2]; rfl
  have hL : alLatered s t = { s with waits := Spans.addL s.waits t } := if_pos hE
  have hlen := h.len
  have hget := fun k => setTo_get st a 2 k n (by omega)
  have hall : (alLatered s t).lo = 2 ∧ (alLatered s t).hi = ((2 + N : Nat) : Int) ∧ (alLatered s t).res = 0 ∧ (alLatered s t).free = s.free ∧ (alLatered s t).waits = Spans.addL s.waits t := by
    rw [hL]; exact ⟨h.lo, h.hi, h.res, rfl, rfl⟩
  obtain ⟨g1, g2, g3, g4, g5⟩ := hall
  have hone : ∀ k : Nat, a ≤ k → k < a + n → st.getD k 0 = 1 := fun k h5 h6 => h4 k (by omega) (by omega)
  refine ⟨hE, by omega, by omega, h.good.latered, g1, g2, g3, by rw [setTo_len]; exact hlen, fun k h1 h2 => ?_, fun k h1 h2 => ?_, fun k h1 h2 => ?_, fun u hu => ?_, (List.pairwise_cons.1 h.apart).2⟩
  · rw [hget]
    split
    · exact .inr (.inr rfl)
    · exact h.three k h1 h2
  · rw [hget, g4, ← h.fr k h1 h2]
    by_cases h5 : a ≤ k ∧ k < a + n
    · rw [if_pos h5, hone k h5.1 h5.2]
      constructor <;> intro h6 <;> omega
    · rw [if_neg h5]
  · rw [hget, g5, Spans.addL_in h.good.waits.1 hR, ← h.wt k h1 h2]
    unfold Spans.has1
    by_cases h5 : a ≤ k ∧ k < a + n
    · rw [if_pos h5]
      constructor
      · intro _; exact .inr (by omega)
      · intro _; rfl
    · rw [if_neg h5]
      constructor
      · exact .inl
      · rintro (h6 | h6)
        · exact h6
        · exact absurd (by omega) h5
  · obtain ⟨f1, f2, f3, f4⟩ := h.held u (by simp [hu])
    refine ⟨f1, f2, f3, fun k f5 f6 => ?_⟩
    have := (List.pairwise_cons.1 h.apart).1 u hu
    rw [hget, if_neg (by omega)]
    exact f4 k f5 f6
/-- Behind a Commit none waits. -/
theorem ApS.commit (h : ApS N s st held) : ApS N (alCommitted s) (clearTo st N) held := by
  obtain ⟨hg, hin⟩ := good_fold s.waits s.free h.good.free fun t ht => good_span h.good.waits ht
  have hlen := h.len
  have hget := fun k => clearTo_get st k N (by omega)
  refine ⟨h.good.committed, h.lo, h.hi, h.res, by rw [clearTo_len]; exact hlen, fun k h1 h2 => ?_, fun k h1 h2 => ?_, fun k h1 h2 => ?_, fun u hu => ?_, h.apart⟩
  · rw [hget]
    split
    · exact .inl rfl
    · exact h.three k h1 h2
  · rw [hget]
    show _ ↔ Spans.In (s.waits.foldl Spans.addL s.free) k
    rw [hin, ← h.fr k h1 h2, ← h.wt k h1 h2]
    by_cases h5 : st.getD k 0 = 2
    · rw [if_pos ⟨h1, h2, h5⟩]
      constructor
      · intro _; exact .inr h5
      · intro _; rfl
    · rw [if_neg (fun h6 => h5 h6.2.2)]
      constructor
      · exact .inl
      · rintro (h6 | h6)
        · exact h6
        · exact absurd h6 h5
  · rw [hget]
    show _ ↔ Spans.In [] k
    constructor
    · intro h6
      by_cases h5 : st.getD k 0 = 2
      · rw [if_pos ⟨h1, h2, h5⟩] at h6; omega
      · rw [if_neg (fun h7 => h5 h7.2.2)] at h6; exact absurd h6 h5
    · intro h6; exact absurd h6 (Spans.In.nil _)
  · obtain ⟨f1, f2, f3, f4⟩ := h.held u hu
    refine ⟨f1, f2, f3, fun k f5 f6 => ?_⟩
    have e := f4 k f5 f6
    rw [hget, if_neg (fun h7 => by have := h7.2.2; omega)]
    exact e
/-- How many are in use, by the table: of the j from 2 on. -/
def cntOne (st : List Int) : Nat → Int
  | 0 => 0
  | j + 1 => cntOne st j + if st.getD (2 + j) 0 = 1 then 1 else 0
theorem cntOne_bounds (st : List Int) : ∀ j : Nat, 0 ≤ cntOne st j ∧ cntOne st j ≤ (j : Int)
  | 0 => by simp [cntOne]
  | j + 1 => by
    have := cntOne_bounds st j
    rw [cntOne]
    split <;> omega
theorem notB {b : Bool} (h : b = true → False) : b = false := by
  cases b
  · rfl
  · exact (h rfl).elim
theorem ApS.counted (h : ApS N s st held) : ((2 + N : Nat) : Int) - 2 - Spans.totalL s.free - Spans.totalL s.waits = cntOne st N := by
  have hi := h.hi
  rw [h.good.free.total (2 + N) (by omega), h.good.waits.total (2 + N) (by omega)]
  have hlow : ∀ l : List Sp, Spans.Good s.lo s.hi l → ∀ k : Nat, k < 2 → Spans.inB l k = false := fun l hl k hk => by
    cases hb : Spans.inB l k with
    | false => rfl
    | true =>
      have := (hl.2 k ((Spans.inB_iff l k).1 hb)).1
      rw [h.lo] at this
      omega
  have key : ∀ j : Nat, j ≤ N → Spans.cnt (Spans.inB s.free) (2 + j) + Spans.cnt (Spans.inB s.waits) (2 + j) + cntOne st j = (j : Int) := by
    intro j
    induction j with
    | zero =>
      intro _
      have f0 := hlow _ h.good.free 0 (by omega)
      have f1 := hlow _ h.good.free 1 (by omega)
      have g0 := hlow _ h.good.waits 0 (by omega)
      have g1 := hlow _ h.good.waits 1 (by omega)
      simp [Spans.cnt, cntOne, f0, f1, g0, g1]
    | succ j ih =>
      intro hj
      have ih := ih (by omega)
      have h1 := h.fr (2 + j) (by omega) (by omega)
      have h2 := h.wt (2 + j) (by omega) (by omega)
      have h3 := h.three (2 + j) (by omega) (by omega)
      rw [← Spans.inB_iff] at h1 h2
      rw [show 2 + (j + 1) = (2 + j) + 1 by omega, Spans.cnt, Spans.cnt, cntOne]
      rcases h3 with h3 | h3 | h3
      · have e1 : Spans.inB s.free (2 + j) = true := h1.1 h3
        have e2 : Spans.inB s.waits (2 + j) = false := notB (fun hb => by have := h2.2 hb; omega)
        rw [e1, e2, h3]
        simp
        omega
      · have e1 : Spans.inB s.free (2 + j) = false := notB (fun hb => by have := h1.2 hb; omega)
        have e2 : Spans.inB s.waits (2 + j) = false := notB (fun hb => by have := h2.2 hb; omega)
        rw [e1, e2, h3]
        simp
        omega
      · have e1 : Spans.inB s.free (2 + j) = false := notB (fun hb => by have := h1.2 hb; omega)
        have e2 : Spans.inB s.waits (2 + j) = true := h2.1 h3
        rw [e1, e2, h3]
        simp
        omega
  have := key N (Nat.le_refl _)
  omega
end
end Go.Proofs.Ytnlkljmboifnkaa

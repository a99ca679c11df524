/- DiskLasts: what waits and what lasts at each round; the bytes that are found (plain mathematics). No conditions but those that stand in each lemma. -/
import Derived.Test.YtehanjhgjbclhaaEnt
namespace Go.Proofs.Ytehanjhgjbclhaa
open Go.RowKit Go.Maps

/-- What is written into sector i. -/
def sfI (xs : List Int) (i : Nat) : List Int := padS [xs.getD (i * 2) 0, xs.getD (i * 2 + 1) 0]
/-- The sectors behind the flush. -/
def LsF (xs : List Int) (F : Nat) (ls : List (List Int)) : Prop := ls.length = 16 ∧ ∀ t, ls.getD t [] = if t < F then sfI xs t else (zeroSecs 16).getD t []
theorem lsF_of {xs : List Int} {F : Nat} {D : DataW Unit} (h : Ent D 0 F (sfI xs)) (hF : F ≤ 16) : LsF xs F (flushS D (zeroSecs 16)) := by
  refine ⟨by rw [flushS_length, zeroSecs_length], fun t => ?_⟩
  by_cases ht : t < 16
  · rw [flushS_at _ _ _ (by rw [zeroSecs_length]; exact ht), h.flush]
    by_cases h2 : t < F
    · rw [if_pos (by omega), if_pos h2]
    · rw [if_neg (by omega), if_neg h2]
  · rw [if_neg (by omega), List.getD_eq_getElem?_getD, List.getD_eq_getElem?_getD, List.getElem?_eq_none (by rw [flushS_length, zeroSecs_length]; omega), List.getElem?_eq_none (by rw [zeroSecs_length]; omega)]
/-- What waits, and what lasts, ahead of round i's write, with the flush at its head done. -/
def MidI (xs : List Int) (F i : Nat) (D : DataW Unit) (ls : List (List Int)) : Prop :=
  (i < F ∧ Ent D 0 i (sfI xs) ∧ ls = zeroSecs 16) ∨ (F ≤ i ∧ Ent D F (i - F) (sfI xs) ∧ LsF xs F ls)
/-- .. at round i's head. -/
def HeadI (xs : List Int) (F i : Nat) (D : DataW Unit) (ls : List (List Int)) : Prop :=
  (i ≤ F ∧ Ent D 0 i (sfI xs) ∧ ls = zeroSecs 16) ∨ (F < i ∧ Ent D F (i - F) (sfI xs) ∧ LsF xs F ls)
theorem mid_none {xs : List Int} {F i : Nat} {D : DataW Unit} {ls : List (List Int)} (h : HeadI xs F i D ls) (hne : i ≠ F) : MidI xs F i D ls := by
  rcases h with ⟨h1, h2⟩ | ⟨h1, h2⟩
  · exact .inl ⟨by omega, h2⟩
  · exact .inr ⟨by omega, h2⟩
theorem mid_flush {xs : List Int} {F : Nat} {D : DataW Unit} {ls : List (List Int)} (h : HeadI xs F F D ls) (hF : F ≤ 16) : MidI xs F F (.map []) (flushS D ls) := by
  rcases h with ⟨_, h2, rfl⟩ | ⟨h1, _⟩
  · refine .inr ⟨Nat.le_refl _, ?_, lsF_of h2 hF⟩
    rw [Nat.sub_self]
    exact ent_none F _
  · omega
theorem mid_end {xs : List Int} {F n : Nat} {D : DataW Unit} {ls : List (List Int)} (h : MidI xs F n D ls) (hF : F ≤ n) : Ent D F (n - F) (sfI xs) ∧ LsF xs F ls := by
  rcases h with ⟨h1, _⟩ | ⟨_, h2⟩
  · omega
  · exact h2
theorem head_next {xs : List Int} {F i : Nat} {D : DataW Unit} {ls : List (List Int)} (h : MidI xs F i D ls) : HeadI xs F (i + 1) (D.put (.int .i64 (i : Int)) (secD (sfI xs i))) ls := by
  rcases h with ⟨h1, h2, h3⟩ | ⟨h1, h2, h3⟩
  · have := h2.put
    rw [Nat.zero_add] at this
    exact .inl ⟨by omega, this, h3⟩
  · have := h2.put
    rw [show F + (i - F) = i by omega, show i - F + 1 = i + 1 - F by omega] at this
    exact .inr ⟨by omega, this, h3⟩
/-- The document's byte k of sector i behind the crash. -/
def wantI (xs keep : List Int) (n F K i k : Nat) : Int :=
  if i < F then xs.getD (i * 2 + k) 0 else if i < n ∧ i - F < K then (if (k : Int) < keep.getD (i - F) 0 then xs.getD (i * 2 + k) 0 else 0) else 0
theorem sfI_at (xs : List Int) (i k : Nat) (hk : k < 3) : (sfI xs i).getD k 0 = if k < 2 then xs.getD (i * 2 + k) 0 else 0 := by
  have : k = 0 ∨ k = 1 ∨ k = 2 := by omega
  rcases this with rfl | rfl | rfl <;> rfl
theorem zeros_at (i k : Nat) : ((zeroSecs 16).getD i []).getD k 0 = 0 := by
  unfold zeroSecs
  by_cases hi : i < 16
  · have e : (List.replicate 16 (List.replicate 512 (0 : Int))).getD i [] = List.replicate 512 0 := by
      rw [List.getD_eq_getElem?_getD, List.getElem?_replicate, if_pos hi]; rfl
    rw [e, List.getD_eq_getElem?_getD, List.getElem?_replicate]
    split <;> rfl
  · have e : (List.replicate 16 (List.replicate 512 (0 : Int))).getD i [] = [] := by
      rw [List.getD_eq_getElem?_getD, List.getElem?_replicate, if_neg hi]; rfl
    rw [e]; rfl
theorem mix_at (kk : Nat) (s t : List Int) (hs : s.length = 512) (hk : kk ≤ 512) (k : Nat) : (mixS kk s t).getD k 0 = if k < kk then s.getD k 0 else t.getD k 0 := by
  unfold mixS
  have hl : (s.take kk).length = kk := by rw [List.length_take]; omega
  by_cases h : k < kk
  · rw [if_pos h, List.getD_eq_getElem?_getD, List.getElem?_append_left (by omega), List.getElem?_take, if_pos h, List.getD_eq_getElem?_getD]
  · rw [if_neg h, List.getD_eq_getElem?_getD, List.getElem?_append_right (by omega), hl, List.getElem?_drop, List.getD_eq_getElem?_getD, show kk + (k - kk) = k by omega]
theorem keptI_lt (x : Int) (k : Nat) (hk : k < 512) : k < keptI x ↔ (k : Int) < x := by unfold keptI; omega
theorem sfI_length (xs : List Int) (i : Nat) : (sfI xs i).length = 512 := padS_length _ (by simp)
/-- The bytes that are found. -/
theorem found_at {xs keep : List Int} {n F K : Nat} {ls L : List (List Int)} (hL : LsF xs F ls) (hF : F ≤ n)
    (h : ∀ i, L.getD i [] = if F ≤ i ∧ i < F + min K (n - F) then mixS (keptI (keep.getD (i - F) 0)) (sfI xs i) (ls.getD i []) else ls.getD i []) (i k : Nat) (hk : k < 3) :
    (L.getD i []).getD k 0 = if k < 2 then wantI xs keep n F K i k else 0 := by
  rw [h i]
  unfold wantI
  by_cases h1 : F ≤ i ∧ i < F + min K (n - F)
  · rw [if_pos h1, mix_at _ _ _ (sfI_length xs i) (keptI_le _), sfI_at xs i k hk, hL.2 i, if_neg (show ¬ i < F by omega), zeros_at, if_neg (show ¬ i < F by omega), if_pos (show i < n ∧ i - F < K by omega)]
    by_cases h2 : k < 2
    · rw [if_pos h2]
      by_cases h3 : k < keptI (keep.getD (i - F) 0)
      · rw [if_pos h3, if_pos ((keptI_lt _ k (by omega)).1 h3), if_pos h2]
      · rw [if_neg h3, if_neg (fun h4 => h3 ((keptI_lt _ k (by omega)).2 h4)), if_pos h2]
    · rw [if_neg h2]
      split <;> rfl
  · rw [if_neg h1, hL.2 i]
    by_cases h2 : i < F
    · rw [if_pos h2, if_pos h2, sfI_at xs i k hk]
    · rw [if_neg h2, if_neg h2, zeros_at, if_neg (show ¬ (i < n ∧ i - F < K) by omega)]
      split <;> rfl
theorem flush_none (ls : List (List Int)) (i : Nat) : flushI (.map []) ls i = ls.getD i [] := by
  unfold flushI
  rw [atKey_of_not_has rfl, unD_secD]
theorem src_two (w : World) (a b : Int) : Src .u8 (w.alloc (.cells #[.int .u8 a, .int .u8 b] 5)) (some ⟨w.heap.size, 0, none⟩) [a, b] := fun _ =>
  ⟨w.heap.size, 0, rfl, by simp, fun i hi => by
    have hr : Row (w.alloc (.cells #[.int .u8 a, .int .u8 b] 5)) w.heap.size 5 #[.int .u8 a, .int .u8 b] := Row.new _ _ _
    have : i = 0 ∨ i = 1 := by simp at hi; omega
    rcases this with rfl | rfl
    · exact hr.cell rfl
    · exact hr.cell rfl⟩
/-- At a round's head. -/
def LastsAt (w : World) (xs : List Int) (n F p B M : Nat) (iv : Value) (wr : World) : Prop :=
  ∃ (i k : Nat) (ls : List (List Int)) (D : DataW Unit), i ≤ n ∧ iv = .int .i64 i ∧ k ≤ i ∧ HeadI xs F i D ls ∧ Disk wr w.heap.size p B M 16 16 k ls D false 0 ∧ Below w.heap.size w wr

/-- At a round's head of the look at what is found. -/
def FoundAt (w : World) (base p B M c : Nat) (L : List (List Int)) (iv : Value) (wr : World) : Prop :=
  ∃ t : Nat, t ≤ 16 ∧ iv = .int .i64 t ∧ Disk wr base p B M 16 c 0 L (.map []) false 0 ∧ Below w.heap.size w wr
theorem Try.size42 : (Try.prog.info? 42).map (·.size) = some 2 := by kernel_rfl
theorem wpList_store42 {ops : Array Oper} {rest : List Oper} {o : Oper} {a : Act} {w : World} {Q : Exit → Act → World → Prop} (hg : o.guard = none) (x y : Operand) (ho : o.op = .store 42 x y) (g : Nat) (hx : a.eval x = .pointer (some ⟨g, 0, none⟩)) (u v : Int) (hy : a.eval y = .agg #[.int .u8 u, .int .u8 v])
    (c d : Int) (hr : Row w g 42 #[.int .u8 c, .int .u8 d]) (h : ∀ w', Row w' g 42 #[.int .u8 u, .int .u8 v] → Below g w w' → wpList Try.prog ops Q rest (a.put o.dst undef) w') : wpList Try.prog ops Q (o :: rest) a w :=
  wpList_store_row hg 42 x y ho g _ hx hy 42 _ hr Try.size42 rfl (by simp [Value.oneCell']) (h _ (hr.setRow _) (below_setRow (Below.refl _ _) (Nat.le_refl _) _))
theorem pair_cells {w : World} {b o t : Nat} {xs : List Int} (h : Src .u8 w (some ⟨b, o, none⟩) xs) (ht : t * 2 + 1 < xs.length) : Cells w b (o + t * 2) #[.int .u8 (xs.getD (t * 2) 0), .int .u8 (xs.getD (t * 2 + 1) 0)] := by
  obtain ⟨b', o', e, _, hc⟩ := h (by omega)
  injection e with e
  injection e with e1 e2
  subst e1; subst e2
  intro j v hv
  have hj : j = 0 ∨ j = 1 := by
    rcases Nat.lt_or_ge j 2 with h' | h'
    · omega
    · rw [Array.getElem?_eq_none (by simpa using h')] at hv; cases hv
  rcases hj with rfl | rfl
  · injection hv with hv; subst hv; exact hc (t * 2) (by omega)
  · injection hv with hv; subst hv; rw [Nat.add_assoc]; exact hc (t * 2 + 1) ht
/-- At a round's head of the reckoning of what the document asks. -/
def WantAt (w11 : World) (hh : Nat) (x0 x1 y : Int) (iv : Value) (wv : World) : Prop :=
  ∃ r : Nat, r ≤ 2 ∧ iv = .int .i64 r ∧ Row wv hh 42 #[.int .u8 (if 1 ≤ r then x0 else 0), .int .u8 (if 2 ≤ r then x1 else 0)] ∧ (r = 0 ∨ (r : Int) - 1 < y) ∧ Below hh w11 wv
theorem Disk.keepB {w w' : World} {base p B M n c k : Nat} {ls : List (List Int)} {D : DataW Unit} {f : Bool} {l : Int} {hh : Nat} (h : Disk w base p B M n c k ls D f l) (hb : Below hh w w') (hp : p < hh) (hB : B < hh) (hM : M < hh) : Disk w' base p B M n c k ls D f l :=
  ⟨h.obj.keepB hb hp, h.secs.keepB hb hB, h.len, h.pos, h.most, (by
    obtain ⟨es, clock, hm, Ft, hs, hD⟩ := h.waits
    exact ⟨es, clock, (hb.block M hM).trans hm, Ft, hs, hD⟩), h.keys, h.basep, h.baseB, h.baseM⟩
theorem flushed_any (x : Int) (n : Nat) (hn : n ≤ 16) : ∃ F : Nat, F ≤ n ∧ IntKind.i64.wrap (x.tmod ((n : Int) + 1)) = x.tmod ((n : Int) + 1) ∧ (x.tmod ((n : Int) + 1) + n + 1).tmod ((n : Int) + 1) = F ∧ -(n : Int) ≤ x.tmod ((n : Int) + 1) ∧ x.tmod ((n : Int) + 1) ≤ n := by
  have h1 : -(n : Int) ≤ x.tmod ((n : Int) + 1) ∧ x.tmod ((n : Int) + 1) ≤ n := by
    have a := Int.tmod_lt_of_pos x (show (0 : Int) < (n : Int) + 1 by omega)
    have b := Int.lt_tmod_of_pos x (show (0 : Int) < (n : Int) + 1 by omega)
    omega
  have h2 : (x.tmod ((n : Int) + 1) + n + 1).tmod ((n : Int) + 1) = (x.tmod ((n : Int) + 1) + n + 1) % ((n : Int) + 1) := Int.tmod_eq_emod_of_nonneg (by omega)
  have h3 := Int.emod_nonneg (x.tmod ((n : Int) + 1) + n + 1) (show (n : Int) + 1 ≠ 0 by omega)
  have h4 := Int.emod_lt_of_pos (x.tmod ((n : Int) + 1) + n + 1) (show (0 : Int) < (n : Int) + 1 by omega)
  refine ⟨((x.tmod ((n : Int) + 1) + n + 1) % ((n : Int) + 1)).toNat, by omega, IntWalk.i64_in _ (by omega), by rw [h2]; omega, h1.1, h1.2⟩

end Go.Proofs.Ytehanjhgjbclhaa

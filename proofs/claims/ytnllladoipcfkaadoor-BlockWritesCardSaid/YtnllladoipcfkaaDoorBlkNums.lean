/- What lies where, behind a Write of a block: its bytes, and zeros; how many sectors wait. No conditions but those that stand in each lemma. -/
import Derived.Test.YtnllladoipcfkaaDoorBlkRead
import Derived.Test.YtnllladoipcfkaaDoorBlkWrite
import Derived.Lib.SlBytesConst
namespace Go.Proofs.YtnllladoipcfkaaDoor
open Go.RowKit Go.Maps

theorem int_lit (x : Int) : WideAt.IsKeyLit (.int .i64 x) := trivial
theorem putsD_tidy {D : DataW Unit} (h : Tidy D) (a : Int) (xs : List Int) : ∀ j, Tidy (putsD D a xs j)
  | 0 => h
  | j + 1 => (putsD_tidy h a xs j).put (int_lit (a + j)) _
theorem tidy_map {D : DataW Unit} (h : Tidy D) : IsMap D := by obtain ⟨es, rfl, _⟩ := h; exact ⟨es, rfl⟩
theorem int_key {x y : Int} (h : x ≠ y) : Lit.int .i64 x ≠ .int .i64 y := by intro e; injection e with _ e; exact h e
theorem putsD_has {D : DataW Unit} (h : Tidy D) (a : Int) (xs : List Int) (x : Int) : ∀ j : Nat, has (putsD D a xs j) (.int .i64 x) = (has D (.int .i64 x) || decide (a ≤ x ∧ x < a + j))
  | 0 => by
    have : decide (a ≤ x ∧ x < a + ((0 : Nat) : Int)) = false := decide_eq_false (by omega)
    rw [this, Bool.or_false]
    rfl
  | j + 1 => by
    by_cases e : x = a + j
    · subst e
      have : decide (a ≤ a + (j : Int) ∧ a + (j : Int) < a + ((j + 1 : Nat) : Int)) = true := decide_eq_true (by omega)
      rw [this, Bool.or_true]
      exact has_put_same (tidy_map (putsD_tidy h a xs j)) (int_lit _) _
    · have ih := putsD_has h a xs x j
      have e2 : has (putsD D a xs (j + 1)) (.int .i64 x) = has (putsD D a xs j) (.int .i64 x) := has_put_other (int_key e) _
      rw [e2, ih]
      congr 1
      have : (a ≤ x ∧ x < a + (j : Int)) ↔ (a ≤ x ∧ x < a + ((j + 1 : Nat) : Int)) := by omega
      exact decide_eq_decide.2 this
theorem putsD_size {D : DataW Unit} (h : Tidy D) (hn : ∀ x : Int, has D (.int .i64 x) = false) (a : Int) (xs : List Int) : ∀ j : Nat, Maps.size (putsD D a xs j) = Maps.size D + j
  | 0 => rfl
  | j + 1 => by
    have e : has (putsD D a xs j) (.int .i64 (a + j)) = false := by rw [putsD_has h, hn, Bool.false_or]; simp
    have := size_put (k := .int .i64 (a + j)) (putsD_tidy h a xs j) (secD (padS (chunk xs j)))
    rw [e, if_neg (by decide), putsD_size h hn a xs j] at this
    exact this
theorem puts_new (a : Int) (xs : List Int) (j : Nat) : Maps.size (putsD (.map []) a xs j) = j := by rw [putsD_size tidy_empty (fun _ => rfl)]; exact Nat.zero_add j
theorem flush_puts {D : DataW Unit} (h : Tidy D) (ls : List (List Int)) (a : Nat) (xs : List Int) (i : Nat) : ∀ m : Nat, flushI (putsD D a xs m) ls i = if a ≤ i ∧ i < a + m then padS (chunk xs (i - a)) else flushI D ls i
  | 0 => by rw [if_neg (by omega)]; rfl
  | m + 1 => by
    have ih := flush_puts h ls a xs i m
    by_cases e : i = a + m
    · subst e
      rw [if_pos (by omega), Nat.add_sub_cancel_left]
      have := atKey_put_same (k := .int .i64 ((a : Int) + m)) (tidy_map (putsD_tidy h a xs m)) (int_lit _) (secD (padS (chunk xs m))) (secD (ls.getD (a + m) []))
      unfold flushI
      rw [show ((a + m : Nat) : Int) = (a : Int) + m by omega]
      rw [show (putsD D a xs (m + 1)).atKey (.int .i64 ((a : Int) + m)) (secD (ls.getD (a + m) [])) = _ from this, unD_secD]
    · have := atKey_put_other (D := putsD D a xs m) (k := .int .i64 ((a : Int) + m)) (k' := .int .i64 (i : Int)) (int_key (by omega)) (secD (padS (chunk xs m))) (secD (ls.getD i []))
      have e2 : flushI (putsD D a xs (m + 1)) ls i = flushI (putsD D a xs m) ls i := by
        unfold flushI
        rw [show (putsD D a xs (m + 1)).atKey (.int .i64 (i : Int)) (secD (ls.getD i [])) = _ from this]
      rw [e2, ih]
      by_cases e3 : a ≤ i ∧ i < a + m
      · rw [if_pos e3, if_pos (by omega)]
      · rw [if_neg e3, if_neg (by omega)]
theorem pad_at (xs : List Int) (r : Nat) : (padS xs).getD r 0 = xs.getD r 0 := by
  unfold padS
  rw [List.getD_eq_getElem?_getD, List.getD_eq_getElem?_getD, List.getElem?_append]
  split
  · rfl
  · rename_i h
    rw [List.getElem?_eq_none (by omega : xs.length ≤ r), List.getElem?_replicate]
    split <;> rfl
theorem chunk_at (xs : List Int) (i r : Nat) (h : r < 512) : (chunk xs i).getD r 0 = xs.getD (i * 512 + r) 0 := by
  unfold chunk
  rw [List.getD_eq_getElem?_getD, List.getD_eq_getElem?_getD, List.getElem?_take, if_pos h, List.getElem?_drop]
/-- A block that was written is read. -/
theorem blk_puts {D : DataW Unit} (h : Tidy D) (ls : List (List Int)) (a : Nat) (xs : List Int) (m n : Nat) (hn : n = xs.length) (hm : n ≤ m * 512) : blkS (putsD D a xs m) ls a n = xs := by
  subst hn
  apply List.ext_getElem?
  intro t
  unfold blkS
  rw [List.getElem?_map]
  by_cases ht : t < xs.length
  · rw [List.getElem?_range ht, List.getElem?_eq_getElem ht]
    have h1 : t / 512 < m := by omega
    show some (blkI (putsD D a xs m) ls a t) = _
    unfold blkI
    rw [flush_puts h, if_pos (by omega), Nat.add_sub_cancel_left, pad_at, chunk_at _ _ _ (by omega), show t / 512 * 512 + t % 512 = t by omega, List.getD_eq_getElem?_getD, List.getElem?_eq_getElem ht]
    rfl
  · rw [List.getElem?_eq_none (by rw [List.length_range]; omega), List.getElem?_eq_none (by omega)]
    rfl
theorem zero_sec (N i k : Nat) : (flushI (.map []) (zeroSecs N) i).getD k 0 = 0 := by
  unfold flushI
  rw [atKey_of_not_has rfl, unD_secD]
  unfold zeroSecs
  rw [List.getD_eq_getElem?_getD, List.getD_eq_getElem?_getD, List.getElem?_replicate]
  split
  · show (List.replicate 512 (0 : Int))[k]?.getD 0 = 0
    rw [List.getElem?_replicate]
    split <;> rfl
  · rfl
/-- What lies in a sector of a disk of zeros, behind a Write of a block. -/
theorem sec_puts (N a : Nat) (xs : List Int) (m i k : Nat) (hk : k < 512) (hm : xs.length ≤ m * 512) :
    (flushI (putsD (.map []) a xs m) (zeroSecs N) i).getD k 0 = if a * 512 ≤ i * 512 + k then xs.getD (i * 512 + k - a * 512) 0 else 0 := by
  rw [flush_puts tidy_empty]
  by_cases h1 : a ≤ i
  · rw [if_pos (show a * 512 ≤ i * 512 + k by omega)]
    by_cases h2 : i < a + m
    · rw [if_pos ⟨h1, h2⟩, pad_at, chunk_at _ _ _ hk, show (i - a) * 512 + k = i * 512 + k - a * 512 by omega]
    · rw [if_neg (by omega), zero_sec, List.getD_eq_getElem?_getD, List.getElem?_eq_none (by omega)]
      rfl
  · rw [if_neg (by omega), zero_sec, if_neg (by omega)]
/-- .. and of a disk that was flushed. -/
theorem flushed_at (D : DataW Unit) (ls : List (List Int)) (i : Nat) (h : i < ls.length) : flushI (.map []) (flushS D ls) i = flushI D ls i := by
  have e : flushI (.map []) (flushS D ls) i = (flushS D ls).getD i [] := by
    unfold flushI
    rw [atKey_of_not_has rfl, unD_secD]
  rw [e]
  unfold flushS
  rw [List.getD_eq_getElem?_getD, List.getElem?_map, List.getElem?_range h]
  rfl
theorem blk_flushed (D : DataW Unit) (ls : List (List Int)) (a n : Nat) (h : a + (n + 511) / 512 ≤ ls.length) : blkS (.map []) (flushS D ls) a n = blkS D ls a n := by
  unfold blkS
  refine List.map_congr_left fun t ht => ?_
  rw [List.mem_range] at ht
  unfold blkI
  rw [flushed_at D ls _ (by omega)]
theorem fits_of {a b : Int} {n N : Nat} {xs : List Int} (h : n = xs.length) : fitsI (ofP a b xs) N = fitsI (placeP a b n) N := by subst h; rfl
theorem ofP_sha (a b : Int) (xs : List Int) : (ofP a b xs).sha.length = 32 := shaS_length xs
theorem ofP_len (a b : Int) (xs : List Int) : (ofP a b xs).len = (xs.length : Int) := rfl
theorem own_check {place birth : Int} {xs : List Int} (h : (ofP place birth xs).right = true) : checkP (ofP place birth xs) xs = 0 := by
  unfold checkP
  rw [if_pos h]
  exact if_pos (Pt.same_self _)
theorem lit_src (w : World) (x : Int) (t : TypeId) (f : Nat × Nat) : Src .u8 (w.alloc (.cells #[.int .u8 x] t f)) (some ⟨w.heap.size, 0, none⟩) [x] := fun _ => by
  refine ⟨w.heap.size, 0, rfl, by simp, fun i hi => ?_⟩
  have : i = 0 := by simpa using hi
  subst this
  unfold World.cell?
  rw [heap_alloc_new]
  rfl
/-- Write of one byte on a new disk of nine sectors. -/
theorem one_write {w : World} {base q B M : Nat} (h : Disk w base q B M 9 9 0 (zeroSecs 9) (.map []) false 0) (hlow : Low base) (ht : Tabs w) (g : Nat) (hs : Src .u8 w (some ⟨g, 0, none⟩) [120]) (hA : g ≠ q ∧ g ≠ B ∧ g ≠ M) :
    Calls Tryd.prog 7 #[.pointer (some ⟨q, 0, none⟩), .int .i64 2, .int .i64 1, .slice (some ⟨g, 0, none⟩) 1 1] w fun e w' => e = .returned (.tuple #[.agg (pcells (ofP 2 1 [120])), .int .i64 0]) ∧ Below base w w' := by
  refine (bwrite_done h (by decide) (by decide) (by decide) hlow ht 2 1 g 0 1 1 1 [120] rfl hs (fun x hx => by rw [List.mem_singleton.1 hx]; decide) (Nat.le_refl _) (by decide) hA (placeP_ok (by decide) (by decide) (by decide) (by decide) (by decide) (by decide)) (by decide) (by decide)).mono ?_
  rintro e w' ⟨he, hb, _⟩
  exact ⟨he, hb⟩
end Go.Proofs.YtnllladoipcfkaaDoor

/- textSize, Weight, common: how many bytes a text takes, and an entry at most; how many bytes two texts begin with alike; nothing that was there is written. No conditions but those that stand in each lemma. | rising, within, allBlocks: whether keys rise, whether texts are short, whether pointers are right; nothing that was there is written. No conditions but those that stand in each lemma. -/
import Derived.Test.YtnoofmdhhlcbkaaLfIn
import Derived.Test.YtnoofmdhhlcbkaaDraw
import Derived.Test.YtnoofmdhhlcbkaaLfSeek
import Derived.Test.YtnoofmdhhlcbkaaPtrRight

namespace Go.Proofs.Ytnoofmdhhlcbkaa
open Go.RowKit
namespace Lf
open Els

theorem ret_i64 {a b : Int} (h : a = b) : Ending.returned (.int .i64 a) = Ending.returned (.int .i64 b) := by rw [h]
/-- How many bytes a text of so many takes behind its length. -/
def tsz (n : Nat) : Nat := (shortOf n).length + n
theorem tsz_text (l : List Int) : (textL l).length = tsz l.length := by unfold textL tsz; rw [List.length_append]
theorem tsz_le {n : Nat} (h : n ≤ 1000000) : tsz n ≤ 1000010 := by unfold tsz; have := shortOf_ten n (by omega); omega
theorem tsize_any (A : Option Addr) (n c : Nat) (w : World) (hn : n ≤ 1000000) :
    Calls Try.prog 22 #[.slice A n c] w fun e w' => e = .returned (.int .i64 (tsz n : Int)) ∧ Below w.heap.size w w' := by
  have h10 := shortOf_ten n (by omega)
  go_enter Try.func22, Try.ntmps22
  go_wp2_with fail
  refine (short_any none 0 0 [] (n : Int) _ rfl Src.none_ (by omega) (by omega) (by omega)).mono ?_
  rintro e w1 ⟨v1, rfl, A1, n1, c1, rfl, hn1, ho1, hb1⟩
  rw [Int.toNat_natCast, List.nil_append] at hn1
  have h1 : n1 ≤ 10 := by omega
  have Hn1 := Lib.hid hn1
  clear hn1 h10 ho1
  go_wp2_with fail
  go_ret
  exact ⟨ret_i64 (by have := Hn1.out; unfold tsz; omega), hb1⟩
/-- An entry's bytes at most. -/
def wgt (k v : Nat) (kid : Bool) : Nat := 1 + tsz k + (if kid = true then 52 else tsz v)
set_option maxHeartbeats 1000000 in
theorem weight_any (A S : Option Addr) (n c m d : Nat) (kid : Bool) (w : World) (hn : n ≤ 1000000) (hm : m ≤ 1000000) :
    Calls Try.prog 13 #[.slice A n c, .slice S m d, .bool kid] w fun e w' => e = .returned (.int .i64 (wgt n m kid : Int)) ∧ Below w.heap.size w w' := by
  have h1 := tsz_le hn
  have h2 := tsz_le hm
  cases kid with
  | true =>
    obtain ⟨t, ht⟩ : ∃ t : Nat, Hid (t = tsz n) := ⟨_, rfl⟩
    rw [← ht.out] at h1
    go_enter Try.func13, Try.ntmps13
    go_wp2_with (go_at_call 22; refine (tsize_any A n c _ hn).mono ?_; rw [← ht.out]; rintro e w1 ⟨rfl, hb1⟩)
    go_ret
    exact ⟨ret_i64 (by have := ht.out; simp [wgt]; omega), hb1⟩
  | false =>
    obtain ⟨t, ht⟩ : ∃ t : Nat, Hid (t = tsz n) := ⟨_, rfl⟩
    obtain ⟨u, hu⟩ : ∃ t : Nat, Hid (t = tsz m) := ⟨_, rfl⟩
    rw [← ht.out] at h1
    rw [← hu.out] at h2
    go_enter Try.func13, Try.ntmps13
    go_wp2_with fail
    refine (tsize_any A n c _ hn).mono ?_
    rw [← ht.out]
    rintro e w1 ⟨rfl, hb1⟩
    go_wp2_with fail
    refine (tsize_any S m d _ hm).mono ?_
    rw [← hu.out]
    rintro e w2 ⟨rfl, hb2⟩
    go_wp2_with fail
    go_ret
    exact ⟨ret_i64 (by have := ht.out; have := hu.out; simp [wgt]; omega), hb1.trans (hb2.mono hb1.size)⟩
theorem same_comm : ∀ xs ys : List Int, sameOf xs ys = sameOf ys xs
  | [], [] => rfl
  | [], _ :: _ => rfl
  | _ :: _, [] => rfl
  | x :: xs, y :: ys => by
    rw [sameOf, sameOf, same_comm xs ys]
    by_cases h : x = y
    · rw [if_pos h, if_pos h.symm]
    · rw [if_neg h, if_neg (fun e => h e.symm)]
/-- At a round's head: so many bytes are alike. -/
def SameAt (xs ys : List Int) (w : World) (i : Value) (wr : World) : Prop := ∃ k : Nat, k ≤ xs.length ∧ k ≤ ys.length ∧ (∀ j, j < k → xs.getD j 0 = ys.getD j 0) ∧ i = .int .i64 (k : Int) ∧ Below w.heap.size w wr
set_option maxHeartbeats 2000000 in
theorem common_any (A S : Option Addr) (n c m d : Nat) (xs ys : List Int) (w : World) (hn : n = xs.length) (hs : Src .u8 w A xs) (hm : m = ys.length) (hr : Src .u8 w S ys) (hl : n ≤ 1000000) :
    Calls Try.prog 36 #[.slice A n c, .slice S m d] w fun e w' => e = .returned (.int .i64 (sameOf xs ys : Int)) ∧ Below w.heap.size w w' := by
  have Hn := Lib.hid hn
  have Hm := Lib.hid hm
  have Hs := Lib.hid hs
  have Hr := Lib.hid hr
  clear hn hm hs hr
  go_enter Try.func36, Try.ntmps36
  go_wp2_with fail
  go_loopw [5] (fun i wr => SameAt xs ys w i wr) (fun i _ => n - (intOf i).toNat)
  case atStart => exact ⟨0, Nat.zero_le _, Nat.zero_le _, fun j hj => by omega, rfl, Below.refl _ _⟩
  case round =>
    obtain ⟨k, hk1, hk2, heq, rfl, hb⟩ := hrel
    have HK := Lib.hid (And.intro hk1 hk2)
    have HE := Lib.hid heq
    clear hk1 hk2 heq
    by_cases h1 : k < n
    · by_cases h2 : k < m
      · obtain ⟨b, o, rfl, hlt, hc⟩ := Hs.out.keep hb (by have := Hn.out; omega)
        obtain ⟨b', o', rfl, hlt', hc'⟩ := Hr.out.keep hb (by have := Hm.out; omega)
        obtain ⟨x, Hx⟩ : ∃ x, Hid (x = xs.getD k 0) := ⟨_, rfl⟩
        obtain ⟨y, Hy⟩ : ∃ y, Hid (y = ys.getD k 0) := ⟨_, rfl⟩
        have k1 : ∀ g : Above wr.drew, g.1.cell? ⟨b, o + k, none⟩ = some (.int .u8 x) := fun g => ((Ext.trans (Ext.drew wr) g.2).cell (p := ⟨b, o + k, none⟩) hlt).trans (by rw [Hx.out]; exact hc k (by have := Hn.out; omega))
        have k2 : ∀ g : Above wr.drew, g.1.cell? ⟨b', o' + k, none⟩ = some (.int .u8 y) := fun g => ((Ext.trans (Ext.drew wr) g.2).cell (p := ⟨b', o' + k, none⟩) hlt').trans (by rw [Hy.out]; exact hc' k (by have := Hm.out; omega))
        have i1 : (k : Int) < (n : Int) := by omega
        have i2 : (k : Int) < (m : Int) := by omega
        have d1 : decide (k < n) = true := by simp; omega
        have d2 : decide (k < m) = true := by simp; omega
        clear hc hc' hlt hlt'
        by_cases he : x = y
        · have e1 : (x == y) = true := by simpa using he
          have H := Lib.hid he
          clear he
          go_wp2_with fail
          refine wp_region_segs [] [0, 1, 2, 3, 4, 5, 6, 7, 8, 9, 10, 11, 12, 13, 14, 15, 16, 17, 18, 19, 20] (by kernel_rfl) (by kernel_rfl) (by kernel_rfl) (by kernel_rfl) (fun _ _ d _ _ h => by cases d <;> exact h) ?_
          refine wpSegs_last (by simp [pickOps]; rfl) ?_
          repeat (go_big_quiet_step (fail))
          refine wpQuiet_nil ?_
          clear k1 k2
          go_wp2_with fail
          go_roundw
          case rel => exact ⟨k + 1, by have := Hn.out; omega, by have := Hm.out; omega, fun j hj => by
            rcases Nat.lt_or_eq_of_le (show j ≤ k by omega) with h | h
            · exact HE.out j h
            · rw [h, ← Hx.out, ← Hy.out]; exact H.out, rfl, hb.drew⟩
          case measure => simp [intOf]; omega
        · have e1 : (x == y) = false := by simpa using he
          have H := Lib.hid he
          clear he
          go_wp2_with fail
          refine wp_region_segs [] [0, 1, 2, 3, 4, 5, 6, 7, 8, 9, 10, 11, 12, 13, 14, 15, 16, 17, 18, 19, 20] (by kernel_rfl) (by kernel_rfl) (by kernel_rfl) (by kernel_rfl) (fun _ _ d _ _ h => by cases d <;> exact h) ?_
          refine wpSegs_last (by simp [pickOps]; rfl) ?_
          repeat (go_big_quiet_step (fail))
          refine wpQuiet_nil ?_
          clear k1 k2
          go_wp2_with fail
          go_ret
          exact ⟨ret_i64 (by rw [same_eq k xs ys HK.out.1 HK.out.2 HE.out (fun _ _ => by rw [← Hx.out, ← Hy.out]; exact H.out)]), hb.drew⟩
      · have d1 : decide (k < n) = true := by simp; omega
        have d2 : decide (k < m) = false := by simp; omega
        go_wp2_with fail
        refine wp_region_segs [] [0, 1, 2, 3, 4, 5, 6, 7, 8, 9, 10, 11, 12, 13, 14, 15, 16, 17, 18, 19, 20] (by kernel_rfl) (by kernel_rfl) (by kernel_rfl) (by kernel_rfl) (fun _ _ d _ _ h => by cases d <;> exact h) ?_
        refine wpSegs_last (by simp [pickOps]; rfl) ?_
        repeat (go_big_quiet_step (fail))
        refine wpQuiet_nil ?_
        go_wp2_with fail
        go_ret
        exact ⟨ret_i64 (by rw [same_eq k xs ys HK.out.1 HK.out.2 HE.out (fun _ h => absurd h (by have := Hm.out; omega))]), hb.drew⟩
    · have d1 : decide (k < n) = false := by simp; omega
      go_wp2_with fail
      refine wp_region_segs [] [0, 1, 2, 3, 4, 5, 6, 7, 8, 9, 10, 11, 12, 13, 14, 15, 16, 17, 18, 19, 20] (by kernel_rfl) (by kernel_rfl) (by kernel_rfl) (by kernel_rfl) (fun _ _ d _ _ h => by cases d <;> exact h) ?_
      refine wpSegs_last (by simp [pickOps]; rfl) ?_
      repeat (go_big_quiet_step (fail))
      refine wpQuiet_nil ?_
      go_wp2_with fail
      go_ret
      exact ⟨ret_i64 (by rw [same_eq k xs ys HK.out.1 HK.out.2 HE.out (fun h _ => absurd h (by have := Hn.out; omega))]), hb.drew⟩
end Lf
end Go.Proofs.Ytnoofmdhhlcbkaa

namespace Go.Proofs.Ytnoofmdhhlcbkaa
open Go.RowKit
namespace Lf
open Els

/-- A yes or a no that says whether p holds. -/
def Tells (p : Prop) (w : World) (e : Ending) (w' : World) : Prop := ∃ b : Bool, e = .returned (.bool b) ∧ (b = true ↔ p) ∧ Below w.heap.size w w'
theorem Tells.yes {p : Prop} {w w' : World} (h : p) (hb : Below w.heap.size w w') : Tells p w (.returned (.bool true)) w' := ⟨true, rfl, by simp [h], hb⟩
theorem Tells.no {p : Prop} {w w' : World} (h : ¬ p) (hb : Below w.heap.size w w') : Tells p w (.returned (.bool false)) w' := ⟨false, rfl, by simp [h], hb⟩
/-- All texts are short. -/
def Short_ (ls : List (List Int)) (most : Int) : Prop := ∀ i, i < ls.length → ((ls.getD i []).length : Int) ≤ most
set_option maxHeartbeats 1000000 in
theorem nwithin_any (A : Option Addr) (n c : Nat) (cs : List Value) (ls : List (List Int)) (most : Int) (w : World) (hn : n = ls.length) (hr : Rows w A c cs ls) :
    Calls Try.prog 33 #[.slice A n c, .int .i64 most] w (Tells (Short_ ls most) w) := by
  have hcap : n ≤ 9223372036854775807 := by have := hr.cap; have := hr.max; unfold maxLen at this; omega
  have Hn := Lib.hid hn
  have Hr := Lib.hid hr
  clear hn hr
  go_enter Try.func33, Try.ntmps33
  go_wp2_with fail
  go_loop [9] (fun i => ∃ k : Nat, k ≤ ls.length ∧ (∀ j, j < k → ((ls.getD j []).length : Int) ≤ most) ∧ i = .int .i64 (k : Int)) (fun i => n - (intOf i).toNat)
  case atStart => exact ⟨0, Nat.zero_le _, fun j hj => by omega, rfl⟩
  case round =>
    obtain ⟨k, hk, hall, rfl⟩ := hrel
    have HK := Lib.hid hk
    have HA := Lib.hid hall
    clear hk hall
    by_cases hlt : k < n
    · obtain ⟨b, o, v, rfl, hltb, hcell, A1, c1, rfl, hsrc, hc1, hc2⟩ := Hr.out.at_ k (by rw [← Hn.out]; exact hlt)
      have hlen : (ls.getD k []).length ≤ 9223372036854775807 := by unfold maxLen at hc2; omega
      obtain ⟨y, hy⟩ : ∃ y, Hid (y = (ls.getD k []).length) := ⟨_, rfl⟩
      rw [← hy.out] at hcell hlen
      clear hsrc hc1 hc2
      by_cases hm : most < (y : Int)
      · go_wp2_with fail
        go_ret
        exact Tells.no (fun h => by have := h k (by have := Hn.out; omega); rw [← hy.out] at this; omega) (Below.refl _ _)
      · go_wp2_with fail
        go_round
        case rel => exact ⟨k + 1, by have := Hn.out; omega, fun j hj => by
          rcases Nat.lt_or_eq_of_le (show j ≤ k by omega) with h | h
          · exact HA.out j h
          · rw [h, ← hy.out]; omega, rfl⟩
        case measure => simp [intOf]; omega
    · go_wp2_with fail
      go_ret
      exact Tells.yes (fun j hj => HA.out j (by have := Hn.out; omega)) (Below.refl _ _)
set_option maxHeartbeats 2000000 in
theorem rising_any (A : Option Addr) (n c : Nat) (cs : List Value) (ls : List (List Int)) (w : World) (hn : n = ls.length) (hr : Rows w A c cs ls) (hb : ∀ l ∈ ls, IsBytes l) :
    Calls Try.prog 32 #[.slice A n c] w (Tells (Rising ls) w) := by
  have hcap : n ≤ 9223372036854775807 := by have := hr.cap; have := hr.max; unfold maxLen at this; omega
  have Hn := Lib.hid hn
  have Hr := Lib.hid hr
  have Hb := Lib.hid hb
  clear hn hr hb
  go_enter Try.func32, Try.ntmps32
  go_wp2_with fail
  go_loopw [3] (fun i wr => (∃ k : Nat, 1 ≤ k ∧ (k ≤ ls.length ∨ k = 1) ∧ (∀ j, j + 1 < k → Lex.lexB (ls.getD j []) (ls.getD (j + 1) []) = true) ∧ i = .int .i64 (k : Int)) ∧ Below w.heap.size w wr) (fun i _ => n + 1 - (intOf i).toNat)
  case atStart => exact ⟨⟨1, Nat.le_refl _, .inr rfl, fun j hj => by omega, rfl⟩, Below.refl _ _⟩
  case round =>
    obtain ⟨⟨k, hk1, hk, hup, rfl⟩, hb⟩ := hrel
    have HU := Lib.hid hup
    have HK := Lib.hid hk
    clear hup hk
    obtain ⟨j, hj⟩ : ∃ j, Hid (k = j + 1) := ⟨k - 1, by show _ = _; omega⟩
    by_cases hlt : k < n
    · obtain ⟨b, o, v, hA, hltb, hcell, A1, c1, hv, hsrc, hc1, hc2⟩ := (Hr.out.keep hb).at_ k (by rw [← Hn.out]; exact hlt)
      obtain ⟨b', o', v', hA', hltb', hcell', A2, c2, hv', hsrc', hc1', hc2'⟩ := (Hr.out.keep hb).at_ j (by rw [← Hn.out]; have := hj.out; omega)
      subst hv hv' hA
      injection hA' with hA'
      injection hA' with e1 e2 _
      subst e1 e2
      obtain ⟨y, hy⟩ : ∃ y, Hid (y = ls.getD k []) := ⟨_, rfl⟩
      obtain ⟨z, hz⟩ : ∃ z, Hid (z = ls.getD j []) := ⟨_, rfl⟩
      rw [← hy.out] at hcell hsrc hc1
      rw [← hz.out] at hcell' hsrc' hc1'
      have Hy : Hid (IsBytes y) := by rw [hy.out]; exact getD_bytes Hb.out k
      have Hz : Hid (IsBytes z) := by rw [hz.out]; exact getD_bytes Hb.out j
      have k3 : ∀ g : Above wr.drew, g.1.cell? ⟨b, o + k, none⟩ = some (.slice A1 y.length c1) := fun g => ((Ext.trans (Ext.drew wr) g.2).cell (p := ⟨b, o + k, none⟩) hltb).trans hcell
      have k4 : ∀ g : Above wr.drew, g.1.cell? ⟨b, o + j, none⟩ = some (.slice A2 z.length c2) := fun g => ((Ext.trans (Ext.drew wr) g.2).cell (p := ⟨b, o + j, none⟩) hltb).trans hcell'
      have Hsy := Lib.hid (hsrc.keep (Ext.drew wr))
      have Hsz := Lib.hid (hsrc'.keep (Ext.drew wr))
      clear hcell hcell' hsrc hsrc' hc1 hc2 hc1' hc2' hltb hltb'
      have hkj : IntKind.i64.wrap ((k : Int) - 1) = (j : Int) := by rw [IntWalk.i64_in _ (by have := hj.out; omega)]; have := hj.out; omega
      have hjn : (j : Int) < (n : Int) := by have := hj.out; omega
      have i1 : (k : Int) < (n : Int) := by omega
      obtain ⟨q, hq⟩ : ∃ q, Hid (q = Lex.cmpI z y) := ⟨_, rfl⟩
      by_cases hneg : q < 0
      · have Hless : Hid (Lex.lexB z y = true) := by have := hq.out; rw [← Lex.cmp_neg, ← this]; exact hneg
        have t0 : decide ((0 : Int) ≤ q) = false := by simp; omega
        go_wp2_with fail
        refine wp_region_segs [([0, 1, 2, 3, 4, 5, 6, 7, 8], 9)] [10] (by kernel_rfl) (by kernel_rfl) (by kernel_rfl) (by kernel_rfl) (fun _ _ d _ _ h => by cases d <;> exact h) ?_
        refine wpSegs_next (by simp [pickOps]; rfl) ?_
        repeat (go_big_quiet_step (fail))
        refine wpQuiet_nil ?_
        refine wpOp_alone rfl rfl (fun K hK => ?_)
        go_simp
        refine (Lex.compare_any A2 A1 z.length y.length c2 c1 z y _ rfl Hsz.out Hz.out rfl Hsy.out Hy.out).mono ?_
        rw [← hq.out]
        rintro e w' ⟨rfl, rfl⟩
        refine hK _ _ ⟨Ext.refl _, ?_⟩
        clear hK K k3 k4
        refine wpSegs_last (by simp [pickOps]; rfl) ?_
        repeat (go_big_quiet_step (fail))
        refine wpQuiet_nil ?_
        go_wp2_with fail
        go_roundw
        case rel => exact ⟨⟨k + 1, by omega, .inl (by have := Hn.out; omega), fun i hi => by
          rcases Nat.lt_or_eq_of_le (show i + 1 ≤ k by omega) with h | h
          · exact HU.out i h
          · obtain rfl : i = j := by have := hj.out; omega
            rw [← hz.out, h, ← hy.out]; exact Hless.out, rfl⟩, hb.drew⟩
        case measure => simp [intOf]; omega
      · have Hless : Hid (¬ Lex.lexB z y = true) := by have := hq.out; show ¬ _; rw [← Lex.cmp_neg, ← this]; exact hneg
        have t0 : decide ((0 : Int) ≤ q) = true := by simp; omega
        go_wp2_with fail
        refine wp_region_segs [([0, 1, 2, 3, 4, 5, 6, 7, 8], 9)] [10] (by kernel_rfl) (by kernel_rfl) (by kernel_rfl) (by kernel_rfl) (fun _ _ d _ _ h => by cases d <;> exact h) ?_
        refine wpSegs_next (by simp [pickOps]; rfl) ?_
        repeat (go_big_quiet_step (fail))
        refine wpQuiet_nil ?_
        refine wpOp_alone rfl rfl (fun K hK => ?_)
        go_simp
        refine (Lex.compare_any A2 A1 z.length y.length c2 c1 z y _ rfl Hsz.out Hz.out rfl Hsy.out Hy.out).mono ?_
        rw [← hq.out]
        rintro e w' ⟨rfl, rfl⟩
        refine hK _ _ ⟨Ext.refl _, ?_⟩
        clear hK K k3 k4
        refine wpSegs_last (by simp [pickOps]; rfl) ?_
        repeat (go_big_quiet_step (fail))
        refine wpQuiet_nil ?_
        go_wp2_with fail
        go_ret
        exact Tells.no (fun h => Hless.out (by
          have := h j (by have := Hn.out; have := hj.out; omega)
          rw [← hz.out, ← hj.out, ← hy.out] at this
          exact this)) hb.drew
    · go_wp2_with fail
      go_ret
      exact Tells.yes (fun i hi => HU.out i (by have := Hn.out; omega)) hb
section
variable {ops : Array Oper} {rest : List Oper} {o : Oper} {a : Act} {w : World} {Q : Exit → Act → World → Prop}
theorem wpList_loadPs (x : Operand) (ho : o.op = .load 43 x) (hw : Region.wanted o (yielded ops a.tmps) = true) (b off : Nat) (hx : a.eval x = .pointer (some ⟨b, off, none⟩)) (q : Pt) (hq : q.sha.length = 32) (hc : Cells w b off (pcells q))
    (h : wpList Try.prog ops Q rest (a.put o.dst (.agg (pcells q))) w) : wpList Try.prog ops Q (o :: rest) a w :=
  wpList_load_cells_w hw 43 x ho b off hx (pcells q) _ hc Try.underlying43 rfl (pt_size hq) h
theorem wpQuiet_loadPs {K : Act → Prop} (x : Operand) (ho : o.op = .load 43 x) (hw : Region.wanted o (yielded ops a.tmps) = true) (b off : Nat) (hx : a.eval x = .pointer (some ⟨b, off, none⟩)) (q : Pt) (hq : q.sha.length = 32) (hc : Cells w b off (pcells q)) (hlt : b < w.heap.size)
    (h : wpQuiet Try.prog ops (Cl w) K rest (a.put o.dst (.agg (pcells q)))) : wpQuiet Try.prog ops (Cl w) K (o :: rest) a :=
  wpQuiet_load_cells hw 43 x ho b off hx (pcells q) _ hc hlt Try.underlying43 rfl (pt_size hq) h
end
theorem pt_at {w : World} {A : Option Addr} {ps : List Pt} (h : PSrc w A ps) (i : Nat) (hi : i < ps.length) : ∃ b o, A = some ⟨b, o, none⟩ ∧ b < w.heap.size ∧ Cells w b (o + i * 36) (pcells (ps.getD i Pt.zero)) := by
  obtain ⟨b, o, hA, hlt, hc⟩ := h (by omega)
  exact ⟨b, o, hA, hlt, fun j v hv => hc i hi j v hv⟩
def AllRight (ps : List Pt) : Prop := ∀ i, i < ps.length → (ps.getD i Pt.zero).right = true
set_option maxHeartbeats 2000000 in
theorem allBlocks_any (A : Option Addr) (n c : Nat) (ps : List Pt) (w : World) (hn : n = ps.length) (hs : PSrc w A ps) (hp : ∀ p ∈ ps, p.Ok) (hc : n ≤ c) (hm : c ≤ maxLen) :
    Calls Try.prog 34 #[.slice A n c] w (Tells (AllRight ps) w) := by
  have hcap : n ≤ 9223372036854775807 := by unfold maxLen at hm; omega
  have Hn := Lib.hid hn
  have Hs := Lib.hid hs
  have Hp := Lib.hid hp
  clear hn hs hp hc hm
  go_enter Try.func34, Try.ntmps34
  go_wp2_with fail
  go_loopw [7] (fun i wr => (∃ k : Nat, k ≤ ps.length ∧ (∀ j, j < k → (ps.getD j Pt.zero).right = true) ∧ i = .int .i64 (k : Int)) ∧ Below w.heap.size w wr) (fun i _ => n - (intOf i).toNat)
  case atStart => exact ⟨⟨0, Nat.zero_le _, fun j hj => by omega, rfl⟩, Below.refl _ _⟩
  case round =>
    obtain ⟨⟨k, hk, hall, rfl⟩, hb⟩ := hrel
    have HK := Lib.hid hk
    have HA := Lib.hid hall
    clear hk hall
    by_cases hlt : k < n
    · obtain ⟨b, o, rfl, hltb, hcell⟩ := pt_at (Hs.out.keep hb) k (by rw [← Hn.out]; exact hlt)
      obtain ⟨y, hy⟩ : ∃ y, Hid (y = ps.getD k Pt.zero) := ⟨_, rfl⟩
      rw [← hy.out] at hcell
      have Hok : Hid y.Ok := by rw [hy.out]; exact getD_ok Hp.out k
      have HC := Lib.hid hcell
      clear hcell
      have i1 : (k : Int) < (n : Int) := by omega
      go_wp2_with (first
        | (refine wpList_loadPs _ rfl rfl b (o + k * 36) rfl y Hok.out.shaL HC.out ?_)
        | (refine wpList_allocP _ rfl rfl rfl ?_; intro w1 r1 b1 s1)
        | (refine wpList_storeP rfl _ _ rfl _ rfl y rfl Hok.out.shaL Pt.zero rfl r1 ?_; intro w2 r2 o2)
        | (refine wpList_loadP _ rfl rfl _ rfl y Hok.out.shaL r2 ?_))
      have hbo : Below w.heap.size w w2 := (hb.trans (b1.mono hb.size)).trans (o2.below.mono hb.size)
      refine (right_any y _ Hok.out).mono ?_
      rintro e w3 ⟨rfl, hb3⟩
      have hb4 := hbo.trans (hb3.mono hbo.size)
      clear r1 b1 s1 r2 o2 hb3 hbo hb
      cases hr : y.right with
      | true =>
        have HR := Lib.hid hr
        clear hr
        go_wp2_with fail
        go_roundw
        case rel => exact ⟨⟨k + 1, by have := Hn.out; omega, fun j hj => by
          rcases Nat.lt_or_eq_of_le (show j ≤ k by omega) with h | h
          · exact HA.out j h
          · rw [h, ← hy.out]; exact HR.out, rfl⟩, hb4⟩
        case measure => simp [intOf]; omega
      | false =>
        have HR := Lib.hid hr
        clear hr
        go_wp2_with fail
        go_ret
        exact Tells.no (fun h => by have := h k (by have := Hn.out; omega); rw [← hy.out, HR.out] at this; cases this) hb4
    · go_wp2_with fail
      go_ret
      exact Tells.yes (fun i hi => HA.out i (by have := Hn.out; omega)) hb
end Lf
end Go.Proofs.Ytnoofmdhhlcbkaa

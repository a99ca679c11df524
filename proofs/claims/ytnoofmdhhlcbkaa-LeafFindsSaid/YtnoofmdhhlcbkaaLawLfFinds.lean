/- LeafFinds' walk: of any keys, at most 300: where they rise, the key that is found is not above the one that is sought, and the next one is. -/
import Derived.Test.YtnoofmdhhlcbkaaLfSeek
import Derived.Test.YtnoofmdhhlcbkaaDraw
import Derived.Test.YtnoofmdhhlcbkaaEqB
import Derived.Laws.Cover1
import Derived.Lib.SlBytesConst
namespace Go.Proofs.Ytnoofmdhhlcbkaa
open Go.RowKit
namespace Lf
open Els

theorem conv_const3 (w : World) (X Y : Obj) (C : Array Value) (n c : Nat) : (convert 22 22 (.slice (some ⟨w.heap.size + 2, 0, none⟩) n c)).run Try.prog (((w.alloc X).alloc Y).alloc (.cells C 5)) = .ok (.slice (some ⟨w.heap.size + 2, 0, none⟩) n c) (((w.alloc X).alloc Y).alloc (.cells C 5 (C.size, C.size + 1))) := by
  have h := Lib.run_convert_bytes_const (P := Try.prog) ((w.alloc X).alloc Y) 22 5 C n c Try.underlying22 Try.underlying5
  rwa [show ((w.alloc X).alloc Y).heap.size = w.heap.size + 2 by show ((w.heap.push _).push _).size = _; rw [Array.size_push, Array.size_push]] at h
theorem lit_world (w : World) (F : Nat × Nat) (Z : Obj) : Rows (((w.alloc (.cells #[.int .u8 98] 5 F)).alloc (.cells #[.slice (some ⟨w.heap.size, 0, none⟩) 1 1] 22)).alloc Z) (some ⟨w.heap.size + 1, 0, none⟩) 1 [.slice (some ⟨w.heap.size, 0, none⟩) 1 1] [[98]] := by
  have a1 := heap_alloc_new w (.cells #[.int .u8 98] 5 F)
  have s1 : (w.alloc (.cells #[.int .u8 98] 5 F)).heap.size = w.heap.size + 1 := by show (w.heap.push _).size = _; rw [Array.size_push]
  have hs : Src .u8 (w.alloc (.cells #[.int .u8 98] 5 F)) (some ⟨w.heap.size, 0, none⟩) [98] := fun _ => ⟨w.heap.size, 0, rfl, by rw [s1]; omega, fun i hi => by
    obtain rfl : i = 0 := by simpa using hi
    exact cell_of_row _ _ 0 _ _ _ a1⟩
  have a2 := Row.new (w.alloc (.cells #[.int .u8 98] 5 F)) 22 #[.slice (some ⟨w.heap.size, 0, none⟩) 1 1]
  rw [s1] at a2
  have b2 : Below (w.alloc (.cells #[.int .u8 98] 5 F)).heap.size _ ((w.alloc (.cells #[.int .u8 98] 5 F)).alloc (.cells #[.slice (some ⟨w.heap.size, 0, none⟩) 1 1] 22)) := (Below.refl _ _).alloc (Nat.le_refl _) _
  have a3 := a2.old Z
  have b3 := b2.alloc b2.size Z
  refine ⟨csrc_row a3, ⟨rfl, fun i hi => ?_⟩, Nat.le_refl _, by unfold maxLen; omega⟩
  obtain rfl : i = 0 := by simpa using hi
  exact ⟨_, rfl, some ⟨w.heap.size, 0, none⟩, 1, rfl, hs.keep b3, Nat.le_refl _, by unfold maxLen; omega⟩
theorem lit_key (w : World) (x : Int) (g : Nat) (hg : w.heap.size = g) (F : Nat × Nat) : Src .u8 (w.alloc (.cells #[.int .u8 x] 5 F)) (some ⟨g, 0, none⟩) [x] := fun _ => by
  subst hg
  refine ⟨w.heap.size, 0, rfl, by show _ < (w.heap.push _).size; rw [Array.size_push]; omega, fun i hi => ?_⟩
  obtain rfl : i = 0 := by simpa using hi
  exact cell_of_row _ _ 0 _ _ _ (heap_alloc_new w _)
theorem lit_find {k : Int} (h : FindIs [[98]] [97] k) : k = -1 := by
  have h1 := h.lo
  have h2 := h.hi
  have h3 := h.at_
  simp only [List.length_cons, List.length_nil] at h2
  rcases Int.lt_or_le k 0 with hk | hk
  · omega
  · obtain rfl : k = 0 := by omega
    have := h3 (by omega)
    revert this
    decide
theorem lit_b98 : ∀ l ∈ ([[98]] : List (List Int)), IsBytes l := fun l hl y hy => by
  rw [List.mem_singleton.1 hl] at hy
  rw [List.mem_singleton.1 hy]
  omega
theorem lit_b97 : IsBytes [97] := fun y hy => by
  rw [List.mem_singleton.1 hy]
  omega
theorem Rows.take {w : World} {A : Option Addr} {c : Nat} {cs : List Value} {ls : List (List Int)} (h : Rows w A c cs ls) (k : Nat) : Rows w A c (cs.take k) (ls.take k) := by
  refine ⟨h.src.take k, ⟨by rw [List.length_take, List.length_take, h.rows.1], fun i hi => ?_⟩, by have := h.cap; rw [List.length_take]; omega, h.max⟩
  rw [List.length_take] at hi
  obtain ⟨v, hv, hb⟩ := h.rows.2 i (by omega)
  refine ⟨v, by rw [List.getElem?_take, if_pos (by omega)]; exact hv, ?_⟩
  rw [List.getD_eq_getElem?_getD, List.getElem?_take, if_pos (by omega), ← List.getD_eq_getElem?_getD]
  exact hb
/-- At a round's head: the keys rise up to here. -/
def UpTo (ls : List (List Int)) (i : Value) : Prop := ∃ k : Nat, 1 ≤ k ∧ (k ≤ ls.length ∨ k = 1) ∧ i = .int .i64 (k : Int) ∧ ∀ j, j + 1 < k → Lex.lexB (ls.getD j []) (ls.getD (j + 1) []) = true
set_option maxRecDepth 100000 in
set_option maxHeartbeats 4000000 in
theorem finds_s (A : Option Addr) (n c : Nat) (cs : List Value) (ls : List (List Int)) (S : Option Addr) (m d : Nat) (x : List Int) (w : World) (hn : n = ls.length) (hl : n ≤ 300) (hr : Rows w A c cs ls) (hb : ∀ l ∈ ls, IsBytes l) (hm : m = x.length) (hs : Src .u8 w S x) (hx : IsBytes x) :
    Calls Try.prog 5 #[.slice A n c, .slice S m d] w fun e w' => e = .returned (.bool true) ∧ Below w.heap.size w w' := by
  have t1 : decide ((300 : Int) < (n : Int)) = false := by simp; omega
  have hn1 : (n : Int) ≤ 300 := by omega
  have Hn := Lib.hid hn
  have Hr := Lib.hid hr
  have Hb := Lib.hid hb
  have Hm := Lib.hid hm
  have Hs := Lib.hid hs
  have Hx := Lib.hid hx
  clear hn hl hr hb hm hs hx
  go_enter Try.func5, Try.ntmps5
  go_wp2_with fail
  go_loopw [5] (fun i wr => UpTo ls i ∧ Below w.heap.size w wr) (fun i _ => 301 - (intOf i).toNat)
  case atStart => exact ⟨⟨1, Nat.le_refl _, .inr rfl, rfl, fun j hj => by omega⟩, Below.refl _ _⟩
  case round =>
    obtain ⟨⟨k, hk1, hk, rfl, hup⟩, hb⟩ := hrel
    have HU := Lib.hid hup
    clear hup
    obtain ⟨j, hj⟩ : ∃ j, Hid (k = j + 1) := ⟨k - 1, by show _ = _; omega⟩
    have HK := Lib.hid hk
    clear hk
    by_cases hlt : k < n
    · obtain ⟨b, o, v, hA, hltb, hcell, A1, c1, hv, hsrc, hc1, hc2⟩ := (Hr.out.keep hb).at_ k (by rw [← Hn.out]; exact hlt)
      obtain ⟨b', o', v', hA', hltb', hcell', A2, c2, hv', hsrc', hc1', hc2'⟩ := (Hr.out.keep hb).at_ j (by rw [← Hn.out]; have := hj.out; omega)
      subst hv hv' hA
      injection hA' with hA'
      injection hA' with e1 e2 _
      subst e1 e2
      obtain ⟨y, hy⟩ : ∃ y, Hid (y = ls.getD k []) := ⟨_, rfl⟩
      obtain ⟨z, hz⟩ : ∃ z, Hid (z = ls.getD j []) := ⟨_, rfl⟩
      rw [← hy.out] at hcell hsrc hc1
      rw [← hz.out] at hcell' hsrc' hc1'
      have Hy : Hid (IsBytes y) := by rw [hy.out]; exact getD_bytes Hb.out k
      have Hz : Hid (IsBytes z) := by rw [hz.out]; exact getD_bytes Hb.out j
      have HL := Lib.hid (Lex.less_texts z y Hz.out Hy.out)
      have k1 : ∀ g : Above wr.drew, (convert 22 9 (.slice A1 y.length c1)).run Try.prog g.1 = .ok (.string (strOfNums y)) g.1 := fun g => run_text g.1 A1 _ c1 y rfl (hsrc.keep (Ext.trans (Ext.drew wr) g.2))
      have k2 : ∀ g : Above wr.drew, (convert 22 9 (.slice A2 z.length c2)).run Try.prog g.1 = .ok (.string (strOfNums z)) g.1 := fun g => run_text g.1 A2 _ c2 z rfl (hsrc'.keep (Ext.trans (Ext.drew wr) g.2))
      have k3 : ∀ g : Above wr.drew, g.1.cell? ⟨b, o + k, none⟩ = some (.slice A1 y.length c1) := fun g => ((Ext.trans (Ext.drew wr) g.2).cell (p := ⟨b, o + k, none⟩) hltb).trans hcell
      have k4 : ∀ g : Above wr.drew, g.1.cell? ⟨b, o + j, none⟩ = some (.slice A2 z.length c2) := fun g => ((Ext.trans (Ext.drew wr) g.2).cell (p := ⟨b, o + j, none⟩) hltb).trans hcell'
      generalize strOfNums y = Y at *
      generalize strOfNums z = Z at *
      clear hcell hcell' hsrc hsrc' hc1 hc2 hc1' hc2' hltb hltb'
      have hkj : IntKind.i64.wrap ((k : Int) - 1) = (j : Int) := by rw [IntWalk.i64_in _ (by have := hj.out; omega)]; have := hj.out; omega
      have hjn : (j : Int) < (n : Int) := by have := hj.out; omega
      cases hless : Lex.lexB z y with
      | true =>
        rw [hless] at HL
        have hL := HL.out
        go_wp2_with fail
        refine wp_region_segs [] [0, 1, 2, 3, 4, 5, 6, 7, 8, 9, 10, 11] (by kernel_rfl) (by kernel_rfl) (by kernel_rfl) (by kernel_rfl) (fun _ _ d _ _ h => by cases d <;> exact h) ?_
        refine wpSegs_last (by simp [pickOps]; rfl) ?_
        repeat (go_big_quiet_step (fail))
        refine wpQuiet_nil ?_
        clear k1 k2 k3 k4
        go_wp2_with fail
        go_roundw
        case rel => exact ⟨⟨k + 1, by omega, .inl (by have := Hn.out; omega), rfl, fun i hi => by
          rcases Nat.lt_or_eq_of_le (show i + 1 ≤ k by omega) with h | h
          · exact HU.out i h
          · obtain rfl : i = j := by have := hj.out; omega
            rw [← hz.out, h, ← hy.out]; exact hless⟩, hb.drew⟩
        case measure => simp [intOf]; omega
      | false =>
        rw [hless] at HL
        have hL := HL.out
        have kc := fun (w : World) (C : Array Value) (n c : Nat) => Lib.run_convert_bytes_const (P := Try.prog) w 22 5 C n c Try.underlying22 Try.underlying5
        have kc3 := conv_const3
        go_wp2_with fail
        refine wp_region_segs [] [0, 1, 2, 3, 4, 5, 6, 7, 8, 9, 10, 11] (by kernel_rfl) (by kernel_rfl) (by kernel_rfl) (by kernel_rfl) (fun _ _ d _ _ h => by cases d <;> exact h) ?_
        refine wpSegs_last (by simp [pickOps]; rfl) ?_
        repeat (go_big_quiet_step (fail))
        refine wpQuiet_nil ?_
        clear k1 k2 k3 k4
        have hbd := hb.drew
        generalize wr.drew = w1 at *
        clear hb
        go_wp2_with fail
        refine (find_any ⟨0, [[98]], [], []⟩ (some ⟨w1.heap.size + 1, 0, none⟩) 1 [.slice (some ⟨w1.heap.size, 0, none⟩) 1 1] none 0 none 0 (some ⟨w1.heap.size + 2, 0, none⟩) 1 1 [97] _ (lit_world w1 (1, 2) _) lit_b98 rfl (lit_key _ 97 _ (by show ((w1.heap.push _).push _).size = _; rw [Array.size_push, Array.size_push]) (1, 2)) lit_b97).mono ?_
        rintro e w2 ⟨q, rfl, hq, hb2⟩
        obtain rfl := lit_find hq
        have hbe := ((hbd.alloc hbd.size (.cells #[.int .u8 98] 5 (1, 2))).alloc (hbd.alloc hbd.size (.cells #[.int .u8 98] 5 (1, 2))).size (.cells #[.slice (some ⟨w1.heap.size, 0, none⟩) 1 1] 22))
        have hbf := (hbe.alloc hbe.size (.cells #[.int .u8 97] 5 (1, 2)))
        have hbg := hbf.trans (hb2.mono hbf.size)
        clear hbe hbf hb2 hbd kc kc3 hq
        go_wp2_with fail
        go_ret
        exact ⟨rfl, hbg⟩
    · have hlen : ls.length ≤ k ∨ ls.length = 0 := by have := Hn.out; omega
      have Hrise : Hid (Rising ls) := fun i hi => HU.out i (by have := HK.out; omega)
      clear HU hlen hk1 hj HK
      go_wp2_with (refine wpList_buildNK ltP _ rfl rfl ls n rfl Hn.out ?_)
      refine (find_any ⟨0, ls, [], []⟩ A c cs none 0 none 0 S m d x _ (Hr.out.keep hb) Hb.out Hm.out (Hs.out.keep hb) Hx.out).mono ?_
      rintro e w2 ⟨q, rfl, hq, hb2⟩
      have b2 := hb.trans (hb2.mono hb.size)
      clear hb hb2 hlt
      have q1 := hq.lo
      have q2 : q < (n : Int) := by have h : q < (ls.length : Int) := hq.hi; have e := Hn.out; omega
      have Hq := Lib.hid hq
      clear hq
      have HT := Lib.hid (fun (g : Above w2.drew) => run_text g.1 S m d x Hm.out ((Hs.out.keep b2).keep (Ext.trans (Ext.drew w2) g.2)))
      obtain ⟨X, hX⟩ : ∃ X, Hid (X = strOfNums x) := ⟨_, rfl⟩
      have kx : ∀ g : Above w2.drew, (convert 22 9 (.slice S m d)).run Try.prog g.1 = .ok (.string X) g.1 := fun g => by rw [hX.out]; exact HT.out g
      clear HT
      have NEXT : q + 1 < (n : Int) → ∃ (k2 : Nat) (b o : Nat) (A1 : Option Addr) (l1 c1 : Nat) (Y : ByteArray), Hid (A = some ⟨b, o, none⟩) ∧ Hid ((k2 : Int) = q + 1) ∧ (∀ g : Above w2.drew, g.1.cell? ⟨b, o + k2, none⟩ = some (.slice A1 l1 c1)) ∧ (∀ g : Above w2.drew, (convert 22 9 (.slice A1 l1 c1)).run Try.prog g.1 = .ok (.string Y) g.1) ∧ Op.bytesLess Y.toList X.toList = false ∧ (Y.toList == X.toList) = false := fun h => by
        obtain ⟨k2, hk2⟩ := Int.eq_ofNat_of_zero_le (a := q + 1) (by omega)
        have hx := Hq.out.next (by rw [← Hn.out]; exact h)
        rw [hk2, Int.toNat_natCast] at hx
        obtain ⟨b, o, v, hA, hltb, hcell, A1, c1, rfl, hsrc, _, _⟩ := (Hr.out.keep b2).at_ k2 (by have := Hn.out; omega)
        have hyb := getD_bytes Hb.out k2
        refine ⟨k2, b, o, A1, _, c1, _, hA, hk2.symm, fun g => ((Ext.trans (Ext.drew w2) g.2).cell (p := ⟨b, o + k2, none⟩) hltb).trans hcell, fun g => run_text g.1 A1 _ c1 _ rfl (hsrc.keep (Ext.trans (Ext.drew w2) g.2)), ?_, ?_⟩
        · rw [hX.out, Lex.less_texts _ _ hyb Hx.out]; exact Lex.lex_asymm hx
        · rw [hX.out, Lex.eq_texts _ _ hyb Hx.out, decide_eq_false_iff_not]
          intro e
          rw [e, Lex.lex_irrefl] at hx
          cases hx
      have HERE : 0 ≤ q → ∃ (k1 : Nat) (b o : Nat) (A1 : Option Addr) (l1 c1 : Nat) (Y : ByteArray) (r1 r2 : Bool), Hid (A = some ⟨b, o, none⟩) ∧ Hid (q = (k1 : Int)) ∧ (∀ g : Above w2.drew, g.1.cell? ⟨b, o + k1, none⟩ = some (.slice A1 l1 c1)) ∧ (∀ g : Above w2.drew, (convert 22 9 (.slice A1 l1 c1)).run Try.prog g.1 = .ok (.string Y) g.1) ∧ Op.bytesLess Y.toList X.toList = r1 ∧ (Y.toList == X.toList) = r2 ∧ (r1 || r2) = true := fun h => by
        obtain ⟨k1, hk1⟩ := Int.eq_ofNat_of_zero_le (a := q) h
        have hx := Hq.out.at_ h
        rw [hk1, Int.toNat_natCast] at hx
        obtain ⟨b, o, v, hA, hltb, hcell, A1, c1, rfl, hsrc, _, _⟩ := (Hr.out.keep b2).at_ k1 (by have := Hn.out; omega)
        have hyb := getD_bytes Hb.out k1
        refine ⟨k1, b, o, A1, _, c1, _, _, _, hA, hk1, fun g => ((Ext.trans (Ext.drew w2) g.2).cell (p := ⟨b, o + k1, none⟩) hltb).trans hcell, fun g => run_text g.1 A1 _ c1 _ rfl (hsrc.keep (Ext.trans (Ext.drew w2) g.2)), rfl, rfl, ?_⟩
        rw [hX.out, Lex.less_texts _ _ hyb Hx.out, Lex.eq_texts _ _ hyb Hx.out, Bool.or_eq_true, decide_eq_true_eq]
        cases e : Lex.lexB (ls.getD k1 []) x with
        | true => exact .inl rfl
        | false => exact .inr (Lex.lex_total e hx)
      clear hX
      by_cases h0 : 0 ≤ q
      · obtain ⟨k1, b, o, A1, l1, c1, Y, r1, r2, hA, hk1, f1, f2, f3, f4, f5⟩ := HERE h0
        clear HERE
        by_cases h1 : q + 1 < (n : Int)
        · obtain ⟨k2, b', o', A2, l2, c2, Z, hA', hk2, g1, g2, g3, g4⟩ := NEXT h1
          clear NEXT
          obtain rfl := hA.out
          injection hA'.out with hA2
          injection hA2 with e1 e2 _
          subst e1 e2
          clear hA hA' Hq
          have hk : Hid (k2 = k1 + 1) := by have := hk1.out; have := hk2.out; show k2 = k1 + 1; omega
          have w1 : IntKind.i64.wrap ((k1 : Int) + 1) = (k2 : Int) := by have := hk.out; rw [IntWalk.i64_in _ (by have := hk1.out; omega)]; omega
          have w2' : (k1 : Int) + 1 = (k2 : Int) := by have := hk.out; omega
          have n1 : (k1 : Int) < (n : Int) := by have := hk1.out; omega
          have n2 : (k2 : Int) < (n : Int) := by have := hk2.out; omega
          have n3 : decide (n ≤ k2) = false := by simp; omega
          have n4 : decide ((n : Int) ≤ (k2 : Int)) = false := by simp; omega
          obtain rfl := hk1.out
          clear hk1 hk2 h1 q2 h0 q1
          have t0 : decide ((k1 : Int) < 0) = false := by simp
          go_wp2_with fail
          refine wp_region_segs [] [0, 1, 2, 3, 4, 5, 6, 7, 8, 9, 10, 11, 12, 13, 14, 15, 16, 17, 18, 19, 20, 21, 22, 23, 24, 25, 26, 27, 28, 29, 30] (by kernel_rfl) (by kernel_rfl) (by kernel_rfl) (by kernel_rfl) (fun _ _ d _ _ h => by cases d <;> exact h) ?_
          refine wpSegs_last (by simp [pickOps]; rfl) ?_
          repeat (go_big_quiet_step (fail))
          refine wpQuiet_nil ?_
          go_wp2_with fail
          go_ret
          exact ⟨rfl, b2.drew⟩
        · clear NEXT
          obtain rfl := hA.out
          clear hA Hq
          have n1 : (k1 : Int) < (n : Int) := by have := hk1.out; omega
          have w1 : IntKind.i64.wrap ((k1 : Int) + 1) = (n : Int) := by rw [IntWalk.i64_in _ (by have := hk1.out; omega)]; have := hk1.out; omega
          have t0 : decide ((k1 : Int) < 0) = false := by simp
          obtain rfl := hk1.out
          clear hk1 h1 q2 h0 q1
          go_wp2_with fail
          refine wp_region_segs [] [0, 1, 2, 3, 4, 5, 6, 7, 8, 9, 10, 11, 12, 13, 14, 15, 16, 17, 18, 19, 20, 21, 22, 23, 24, 25, 26, 27, 28, 29, 30] (by kernel_rfl) (by kernel_rfl) (by kernel_rfl) (by kernel_rfl) (fun _ _ d _ _ h => by cases d <;> exact h) ?_
          refine wpSegs_last (by simp [pickOps]; rfl) ?_
          repeat (go_big_quiet_step (fail))
          refine wpQuiet_nil ?_
          go_wp2_with fail
          go_ret
          exact ⟨rfl, b2.drew⟩
      · obtain rfl : q = -1 := by omega
        clear HERE h0 q1 q2 Hq
        by_cases h1 : (-1 : Int) + 1 < (n : Int)
        · obtain ⟨k2, b', o', A2, l2, c2, Z, hA', hk2, g1, g2, g3, g4⟩ := NEXT h1
          clear NEXT
          obtain rfl := hA'.out
          obtain rfl : k2 = 0 := by have := hk2.out; omega
          simp only [Nat.add_zero] at g1
          have n2 : (0 : Int) < (n : Int) := by omega
          have n3 : decide (n = 0) = false := by first | (simp; done) | (simp; omega)
          have n4 : decide (n ≤ 0) = false := by first | (simp; done) | (simp; omega)
          have n5 : (n == 0) = false := by first | (simp; done) | (simp; omega)
          clear hk2 h1 hA'
          go_wp2_with fail
          refine wp_region_segs [] [0, 1, 2, 3, 4, 5, 6, 7, 8, 9, 10, 11, 12, 13, 14, 15, 16, 17, 18, 19, 20, 21, 22, 23, 24, 25, 26, 27, 28, 29, 30] (by kernel_rfl) (by kernel_rfl) (by kernel_rfl) (by kernel_rfl) (fun _ _ d _ _ h => by cases d <;> exact h) ?_
          refine wpSegs_last (by simp [pickOps]; rfl) ?_
          repeat (go_big_quiet_step (fail))
          refine wpQuiet_nil ?_
          go_wp2_with fail
          go_ret
          exact ⟨rfl, b2.drew⟩
        · clear NEXT
          obtain rfl : n = 0 := by omega
          clear h1
          go_wp2_with fail
          refine wp_region_segs [] [0, 1, 2, 3, 4, 5, 6, 7, 8, 9, 10, 11, 12, 13, 14, 15, 16, 17, 18, 19, 20, 21, 22, 23, 24, 25, 26, 27, 28, 29, 30] (by kernel_rfl) (by kernel_rfl) (by kernel_rfl) (by kernel_rfl) (fun _ _ d _ _ h => by cases d <;> exact h) ?_
          refine wpSegs_last (by simp [pickOps]; rfl) ?_
          repeat (go_big_quiet_step (fail))
          refine wpQuiet_nil ?_
          go_wp2_with fail
          go_ret
          exact ⟨rfl, b2.drew⟩
set_option maxRecDepth 100000 in
set_option maxHeartbeats 4000000 in
theorem finds_b (A : Option Addr) (n c : Nat) (cs : List Value) (ls : List (List Int)) (S : Option Addr) (m d : Nat) (x : List Int) (w : World) (hn : 300 = ls.length) (hl : 300 < n) (hlc : n ≤ c) (hc : c ≤ 9223372036854775807) (hr : Rows w A c cs ls) (hb : ∀ l ∈ ls, IsBytes l) (hm : m = x.length) (hs : Src .u8 w S x) (hx : IsBytes x) :
    Calls Try.prog 5 #[.slice A n c, .slice S m d] w fun e w' => e = .returned (.bool true) ∧ Below w.heap.size w w' := by
  have t1 : decide ((300 : Int) < (n : Int)) = true := by simp; omega
  have t1' : (300 : Int) ≤ (c : Int) := by omega
  have t1'' : (c : Int) ≤ 9223372036854775807 := by omega
  have Hn := Lib.hid hn
  have Hr := Lib.hid hr
  have Hb := Lib.hid hb
  have Hm := Lib.hid hm
  have Hs := Lib.hid hs
  have Hx := Lib.hid hx
  clear hn hl hlc hc hr hb hm hs hx
  go_enter Try.func5, Try.ntmps5
  go_wp2_with fail
  go_loopw [5] (fun i wr => UpTo ls i ∧ Below w.heap.size w wr) (fun i _ => 301 - (intOf i).toNat)
  case atStart => exact ⟨⟨1, Nat.le_refl _, .inr rfl, rfl, fun j hj => by omega⟩, Below.refl _ _⟩
  case round =>
    obtain ⟨⟨k, hk1, hk, rfl, hup⟩, hb⟩ := hrel
    have HU := Lib.hid hup
    clear hup
    obtain ⟨j, hj⟩ : ∃ j, Hid (k = j + 1) := ⟨k - 1, by show _ = _; omega⟩
    have HK := Lib.hid hk
    clear hk
    by_cases hlt : k < 300
    · obtain ⟨b, o, v, hA, hltb, hcell, A1, c1, hv, hsrc, hc1, hc2⟩ := (Hr.out.keep hb).at_ k (by rw [← Hn.out]; exact hlt)
      obtain ⟨b', o', v', hA', hltb', hcell', A2, c2, hv', hsrc', hc1', hc2'⟩ := (Hr.out.keep hb).at_ j (by rw [← Hn.out]; have := hj.out; omega)
      subst hv hv' hA
      injection hA' with hA'
      injection hA' with e1 e2 _
      subst e1 e2
      obtain ⟨y, hy⟩ : ∃ y, Hid (y = ls.getD k []) := ⟨_, rfl⟩
      obtain ⟨z, hz⟩ : ∃ z, Hid (z = ls.getD j []) := ⟨_, rfl⟩
      rw [← hy.out] at hcell hsrc hc1
      rw [← hz.out] at hcell' hsrc' hc1'
      have Hy : Hid (IsBytes y) := by rw [hy.out]; exact getD_bytes Hb.out k
      have Hz : Hid (IsBytes z) := by rw [hz.out]; exact getD_bytes Hb.out j
      have HL := Lib.hid (Lex.less_texts z y Hz.out Hy.out)
      have k1 : ∀ g : Above wr.drew, (convert 22 9 (.slice A1 y.length c1)).run Try.prog g.1 = .ok (.string (strOfNums y)) g.1 := fun g => run_text g.1 A1 _ c1 y rfl (hsrc.keep (Ext.trans (Ext.drew wr) g.2))
      have k2 : ∀ g : Above wr.drew, (convert 22 9 (.slice A2 z.length c2)).run Try.prog g.1 = .ok (.string (strOfNums z)) g.1 := fun g => run_text g.1 A2 _ c2 z rfl (hsrc'.keep (Ext.trans (Ext.drew wr) g.2))
      have k3 : ∀ g : Above wr.drew, g.1.cell? ⟨b, o + k, none⟩ = some (.slice A1 y.length c1) := fun g => ((Ext.trans (Ext.drew wr) g.2).cell (p := ⟨b, o + k, none⟩) hltb).trans hcell
      have k4 : ∀ g : Above wr.drew, g.1.cell? ⟨b, o + j, none⟩ = some (.slice A2 z.length c2) := fun g => ((Ext.trans (Ext.drew wr) g.2).cell (p := ⟨b, o + j, none⟩) hltb).trans hcell'
      generalize strOfNums y = Y at *
      generalize strOfNums z = Z at *
      clear hcell hcell' hsrc hsrc' hc1 hc2 hc1' hc2' hltb hltb'
      have hkj : IntKind.i64.wrap ((k : Int) - 1) = (j : Int) := by rw [IntWalk.i64_in _ (by have := hj.out; omega)]; have := hj.out; omega
      have hjn : (j : Int) < (300 : Int) := by have := hj.out; omega
      cases hless : Lex.lexB z y with
      | true =>
        rw [hless] at HL
        have hL := HL.out
        go_wp2_with fail
        refine wp_region_segs [] [0, 1, 2, 3, 4, 5, 6, 7, 8, 9, 10, 11] (by kernel_rfl) (by kernel_rfl) (by kernel_rfl) (by kernel_rfl) (fun _ _ d _ _ h => by cases d <;> exact h) ?_
        refine wpSegs_last (by simp [pickOps]; rfl) ?_
        repeat (go_big_quiet_step (fail))
        refine wpQuiet_nil ?_
        clear k1 k2 k3 k4
        go_wp2_with fail
        go_roundw
        case rel => exact ⟨⟨k + 1, by omega, .inl (by have := Hn.out; omega), rfl, fun i hi => by
          rcases Nat.lt_or_eq_of_le (show i + 1 ≤ k by omega) with h | h
          · exact HU.out i h
          · obtain rfl : i = j := by have := hj.out; omega
            rw [← hz.out, h, ← hy.out]; exact hless⟩, hb.drew⟩
        case measure => simp [intOf]; omega
      | false =>
        rw [hless] at HL
        have hL := HL.out
        have kc := fun (w : World) (C : Array Value) (n c : Nat) => Lib.run_convert_bytes_const (P := Try.prog) w 22 5 C n c Try.underlying22 Try.underlying5
        have kc3 := conv_const3
        go_wp2_with fail
        refine wp_region_segs [] [0, 1, 2, 3, 4, 5, 6, 7, 8, 9, 10, 11] (by kernel_rfl) (by kernel_rfl) (by kernel_rfl) (by kernel_rfl) (fun _ _ d _ _ h => by cases d <;> exact h) ?_
        refine wpSegs_last (by simp [pickOps]; rfl) ?_
        repeat (go_big_quiet_step (fail))
        refine wpQuiet_nil ?_
        clear k1 k2 k3 k4
        have hbd := hb.drew
        generalize wr.drew = w1 at *
        clear hb
        go_wp2_with fail
        refine (find_any ⟨0, [[98]], [], []⟩ (some ⟨w1.heap.size + 1, 0, none⟩) 1 [.slice (some ⟨w1.heap.size, 0, none⟩) 1 1] none 0 none 0 (some ⟨w1.heap.size + 2, 0, none⟩) 1 1 [97] _ (lit_world w1 (1, 2) _) lit_b98 rfl (lit_key _ 97 _ (by show ((w1.heap.push _).push _).size = _; rw [Array.size_push, Array.size_push]) (1, 2)) lit_b97).mono ?_
        rintro e w2 ⟨q, rfl, hq, hb2⟩
        obtain rfl := lit_find hq
        have hbe := ((hbd.alloc hbd.size (.cells #[.int .u8 98] 5 (1, 2))).alloc (hbd.alloc hbd.size (.cells #[.int .u8 98] 5 (1, 2))).size (.cells #[.slice (some ⟨w1.heap.size, 0, none⟩) 1 1] 22))
        have hbf := (hbe.alloc hbe.size (.cells #[.int .u8 97] 5 (1, 2)))
        have hbg := hbf.trans (hb2.mono hbf.size)
        clear hbe hbf hb2 hbd kc kc3 hq
        go_wp2_with fail
        go_ret
        exact ⟨rfl, hbg⟩
    · have hlen : ls.length ≤ k ∨ ls.length = 0 := by have := Hn.out; omega
      have Hrise : Hid (Rising ls) := fun i hi => HU.out i (by have := HK.out; omega)
      clear HU hlen hk1 hj HK
      go_wp2_with (refine wpList_buildNK ltP _ rfl rfl ls 300 rfl Hn.out ?_)
      refine (find_any ⟨0, ls, [], []⟩ A c cs none 0 none 0 S m d x _ (Hr.out.keep hb) Hb.out Hm.out (Hs.out.keep hb) Hx.out).mono ?_
      rintro e w2 ⟨q, rfl, hq, hb2⟩
      have b2 := hb.trans (hb2.mono hb.size)
      clear hb hb2 hlt
      have q1 := hq.lo
      have q2 : q < (300 : Int) := by have h : q < (ls.length : Int) := hq.hi; have e := Hn.out; omega
      have Hq := Lib.hid hq
      clear hq
      have HT := Lib.hid (fun (g : Above w2.drew) => run_text g.1 S m d x Hm.out ((Hs.out.keep b2).keep (Ext.trans (Ext.drew w2) g.2)))
      obtain ⟨X, hX⟩ : ∃ X, Hid (X = strOfNums x) := ⟨_, rfl⟩
      have kx : ∀ g : Above w2.drew, (convert 22 9 (.slice S m d)).run Try.prog g.1 = .ok (.string X) g.1 := fun g => by rw [hX.out]; exact HT.out g
      clear HT
      have NEXT : q + 1 < (300 : Int) → ∃ (k2 : Nat) (b o : Nat) (A1 : Option Addr) (l1 c1 : Nat) (Y : ByteArray), Hid (A = some ⟨b, o, none⟩) ∧ Hid ((k2 : Int) = q + 1) ∧ (∀ g : Above w2.drew, g.1.cell? ⟨b, o + k2, none⟩ = some (.slice A1 l1 c1)) ∧ (∀ g : Above w2.drew, (convert 22 9 (.slice A1 l1 c1)).run Try.prog g.1 = .ok (.string Y) g.1) ∧ Op.bytesLess Y.toList X.toList = false ∧ (Y.toList == X.toList) = false := fun h => by
        obtain ⟨k2, hk2⟩ := Int.eq_ofNat_of_zero_le (a := q + 1) (by omega)
        have hx := Hq.out.next (by rw [← Hn.out]; exact h)
        rw [hk2, Int.toNat_natCast] at hx
        obtain ⟨b, o, v, hA, hltb, hcell, A1, c1, rfl, hsrc, _, _⟩ := (Hr.out.keep b2).at_ k2 (by have := Hn.out; omega)
        have hyb := getD_bytes Hb.out k2
        refine ⟨k2, b, o, A1, _, c1, _, hA, hk2.symm, fun g => ((Ext.trans (Ext.drew w2) g.2).cell (p := ⟨b, o + k2, none⟩) hltb).trans hcell, fun g => run_text g.1 A1 _ c1 _ rfl (hsrc.keep (Ext.trans (Ext.drew w2) g.2)), ?_, ?_⟩
        · rw [hX.out, Lex.less_texts _ _ hyb Hx.out]; exact Lex.lex_asymm hx
        · rw [hX.out, Lex.eq_texts _ _ hyb Hx.out, decide_eq_false_iff_not]
          intro e
          rw [e, Lex.lex_irrefl] at hx
          cases hx
      have HERE : 0 ≤ q → ∃ (k1 : Nat) (b o : Nat) (A1 : Option Addr) (l1 c1 : Nat) (Y : ByteArray) (r1 r2 : Bool), Hid (A = some ⟨b, o, none⟩) ∧ Hid (q = (k1 : Int)) ∧ (∀ g : Above w2.drew, g.1.cell? ⟨b, o + k1, none⟩ = some (.slice A1 l1 c1)) ∧ (∀ g : Above w2.drew, (convert 22 9 (.slice A1 l1 c1)).run Try.prog g.1 = .ok (.string Y) g.1) ∧ Op.bytesLess Y.toList X.toList = r1 ∧ (Y.toList == X.toList) = r2 ∧ (r1 || r2) = true := fun h => by
        obtain ⟨k1, hk1⟩ := Int.eq_ofNat_of_zero_le (a := q) h
        have hx := Hq.out.at_ h
        rw [hk1, Int.toNat_natCast] at hx
        obtain ⟨b, o, v, hA, hltb, hcell, A1, c1, rfl, hsrc, _, _⟩ := (Hr.out.keep b2).at_ k1 (by have := Hn.out; omega)
        have hyb := getD_bytes Hb.out k1
        refine ⟨k1, b, o, A1, _, c1, _, _, _, hA, hk1, fun g => ((Ext.trans (Ext.drew w2) g.2).cell (p := ⟨b, o + k1, none⟩) hltb).trans hcell, fun g => run_text g.1 A1 _ c1 _ rfl (hsrc.keep (Ext.trans (Ext.drew w2) g.2)), rfl, rfl, ?_⟩
        rw [hX.out, Lex.less_texts _ _ hyb Hx.out, Lex.eq_texts _ _ hyb Hx.out, Bool.or_eq_true, decide_eq_true_eq]
        cases e : Lex.lexB (ls.getD k1 []) x with
        | true => exact .inl rfl
        | false => exact .inr (Lex.lex_total e hx)
      clear hX
      by_cases h0 : 0 ≤ q
      · obtain ⟨k1, b, o, A1, l1, c1, Y, r1, r2, hA, hk1, f1, f2, f3, f4, f5⟩ := HERE h0
        clear HERE
        by_cases h1 : q + 1 < (300 : Int)
        · obtain ⟨k2, b', o', A2, l2, c2, Z, hA', hk2, g1, g2, g3, g4⟩ := NEXT h1
          clear NEXT
          obtain rfl := hA.out
          injection hA'.out with hA2
          injection hA2 with e1 e2 _
          subst e1 e2
          clear hA hA' Hq
          have hk : Hid (k2 = k1 + 1) := by have := hk1.out; have := hk2.out; show k2 = k1 + 1; omega
          have w1 : IntKind.i64.wrap ((k1 : Int) + 1) = (k2 : Int) := by have := hk.out; rw [IntWalk.i64_in _ (by have := hk1.out; omega)]; omega
          have w2' : (k1 : Int) + 1 = (k2 : Int) := by have := hk.out; omega
          have n1 : (k1 : Int) < (300 : Int) := by have := hk1.out; omega
          have n2 : (k2 : Int) < (300 : Int) := by have := hk2.out; omega
          have n3 : decide (300 ≤ k2) = false := by simp; omega
          have n4 : decide ((300 : Int) ≤ (k2 : Int)) = false := by simp; omega
          obtain rfl := hk1.out
          clear hk1 hk2 h1 q2 h0 q1
          have t0 : decide ((k1 : Int) < 0) = false := by simp
          go_wp2_with fail
          refine wp_region_segs [] [0, 1, 2, 3, 4, 5, 6, 7, 8, 9, 10, 11, 12, 13, 14, 15, 16, 17, 18, 19, 20, 21, 22, 23, 24, 25, 26, 27, 28, 29, 30] (by kernel_rfl) (by kernel_rfl) (by kernel_rfl) (by kernel_rfl) (fun _ _ d _ _ h => by cases d <;> exact h) ?_
          refine wpSegs_last (by simp [pickOps]; rfl) ?_
          repeat (go_big_quiet_step (fail))
          refine wpQuiet_nil ?_
          go_wp2_with fail
          go_ret
          exact ⟨rfl, b2.drew⟩
        · clear NEXT
          obtain rfl := hA.out
          clear hA Hq
          have n1 : (k1 : Int) < (300 : Int) := by have := hk1.out; omega
          have w1 : IntKind.i64.wrap ((k1 : Int) + 1) = (300 : Int) := by rw [IntWalk.i64_in _ (by have := hk1.out; omega)]; have := hk1.out; omega
          have t0 : decide ((k1 : Int) < 0) = false := by simp
          obtain rfl := hk1.out
          clear hk1 h1 q2 h0 q1
          go_wp2_with fail
          refine wp_region_segs [] [0, 1, 2, 3, 4, 5, 6, 7, 8, 9, 10, 11, 12, 13, 14, 15, 16, 17, 18, 19, 20, 21, 22, 23, 24, 25, 26, 27, 28, 29, 30] (by kernel_rfl) (by kernel_rfl) (by kernel_rfl) (by kernel_rfl) (fun _ _ d _ _ h => by cases d <;> exact h) ?_
          refine wpSegs_last (by simp [pickOps]; rfl) ?_
          repeat (go_big_quiet_step (fail))
          refine wpQuiet_nil ?_
          go_wp2_with fail
          go_ret
          exact ⟨rfl, b2.drew⟩
      · obtain rfl : q = -1 := by omega
        clear HERE h0 q1 q2 Hq
        by_cases h1 : (-1 : Int) + 1 < (300 : Int)
        · obtain ⟨k2, b', o', A2, l2, c2, Z, hA', hk2, g1, g2, g3, g4⟩ := NEXT h1
          clear NEXT
          obtain rfl := hA'.out
          obtain rfl : k2 = 0 := by have := hk2.out; omega
          simp only [Nat.add_zero] at g1
          have n2 : (0 : Int) < (300 : Int) := by omega
          have n3 : decide (300 = 0) = false := by first | (simp; done) | (simp; omega)
          have n4 : decide (300 ≤ 0) = false := by first | (simp; done) | (simp; omega)
          have n5 : (300 == 0) = false := by first | (simp; done) | (simp; omega)
          clear hk2 h1 hA'
          go_wp2_with fail
          refine wp_region_segs [] [0, 1, 2, 3, 4, 5, 6, 7, 8, 9, 10, 11, 12, 13, 14, 15, 16, 17, 18, 19, 20, 21, 22, 23, 24, 25, 26, 27, 28, 29, 30] (by kernel_rfl) (by kernel_rfl) (by kernel_rfl) (by kernel_rfl) (fun _ _ d _ _ h => by cases d <;> exact h) ?_
          refine wpSegs_last (by simp [pickOps]; rfl) ?_
          repeat (go_big_quiet_step (fail))
          refine wpQuiet_nil ?_
          go_wp2_with fail
          go_ret
          exact ⟨rfl, b2.drew⟩
        · clear NEXT
          exact absurd h1 (by omega)
end Lf
end Go.Proofs.Ytnoofmdhhlcbkaa

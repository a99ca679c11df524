/- PartCuts: its walk, for any sizes, any bound and any ends. No conditions but those that stand in each lemma. -/
import Derived.Test.YtejcpfplmlpilaaPartRefCut
import Derived.Test.YtejcpfplmlpilaaPartOnes
namespace Go.Proofs.Ytejcpfplmlpilaa
open Go.RowKit
namespace Part

/-- At a round's head. -/
def IntsAt (w : World) (l : List Int) (iv : Value) (wr : World) : Prop := ∃ k : Nat, k ≤ l.length ∧ iv = .int .i64 (k : Int) ∧ Below w.heap.size w wr
set_option maxHeartbeats 2000000 in
theorem ints_same (A : Option Addr) (n c : Nat) (A2 : Option Addr) (n2 c2 : Nat) (l : List Int) (w : World) (hn : n = l.length) (hs : NumSrc w A l) (hn2 : n2 = l.length) (hs2 : NumSrc w A2 l) (hl : n ≤ 70000) :
    Calls Try.prog 7 #[.slice A n c, .slice A2 n2 c2] w fun e w' => e = .returned (.bool true) ∧ Below w.heap.size w w' := by
  obtain rfl : n2 = n := by omega
  have Hn := Lib.hid hn
  have Hs := Lib.hid hs
  have Hs2 := Lib.hid hs2
  clear hn hs hn2 hs2
  go_enter Try.func7, Try.ntmps7
  go_wp2_with fail
  go_loopw [5] (fun iv wr => IntsAt w l iv wr) (fun i _ => n2 - (intOf i).toNat)
  case atStart => exact ⟨0, Nat.zero_le _, rfl, Below.refl _ _⟩
  case round =>
    obtain ⟨k, hk, rfl, hb⟩ := hrel
    by_cases hlt : k < l.length
    · obtain ⟨b0, o, rfl, hbl, hcell⟩ := Hs.out (by omega)
      obtain ⟨b2, o2, rfl, hbl2, hcell2⟩ := Hs2.out (by omega)
      have c0 := (hb.cell (p := ⟨b0, o + k, none⟩) hbl).trans (hcell k hlt)
      have c1 := (hb.cell (p := ⟨b2, o2 + k, none⟩) hbl2).trans (hcell2 k hlt)
      have hkn : k < n2 := by have := Hn.out; omega
      have hki : (k : Int) < (n2 : Int) := by omega
      generalize l.getD k 0 = x at *
      clear hcell hcell2
      go_wp2_with fail
      go_quiet (fail)
      have hbd := below_drewN hb nq
      generalize wr.drewN nq = wd at *
      clear c0 c1 hb
      go_wp2_with fail
      go_roundw
      case rel => exact ⟨k + 1, by omega, by go_num, hbd⟩
      case measure => simp [intOf]; omega
    · obtain rfl : k = n2 := by have := Hn.out; omega
      go_wp2_with fail
      go_ret
      exact ⟨rfl, hb⟩

/-- The document's example. -/
theorem cut_3333 {r : List Int} (h : CutIs [3, 3, 3, 3] 8 r) : r = [2, 4] := by
  rcases h with ⟨h, _⟩ | ⟨_, b, hb, rfl⟩
  · exact absurd ⟨by decide, by decide, by decide, by decide, fun i => getD_all (P := fun x => 0 ≤ x ∧ x ≤ 8) (by decide) _ (by decide) i⟩ h
  · have h6 := hb.least 6 (fun i => getD_all (P := fun x => x ≤ 6) (by decide) _ (by decide) i) (by decide)
    have h3 := hb.each 0
    have h3' : (3 : Int) ≤ b := h3
    have hf := hb.few
    have hb6 : b = 3 ∨ b = 4 ∨ b = 5 ∨ b = 6 := by omega
    rcases hb6 with rfl | rfl | rfl | rfl
    · exact absurd hf (by decide)
    · exact absurd hf (by decide)
    · exact absurd hf (by decide)
    · rfl
set_option maxRecDepth 100000 in
set_option maxHeartbeats 8000000 in
theorem cuts_law (A : Option Addr) (n c : Nat) (l : List Int) (most : Int) (A2 : Option Addr) (n2 c2 : Nat) (es : List Int) (w : World) (hn : n = l.length) (hs : NumSrc w A l) (hnc : n ≤ c) (hc : c ≤ maxLen) (hn2 : n2 = es.length) (hs2 : NumSrc w A2 es) (hnc2 : n2 ≤ c2) (hc2 : c2 ≤ maxLen)
    (hm : (Lit.int .i64 most).wf = true) :
    Calls Try.prog 3 #[.slice A n c, .int .i64 most, .slice A2 n2 c2] w fun e w' => e = .returned (.bool true) ∧ Below w.heap.size w w' := by
  have Hn := Lib.hid hn
  have Hs := Lib.hid hs
  have Hn2 := Lib.hid hn2
  have Hs2 := Lib.hid hs2
  have hmb := bounds_i64 hm
  unfold maxLen at hc hc2
  have hl1 : n ≤ 9223372036854775807 := by omega
  have hl2 : n2 ≤ 9223372036854775807 := by omega
  clear hn hs hn2 hs2 hm
  have HONE := Lib.hid (fun w1 (h1 : w.heap.size ≤ w1.heap.size) => cut_any (some ⟨w1.heap.size, 0, none⟩) 1 1 [1] 1 _ rfl (row_nums (Row.new w1 3 #[.int .i64 1]) rfl) (by omega))
  by_cases h1 : n > 200 ∨ n2 > 200
  · rcases Nat.lt_or_ge 200 n with h2 | h2
    rotate_left
    have h3 : 200 < n2 := by omega
    clear h1
    all_goals
      go_enter Try.func3, Try.ntmps3
      go_wp2_with fail
      refine (HONE.out w (Nat.le_refl _)).mono ?_
      rintro e w1 ⟨r, hr, A1, n1, c1, rfl, ho, hb⟩
      have hn1 : n1 = 1 := by rw [ho.1, cut_one hr]
      subst hn1
      have HB := Lib.hid (((Below.refl w.heap.size w).alloc (Nat.le_refl _) (.cells #[.int .i64 1] 3)).trans (hb.mono (by simp)))
      clear ho hb
      go_wp2_with fail
      go_ret
      exact ⟨rfl, HB.out⟩
  have h2 : n ≤ 200 := by omega
  have h3 : n2 ≤ 200 := by omega
  clear h1 HONE
  have h2i : (n : Int) ≤ 200 := by omega
  have h3i : (n2 : Int) ≤ 200 := by omega
  by_cases h4 : most > 3000
  · go_enter Try.func3, Try.ntmps3
    go_wp2_with fail
    generalize 1 + most % 3000 = mo at *
    have HB0 := Lib.hid (Below.refl w.heap.size w)
    refine (cut_any A n c l mo w Hn.out Hs.out hl1).mono ?_
    rintro e w1 ⟨r1, hr1, B1, m1, d1, rfl, ho1, hb1⟩
    have HO1 := Lib.hid ho1
    have HR1 := Lib.hid hr1
    clear ho1 hr1
    have hb1s := hb1.size
    go_wp2_with fail
    refine (rcut_any A n c l mo w1 Hn.out (Hs.out.keepB hb1) hl1).mono ?_
    rintro e w2 ⟨r2, hr2, B2, m2, d2, rfl, ho2, hb2⟩
    obtain rfl := HR1.out.one hr2
    have HO2 := Lib.hid ho2
    have HB2 := Lib.hid (hb1.trans (hb2.mono hb1s))
    have HQ1 := Lib.hid (HO1.out.src.keepB hb2)
    clear ho2 hr2 hb1 hb2
    go_wp2_with fail
    refine (ints_same B1 m1 d1 B2 m2 d2 r1 w2 HO1.out.1 HQ1.out HO2.out.1 HO2.out.src (by rw [HO1.out.1]; have := HR1.out.short; omega)).mono ?_
    rintro e w3 ⟨rfl, hb3⟩
    have HB3 := Lib.hid (HB2.out.trans (hb3.mono HB2.out.size))
    clear hb3 HB2 HO1 HO2 HQ1 HR1
    go_wp2_with fail
    refine (great_any A n c l A2 n2 c2 es w3 Hn.out (Hs.out.keepB HB3.out) (by omega) hnc Hn2.out (Hs2.out.keepB HB3.out) hl2).mono ?_
    rintro e w4 ⟨t, ht, rfl, hb4⟩
    have HT := Lib.hid ht
    have HB4 := Lib.hid (HB3.out.trans (hb4.mono HB3.out.size))
    clear ht hb4 HB3
    go_wp2_with fail
    refine (rgreat_any A n c l A2 n2 c2 es w4 Hn.out (Hs.out.keepB HB4.out) (by omega) Hn2.out (Hs2.out.keepB HB4.out) hl2).mono ?_
    rintro e w5 ⟨t2, ht2, rfl, hb5⟩
    obtain rfl := HT.out.one ht2
    have HB5 := Lib.hid (HB4.out.trans (hb5.mono HB4.out.size))
    have HB5x := Lib.hid (HB5.out.alloc HB5.out.size (.cells #[.int .i64 3, .int .i64 3, .int .i64 3, .int .i64 3] 3))
    clear ht2 hb5 HB4 HT
    go_wp2_with fail
    refine (cut_any (some ⟨w5.heap.size, 0, none⟩) 4 4 [3, 3, 3, 3] 8 _ rfl (row_nums (Row.new w5 3 #[.int .i64 3, .int .i64 3, .int .i64 3, .int .i64 3]) rfl) (by omega)).mono ?_
    generalize w5.alloc (.cells #[.int .i64 3, .int .i64 3, .int .i64 3, .int .i64 3] 3) = w6 at *
    rintro e w7 ⟨r3, hr3, B3, m3, d3, rfl, ho3, hb7⟩
    obtain rfl := cut_3333 hr3
    have HO3 := Lib.hid ho3
    have HB7 := Lib.hid (HB5x.out.trans (hb7.mono HB5x.out.size))
    have HB8 := Lib.hid (HB7.out.alloc HB7.out.size (.cells #[.int .i64 2, .int .i64 4] 3))
    have HS3 := Lib.hid (ho3.src.keepB ((Below.refl _ _).alloc (Nat.le_refl _) (.cells #[.int .i64 2, .int .i64 4] 3)))
    clear hr3 ho3 hb7 HB5x HB5
    go_wp2_with fail
    refine (ints_same B3 m3 d3 (some ⟨w7.heap.size, 0, none⟩) 2 2 [2, 4] _ HO3.out.1 HS3.out rfl (row_nums (Row.new w7 3 #[.int .i64 2, .int .i64 4]) rfl) (by rw [HO3.out.1]; simp)).mono ?_
    generalize w7.alloc (.cells #[.int .i64 2, .int .i64 4] 3) = w8 at *
    rintro e w9 ⟨rfl, hb9⟩
    have HB9 := Lib.hid (HB8.out.trans (hb9.mono HB8.out.size))
    clear hb9
    go_wp2_with fail
    go_ret
    exact ⟨rfl, HB9.out⟩
  · go_enter Try.func3, Try.ntmps3
    go_wp2_with fail
    have HB0 := Lib.hid (Below.refl w.heap.size w)
    refine (cut_any A n c l most w Hn.out Hs.out hl1).mono ?_
    rintro e w1 ⟨r1, hr1, B1, m1, d1, rfl, ho1, hb1⟩
    have HO1 := Lib.hid ho1
    have HR1 := Lib.hid hr1
    clear ho1 hr1
    have hb1s := hb1.size
    go_wp2_with fail
    refine (rcut_any A n c l most w1 Hn.out (Hs.out.keepB hb1) hl1).mono ?_
    rintro e w2 ⟨r2, hr2, B2, m2, d2, rfl, ho2, hb2⟩
    obtain rfl := HR1.out.one hr2
    have HO2 := Lib.hid ho2
    have HB2 := Lib.hid (hb1.trans (hb2.mono hb1s))
    have HQ1 := Lib.hid (HO1.out.src.keepB hb2)
    clear ho2 hr2 hb1 hb2
    go_wp2_with fail
    refine (ints_same B1 m1 d1 B2 m2 d2 r1 w2 HO1.out.1 HQ1.out HO2.out.1 HO2.out.src (by rw [HO1.out.1]; have := HR1.out.short; omega)).mono ?_
    rintro e w3 ⟨rfl, hb3⟩
    have HB3 := Lib.hid (HB2.out.trans (hb3.mono HB2.out.size))
    clear hb3 HB2 HO1 HO2 HQ1 HR1
    go_wp2_with fail
    refine (great_any A n c l A2 n2 c2 es w3 Hn.out (Hs.out.keepB HB3.out) (by omega) hnc Hn2.out (Hs2.out.keepB HB3.out) hl2).mono ?_
    rintro e w4 ⟨t, ht, rfl, hb4⟩
    have HT := Lib.hid ht
    have HB4 := Lib.hid (HB3.out.trans (hb4.mono HB3.out.size))
    clear ht hb4 HB3
    go_wp2_with fail
    refine (rgreat_any A n c l A2 n2 c2 es w4 Hn.out (Hs.out.keepB HB4.out) (by omega) Hn2.out (Hs2.out.keepB HB4.out) hl2).mono ?_
    rintro e w5 ⟨t2, ht2, rfl, hb5⟩
    obtain rfl := HT.out.one ht2
    have HB5 := Lib.hid (HB4.out.trans (hb5.mono HB4.out.size))
    have HB5x := Lib.hid (HB5.out.alloc HB5.out.size (.cells #[.int .i64 3, .int .i64 3, .int .i64 3, .int .i64 3] 3))
    clear ht2 hb5 HB4 HT
    go_wp2_with fail
    refine (cut_any (some ⟨w5.heap.size, 0, none⟩) 4 4 [3, 3, 3, 3] 8 _ rfl (row_nums (Row.new w5 3 #[.int .i64 3, .int .i64 3, .int .i64 3, .int .i64 3]) rfl) (by omega)).mono ?_
    generalize w5.alloc (.cells #[.int .i64 3, .int .i64 3, .int .i64 3, .int .i64 3] 3) = w6 at *
    rintro e w7 ⟨r3, hr3, B3, m3, d3, rfl, ho3, hb7⟩
    obtain rfl := cut_3333 hr3
    have HO3 := Lib.hid ho3
    have HB7 := Lib.hid (HB5x.out.trans (hb7.mono HB5x.out.size))
    have HB8 := Lib.hid (HB7.out.alloc HB7.out.size (.cells #[.int .i64 2, .int .i64 4] 3))
    have HS3 := Lib.hid (ho3.src.keepB ((Below.refl _ _).alloc (Nat.le_refl _) (.cells #[.int .i64 2, .int .i64 4] 3)))
    clear hr3 ho3 hb7 HB5x HB5
    go_wp2_with fail
    refine (ints_same B3 m3 d3 (some ⟨w7.heap.size, 0, none⟩) 2 2 [2, 4] _ HO3.out.1 HS3.out rfl (row_nums (Row.new w7 3 #[.int .i64 2, .int .i64 4]) rfl) (by rw [HO3.out.1]; simp)).mono ?_
    generalize w7.alloc (.cells #[.int .i64 2, .int .i64 4] 3) = w8 at *
    rintro e w9 ⟨rfl, hb9⟩
    have HB9 := Lib.hid (HB8.out.trans (hb9.mono HB8.out.size))
    clear hb9
    go_wp2_with fail
    go_ret
    exact ⟨rfl, HB9.out⟩
end Part
end Go.Proofs.Ytejcpfplmlpilaa

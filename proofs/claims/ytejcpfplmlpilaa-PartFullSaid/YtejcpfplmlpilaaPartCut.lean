/- Cut: where a row of sizes is cut, and its two closures. For any row and any bound. No conditions but those that stand in each lemma. -/
import Derived.Test.YtejcpfplmlpilaaPartFill
import Derived.Test.YtejcpfplmlpilaaPartLook
import Derived.Test.YtejcpfplmlpilaaPartSearch
import Derived.Laws.EntriesVeiled
namespace Go.Proofs.Ytejcpfplmlpilaa
open Go.RowKit
namespace Part

theorem ends_count (b : Int) (l : List Int) (m : Nat) : (natI (ends b l m)).length = many b l m := by rw [natI_length, ends_len]
set_option maxHeartbeats 1000000 in
theorem pieces_any (S : Nat) (A : Option Addr) (n c : Nat) (l : List Int) (b : Int) (w : World) (hr : Row w S 22 #[.slice A n c]) (hn : n = l.length) (hs : NumSrc w A l) (hl : n ≤ 65536) (h0 : 0 < n) (hb : b ≤ 1073741824) (hz : Sized l b) :
    Calls Try.prog 13 #[.int .i64 b, .pointer (some ⟨S, 0, none⟩)] w fun e w' => e = .returned (.int .i64 (many b l (l.length - 1))) ∧ Below w.heap.size w w' := by
  have c0 : w.cell? ⟨S, 0, none⟩ = some (.slice A n c) := hr.cell (j := 0) rfl
  have HC := Lib.hid (filled_any A n c l b w hn hs hl h0 hb hz)
  clear hr hn hs hz
  go_enter Try.func13, Try.ntmps13
  go_wp2_with fail
  refine HC.out.mono ?_
  rintro e w1 ⟨A1, n1, c1, rfl, ho, hb1⟩
  have HN := Lib.hid ho.1
  clear ho
  go_wp2_with fail
  go_ret
  exact ⟨ret_i64 (by rw [HN.out, ends_count]), hb1⟩
set_option maxHeartbeats 1000000 in
theorem few_any (p5 p6 p7 S : Nat) (A : Option Addr) (n c : Nat) (l : List Int) (b x : Int) (q : Int) (w : World) (hr : Row w S 22 #[.slice A n c]) (hn : n = l.length) (hs : NumSrc w A l) (hl : n ≤ 65536) (h0 : 0 < n) (hb0 : 0 ≤ b) (hx : 0 ≤ x) (hb : b + x ≤ 1073741824) (hz : Sized l b)
    (h5 : Row w p5 30 #[.func (.func 13) #[] #[.pointer (some ⟨S, 0, none⟩)]]) (h6 : Row w p6 3 #[.int .i64 q]) (h7 : Row w p7 3 #[.int .i64 b]) :
    Calls Try.prog 17 #[.int .i64 x, .pointer (some ⟨p5, 0, none⟩), .pointer (some ⟨p7, 0, none⟩), .pointer (some ⟨p6, 0, none⟩)] w fun e w' => e = .returned (.bool (decide ((many (b + x) l (l.length - 1) : Int) = q))) ∧ Below w.heap.size w w' := by
  have hzx : Sized l (b + x) := fun i => by have := hz i; omega
  have HC := Lib.hid (fun w1 (h1 : Below w.heap.size w w1) => pieces_any S A n c l (b + x) w1 (hr.keep h1) hn (hs.keepB h1) hl h0 (by omega) hzx)
  have h5l := h5.lt
  have h6l := h6.lt
  have h7l := h7.lt
  have c5 : ∀ g : Above w.drew, g.1.cell? ⟨p5, 0, none⟩ = some (.func (.func 13) #[] #[.pointer (some ⟨S, 0, none⟩)]) := h5.drew.above (j := 0) rfl
  have c6 : ∀ g : Above w.drew, g.1.cell? ⟨p6, 0, none⟩ = some (.int .i64 q) := h6.drew.above (j := 0) rfl
  have c7 : ∀ g : Above w.drew, g.1.cell? ⟨p7, 0, none⟩ = some (.int .i64 b) := h7.drew.above (j := 0) rfl
  have H6 := Lib.hid h6
  clear hr hn hs hz hzx h5 h6 h7
  generalize many (b + x) l (l.length - 1) = y at *
  by_cases hy : (y : Int) = q
  all_goals
    go_enter Try.func17, Try.ntmps17
    go_wp2_with fail
    refine wp_region_segs [([0, 1, 2, 3, 5], 4)] [6, 7] (by kernel_rfl) (by kernel_rfl) (by kernel_rfl) (by kernel_rfl) (fun _ _ d _ _ h => by cases d <;> exact h) ?_
    refine wpSegs_next (by simp [pickOps]; rfl) ?_
    repeat (go_big_quiet_step (fail))
    refine wpQuiet_nil ?_
    refine wpOp_alone rfl rfl (fun K hK => ?_)
    go_simp
    refine (HC.out _ (Below.refl _ _).drew).mono ?_
    rintro e w2 ⟨rfl, hb2⟩
    refine hK _ _ ⟨hb2, ?_⟩
    have hb2' : Below w.heap.size w w2 := (Below.refl _ _).drew.trans hb2
    clear hK K hb2 c5 c6 c7 HC
    refine wpSegs_last (by simp [pickOps]; rfl) ?_
    repeat (go_big_quiet_step (fail))
    refine wpQuiet_nil ?_
    go_wp2_with fail
    go_ret
    exact ⟨ret_bool (by simp [hy]), hb2'⟩

/-- The document's conditions on a row and a bound. -/
structure Fit (l : List Int) (most : Int) : Prop where
  pos : 0 < l.length
  len : l.length ≤ 65536
  one : 1 ≤ most
  top : most ≤ 1073741824
  each : Sized l most
/-- What a cut is: nothing, or the ends of the greedy way by the least bound of as few pieces. -/
def CutIs (l : List Int) (most : Int) (r : List Int) : Prop := (¬ Fit l most ∧ r = []) ∨ (Fit l most ∧ ∃ b, Least l (l.length - 1) most b ∧ r = natI (ends b l (l.length - 1)))
theorem CutIs.one {l r r' : List Int} {most : Int} (h : CutIs l most r) (h' : CutIs l most r') : r = r' := by
  rcases h with ⟨h, rfl⟩ | ⟨h, b, hb, rfl⟩ <;> rcases h' with ⟨k, rfl⟩ | ⟨k, c, hc, rfl⟩
  · rfl
  · exact absurd k h
  · exact absurd h k
  · rw [hb.one hc]
/-- The answer of Cut. -/
def GivesCut (w : World) (l : List Int) (most : Int) (e : Ending) (w' : World) : Prop := ∃ r, CutIs l most r ∧ GivesI w r e w'
theorem GivesCut.none_ {w w' : World} {l : List Int} {most : Int} (h : ¬ Fit l most) (hb : Below w.heap.size w w') : GivesCut w l most (.returned (.slice none 0 0)) w' := ⟨[], .inl ⟨h, rfl⟩, none, 0, 0, rfl, IOwn.nil w' _, hb⟩
/-- What a search for the least bound knows. -/
theorem least_by {l : List Int} {most t i : Int} (hf : Fit l most) (hge : ∀ j, j < l.length → l.getD j 0 ≤ t) (hin : ∃ j, j < l.length ∧ t = l.getD j 0) (h0 : 0 ≤ i) (hN : i ≤ most - t)
    (h1 : i = 0 ∨ decide ((many (t + (i - 1)) l (l.length - 1) : Int) = (many most l (l.length - 1) : Nat)) = false) (h2 : i = most - t ∨ decide ((many (t + i) l (l.length - 1) : Int) = (many most l (l.length - 1) : Nat)) = true) :
    Least l (l.length - 1) most (t + i) := by
  obtain ⟨j, hj, ht⟩ := hin
  have hjz := hf.each j
  have hall : ∀ k, l.getD k 0 ≤ t := fun k => by
    rcases Nat.lt_or_ge k l.length with h | h
    · exact hge k h
    · rw [getD_out h]; omega
  refine least_of (fun k => by have := hall k; omega) (by omega) ?_ fun a ha hai => ?_
  · rcases h2 with h2 | h2
    · rw [h2, show t + (most - t) = most by omega]; exact Nat.le_refl _
    · rw [decide_eq_true_eq] at h2; omega
  · have hta : t ≤ a := by rw [ht]; exact ha j
    rcases h1 with h1 | h1
    · omega
    · rw [decide_eq_false_iff_not] at h1
      have m1 := many_mono l hf.each.pos (a := t + (i - 1)) (b := most) (fun k => by have := hall k; omega) (by omega) (l.length - 1)
      have m2 := many_mono l hf.each.pos (a := a) (b := t + (i - 1)) ha (by omega) (l.length - 1)
      omega
set_option maxRecDepth 100000 in
set_option maxHeartbeats 8000000 in
theorem cut_any (A : Option Addr) (n c : Nat) (l : List Int) (most : Int) (w : World) (hn : n = l.length) (hs : NumSrc w A l) (hl : n ≤ 9223372036854775807) :
    Calls Try.prog 6 #[.slice A n c, .int .i64 most] w (GivesCut w l most) := by
  have HB := Lib.hid ((Below.refl w.heap.size w).alloc (Nat.le_refl _) (.cells #[.slice A n c] 22))
  have Hn := Lib.hid hn
  have Hs := Lib.hid hs
  have HW := Lib.hid (within_any most A n c l (w.alloc (.cells #[.slice A n c] 22)) hn (hs.keepB HB.out) hl)
  clear hn hs
  rcases Nat.eq_zero_or_pos n with h1 | h1
  · have HF := Lib.hid (show ¬ Fit l most from fun h => by have := h.pos; have := Hn.out; omega)
    subst h1
    go_enter Try.func6, Try.ntmps6
    go_wp2_with fail
    go_ret
    exact GivesCut.none_ HF.out HB.out
  have hn0 : ¬ (n : Int) = 0 := by omega
  by_cases h2 : n > 65536
  · have HF := Lib.hid (show ¬ Fit l most from fun h => by have := h.len; have := Hn.out; omega)
    go_enter Try.func6, Try.ntmps6
    go_wp2_with fail
    go_ret
    exact GivesCut.none_ HF.out HB.out
  by_cases h3 : most < 1
  · have HF := Lib.hid (show ¬ Fit l most from fun h => by have := h.one; omega)
    go_enter Try.func6, Try.ntmps6
    go_wp2_with fail
    go_ret
    exact GivesCut.none_ HF.out HB.out
  by_cases h4 : most > 1073741824
  · have HF := Lib.hid (show ¬ Fit l most from fun h => by have := h.top; omega)
    go_enter Try.func6, Try.ntmps6
    go_wp2_with fail
    go_ret
    exact GivesCut.none_ HF.out HB.out
  have hn9 : ¬ (n : Int) > 65536 := by omega
  obtain ⟨t, ht⟩ : ∃ t, l.any (outB most) = t := ⟨_, rfl⟩
  have hw := HW.out
  rw [ht] at hw
  have HW2 := Lib.hid hw
  have HT := Lib.hid ht
  clear ht hw HW
  cases t
  · have HF := Lib.hid (show Fit l most from ⟨by have := Hn.out; omega, by have := Hn.out; omega, by omega, by omega, sized_of HT.out (by omega)⟩)
    go_enter Try.func6, Try.ntmps6
    go_wp2_with fail
    refine HW2.out.mono ?_
    rintro e w1 ⟨rfl, hb1⟩
    have HR := Lib.hid ((Row.new w 22 #[.slice A n c]).keep hb1)
    have hb2 := HB.out.trans (hb1.mono (by simp))
    have c0 : w1.cell? ⟨w.heap.size, 0, none⟩ = some (.slice A n c) := HR.out.cell (j := 0) rfl
    clear hb1 HW2
    go_wp2_with fail
    have hn1 : 0 < n := h1
    have HR5 := Lib.hid (Row.new w1 30 #[.func (.func 13) #[] #[.pointer (some ⟨w.heap.size, 0, none⟩)]])
    have HRS := Lib.hid (HR.out.old (.cells #[.func (.func 13) #[] #[.pointer (some ⟨w.heap.size, 0, none⟩)]] 30))
    have HB2 := Lib.hid (hb2.alloc hb2.size (.cells #[.func (.func 13) #[] #[.pointer (some ⟨w.heap.size, 0, none⟩)]] 30))
    refine (pieces_any w.heap.size A n c l most _ HRS.out Hn.out (Hs.out.keepB HB2.out) (by omega) h1 h4 HF.out.each).mono ?_
    generalize w1.alloc (.cells #[.func (.func 13) #[] #[.pointer (some ⟨w.heap.size, 0, none⟩)]] 30) = w2 at *
    generalize w1.heap.size = p5 at *
    rintro e w3 ⟨rfl, hb3⟩
    obtain ⟨q, hq⟩ : ∃ q : Int, (many most l (l.length - 1) : Int) = q := ⟨_, rfl⟩
    have HQ := Lib.hid hq
    rw [hq]
    have HR5b := Lib.hid ((HR5.out.keep hb3).old (.cells #[.int .i64 q] 3))
    have HRSb := Lib.hid ((HRS.out.keep hb3).old (.cells #[.int .i64 q] 3))
    have HR6 := Lib.hid (Row.new w3 3 #[.int .i64 q])
    have HB3 := Lib.hid ((HB2.out.trans (hb3.mono HB2.out.size)).alloc (by have := HB2.out.size; have := hb3.size; omega) (.cells #[.int .i64 q] 3))
    clear hb2 hb3 hq c0 HR HRS HR5 HB2
    have hrs : (w3.alloc (.cells #[.int .i64 q] 3)).cell? ⟨w.heap.size, 0, none⟩ = some (.slice A n c) := HRSb.out.cell (j := 0) rfl
    go_wp2_with fail
    refine (max_any A n c l _ Hn.out (Hs.out.keepB HB3.out) h1 hl).mono ?_
    generalize w3.alloc (.cells #[.int .i64 q] 3) = w4 at *
    generalize w3.heap.size = p6 at *
    rintro e w5 ⟨t, rfl, hge, hin, hb5⟩
    have HGE := Lib.hid hge
    have HIN := Lib.hid hin
    have ht0 : 0 ≤ t ∧ t ≤ most := by
      obtain ⟨j, hj, e⟩ := hin
      have := HF.out.each j
      omega
    have HR5c := Lib.hid ((HR5b.out.keep hb5).old (.cells #[.int .i64 t] 3))
    have HRSc := Lib.hid ((HRSb.out.keep hb5).old (.cells #[.int .i64 t] 3))
    have HR6c := Lib.hid ((HR6.out.keep hb5).old (.cells #[.int .i64 t] 3))
    have HR7 := Lib.hid (Row.new w5 3 #[.int .i64 t])
    have HB5 := Lib.hid ((HB3.out.trans (hb5.mono HB3.out.size)).alloc (by have := HB3.out.size; have := hb5.size; omega) (.cells #[.int .i64 t] 3))
    clear hge hin hb5 hrs HR5b HRSb HR6 HB3
    go_wp2_with fail
    generalize w5.alloc (.cells #[.int .i64 t] 3) = w6 at *
    generalize w5.heap.size = p7 at *
    have hlt7 := HR7.out.lt
    have c7 : ∀ g : Above w6.drew, g.1.cell? ⟨p7, 0, none⟩ = some (.int .i64 t) := HR7.out.drew.above (j := 0) rfl
    refine wp_region_segs [([0, 1, 2, 3], 4), ([], 5)] [6, 7] (by kernel_rfl) (by kernel_rfl) (by kernel_rfl) (by kernel_rfl) (fun _ _ d _ _ h => by cases d <;> exact h) ?_
    refine wpSegs_next (by simp [pickOps]; rfl) ?_
    repeat (go_big_quiet_step (fail))
    refine wpQuiet_nil ?_
    refine wpOp_alone rfl rfl (fun K hK => ?_)
    go_simp
    refine hK _ _ ⟨Ext.refl _, ?_⟩
    clear hK K
    refine wpSegs_next (by simp [pickOps]; rfl) ?_
    refine wpQuiet_nil ?_
    refine wpOp_alone rfl rfl (fun K hK => ?_)
    go_simp
    refine (search_any (most - t) (fun x => decide ((many (t + x) l (l.length - 1) : Int) = q)) _ _ _ w6.drew (by omega) (by omega) fun x hx0 hx1 u hu => few_any p5 p6 p7 w.heap.size A n c l t x q u (HRSc.out.drew.keep hu) Hn.out (Hs.out.keepB (HB5.out.drew.trans (hu.mono HB5.out.size))) (by omega) h1 ht0.1 hx0 (by omega) (fun j => ?_) (HR5c.out.drew.keep hu) (HR6c.out.drew.keep hu) (HR7.out.drew.keep hu)).mono ?_
    · have h0 := HF.out.each j
      refine ⟨h0.1, ?_⟩
      rcases Nat.lt_or_ge j l.length with hj | hj
      · exact HGE.out j hj
      · rw [getD_out hj]; exact ht0.1
    rintro e w7 ⟨i, rfl, hi0, hiN, hi1, hi2, hb7⟩
    have HL := Lib.hid (least_by HF.out HGE.out HIN.out hi0 hiN (by rw [HQ.out]; exact hi1) (by rw [HQ.out]; exact hi2))
    have HB7 := Lib.hid (HB5.out.drew.trans (hb7.mono HB5.out.size))
    have HRSd := Lib.hid (HRSc.out.drew.keep hb7)
    have c7d : w7.cell? ⟨p7, 0, none⟩ = some (.int .i64 t) := (HR7.out.drew.keep hb7).cell (j := 0) rfl
    refine hK _ _ ⟨hb7, ?_⟩
    clear hK K hb7 hi1 hi2 c7 HRSc HR5c HR6c HR7 HB5
    refine wpSegs_last (by simp [pickOps]; rfl) ?_
    repeat (go_big_quiet_step (fail))
    refine wpQuiet_nil ?_
    have crs : w7.cell? ⟨w.heap.size, 0, none⟩ = some (.slice A n c) := HRSd.out.cell (j := 0) rfl
    go_wp2_with fail
    refine (filled_any A n c l (t + i) w7 Hn.out (Hs.out.keepB HB7.out) (by omega) h1 (by omega) (fun j => ?_)).mono ?_
    · have h0 := HF.out.each j
      exact ⟨h0.1, HL.out.each j⟩
    rintro e w8 ⟨A8, n8, c8, rfl, ho8, hb8⟩
    have HO8 := Lib.hid (ho8.more HB7.out.size)
    have HB8 := Lib.hid (HB7.out.trans (hb8.mono HB7.out.size))
    clear ho8 hb8
    go_wp2_with fail
    go_ret
    exact ⟨_, .inr ⟨HF.out, t + i, HL.out, rfl⟩, A8, n8, c8, rfl, HO8.out, HB8.out⟩
  · have HF := Lib.hid (show ¬ Fit l most from fun h => by
      obtain ⟨x, hx, ho⟩ := List.any_eq_true.1 HT.out
      obtain ⟨i, hi, rfl⟩ := List.mem_iff_getElem.1 hx
      have := h.each i
      rw [List.getD_eq_getElem?_getD, List.getElem?_eq_getElem hi] at this
      simp only [Option.getD_some, outB, Bool.or_eq_true, decide_eq_true_eq] at this ho
      omega)
    go_enter Try.func6, Try.ntmps6
    go_wp2_with fail
    refine HW2.out.mono ?_
    rintro e w1 ⟨rfl, hb1⟩
    have hb2 := HB.out.trans (hb1.mono (by simp))
    clear hb1
    go_wp2_with fail
    go_ret
    exact GivesCut.none_ HF.out hb2
end Part
end Go.Proofs.Ytejcpfplmlpilaa

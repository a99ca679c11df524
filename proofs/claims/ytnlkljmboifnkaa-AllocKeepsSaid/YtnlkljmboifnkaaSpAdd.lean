/- Add, for any list of at most 100000 spans, valid or not, and any span: a list of the call's own. No conditions but those that stand in each lemma. -/
import Derived.Test.YtnlkljmboifnkaaSpConcat
namespace Go.Proofs.Ytnlkljmboifnkaa
open Go.RowKit

theorem sp_parts_one {w : World} {A : Option Addr} {n c : Nat} {l : List Sp} {T : TypeId} (hn : n = l.length) (hs : SpSrc w A l) : SpParts (w.alloc (.cells #[.slice A n c] T)) w.heap.size [⟨A, n, c, l⟩] :=
  ⟨by simp, fun i hi => by
    obtain rfl : i = 0 := by simpa using hi
    exact (Row.new w T #[.slice A n c]).cell (j := 0) rfl, fun q hq => by
    obtain rfl := List.mem_singleton.1 hq
    exact ⟨hn, hs.keep ((Below.refl _ _).alloc (Nat.le_refl _) _)⟩⟩
theorem sp_parts_three {w : World} {A1 A2 A3 : Option Addr} {n1 n2 n3 c1 c2 c3 : Nat} {l1 l2 l3 : List Sp} {T : TypeId} (hn1 : n1 = l1.length) (hs1 : SpSrc w A1 l1) (hn2 : n2 = l2.length) (hs2 : SpSrc w A2 l2) (hn3 : n3 = l3.length) (hs3 : SpSrc w A3 l3) (G : Nat) (hG : w.heap.size = G) :
    SpParts (w.alloc (.cells #[.slice A1 n1 c1, .slice A2 n2 c2, .slice A3 n3 c3] T)) G [⟨A1, n1, c1, l1⟩, ⟨A2, n2, c2, l2⟩, ⟨A3, n3, c3, l3⟩] := by
  subst hG
  have hr := Row.new w T #[.slice A1 n1 c1, .slice A2 n2 c2, .slice A3 n3 c3]
  have hb := (Below.refl w.heap.size w).alloc (Nat.le_refl _) (.cells #[.slice A1 n1 c1, .slice A2 n2 c2, .slice A3 n3 c3] T)
  refine ⟨by simp, fun i hi => ?_, fun q hq => ?_⟩
  · match i, hi with
    | 0, _ => exact hr.cell (j := 0) rfl
    | 1, _ => exact hr.cell (j := 1) rfl
    | 2, _ => exact hr.cell (j := 2) rfl
  · rcases List.mem_cons.1 hq with rfl | hq
    · exact ⟨hn1, hs1.keep hb⟩
    · rcases List.mem_cons.1 hq with rfl | hq
      · exact ⟨hn2, hs2.keep hb⟩
      · obtain rfl := List.mem_singleton.1 hq
        exact ⟨hn3, hs3.keep hb⟩
/-- The span that has grown by the first k. -/
def foldAt (s : Sp) (m : List Sp) (k : Nat) : Sp := (m.take k).foldl Spans.merge s
theorem foldAt_next (s : Sp) (m : List Sp) (k : Nat) (h : k < m.length) : foldAt s m (k + 1) = (min (foldAt s m k).1 (m.getD k spZ).1, max (foldAt s m k).2 (m.getD k spZ).2) := by
  unfold foldAt
  rw [List.take_succ_eq_append_getElem h, List.foldl_append, List.getD_eq_getElem?_getD, List.getElem?_eq_getElem h]
  rfl
theorem foldAt_all (s : Sp) (m : List Sp) : foldAt s m m.length = m.foldl Spans.merge s := by unfold foldAt; rw [List.take_length]
theorem add_step {wr : World} {W : Nat} {T : TypeId} {a b u v : Int} {f : Sp} (hrow : Row wr W T #[.int .i64 a, .int .i64 b]) (hf : f = (min a u, max b v)) (o : Obj) :
    Row (((wr.setCell ⟨W, 0, none⟩ (.int .i64 (if u < a then u else a))).setCell ⟨W, 1, none⟩ (.int .i64 (if b < v then v else b))).alloc o) W T #[.int .i64 f.1, .int .i64 f.2] := by
  subst hf
  have h := ((hrow.set 0 (.int .i64 (if u < a then u else a))).set 1 (.int .i64 (if b < v then v else b))).old o
  have e1 : (if u < a then u else a) = min a u := by split <;> omega
  have e2 : (if b < v then v else b) = max b v := by split <;> omega
  rw [e1, e2] at h ⊢
  exact h
/-- At a round's head: the span that grows stands in block W, the first new one. -/
def AddAt (w : World) (s : Sp) (m : List Sp) (i : Value) (wr : World) : Prop :=
  ∃ k : Nat, k ≤ m.length ∧ i = .int .i64 (k : Int) ∧ Row wr w.heap.size 23 #[.int .i64 (foldAt s m k).1, .int .i64 (foldAt s m k).2] ∧ Below w.heap.size w wr

set_option maxHeartbeats 1600000 in
theorem add_any (A : Option Addr) (n c : Nat) (l : List Sp) (x y : Int) (w : World) (hn : n = l.length) (hs : SpSrc w A l) (hl : n ≤ 100000) (hnc : n ≤ c) (hc : c ≤ maxLen) :
    Calls Try.prog 24 #[.slice A n c, .agg #[.int .i64 x, .int .i64 y]] w (GivesS w 23 (Spans.addL l (x, y))) := by
  have HF : ∀ w1, Below w.heap.size w w1 → Calls Try.prog 30 #[.slice A n c, .agg #[.int .i64 x, .int .i64 y]] w1 fun e w' => e = .returned (.bool (Spans.fitB l (x, y))) ∧ Below w1.heap.size w1 w' := fun w1 hb => fit_any A n c l x y w1 hn (hs.keep hb) hl
  have HS := Lib.hid hs
  have HN := Lib.hid hn
  unfold maxLen at hc
  by_cases hf : Spans.fitB l (x, y) = true
  · have HD := Lib.hid (show Spans.addL l (x, y) = Spans.addV l (x, y) by unfold Spans.addL; rw [if_pos hf])
    obtain ⟨hvl, hr⟩ := (Spans.fitB_iff _ _).1 hf
    have hcut := Spans.cut l (x, y) hvl hr
    have hcounts := Spans.counts l (x, y) hvl hr
    have HCUT := Lib.hid hcut
    have HCO := Lib.hid hcounts
    rw [hf] at HF
    have HF2 := Lib.hid HF
    clear HF hn hs hf hcut hcounts hvl hr
    go_enter Try.func24, Try.ntmps24
    go_wp2_with fail
    refine (HF2.out _ ((Below.refl _ _).alloc (Nat.le_refl _) _)).mono ?_
    rintro e w1 ⟨rfl, hb1⟩
    have HR := Lib.hid (sp_row hb1)
    obtain ⟨d0, d1, hb2⟩ := sp_new hb1
    clear hb1 d0 d1
    go_wp2_with fail
    refine (taken_ahead (Spans.ahead (x, y)) w.heap.size A n c l w1 HN.out (HS.out.keep hb2) (by omega) (fun u v w2 h2 => ahead_look w.heap.size x y u v w2 (HR.out.keepB h2 HR.out.lt))).mono ?_
    rintro e w2 ⟨v, rfl, A1, n1, c1, rfl, hn1, ho1, hb3⟩
    have HN1 := Lib.hid hn1
    have HO1 := Lib.hid ho1
    have HR2 := Lib.hid (HR.out.keep hb3)
    have hb4 := hb2.trans (hb3.mono hb2.size)
    clear hn1 ho1 hb3 hb2 HR HF2
    go_wp2_with fail
    refine (taken_behind (Spans.behind (x, y)) w.heap.size A n c l w2 HN.out (HS.out.keep hb4) (by omega) (fun u v w3 h3 => behind_look w.heap.size x y u v w3 (HR2.out.keepB h3 HR2.out.lt))).mono ?_
    rintro e w3 ⟨v, rfl, A2, n2, c2, rfl, hn2, ho2, hb5⟩
    have HN2 := Lib.hid hn2
    have HS2 := Lib.hid ho2.src
    have HS1 := Lib.hid (HO1.out.keep hb5).src
    have HR3 := Lib.hid (HR2.out.keep hb5)
    have hb6 := hb4.trans (hb5.mono hb4.size)
    clear hn2 ho2 hb5 hb4 HR2 HO1
    have d0 : w3.cell? ⟨w.heap.size, 0, none⟩ = some (.int .i64 x) := HR3.out.cell (j := 0) rfl
    have d1 : w3.cell? ⟨w.heap.size, 1, none⟩ = some (.int .i64 y) := HR3.out.cell (j := 1) rfl
    have hle : n1 + n2 ≤ n := by have := HCO.out; have := HN1.out; have := HN2.out; have := HN.out; omega
    have HML : Hid (n - n2 - n1 = (l.filter (Spans.between (x, y))).length) := Lib.hid (by have := HCO.out; have := HN1.out; have := HN2.out; have := HN.out; omega)
    have HS3 := Lib.hid (HS.out.keep hb6)
    by_cases hcn : c = n1
    · have HM : Hid (SpSrc w3 A (l.filter (Spans.between (x, y)))) := Lib.hid (fun hpos => absurd hpos (by rw [← HML.out]; omega))
      go_wp2_with fail
      have HR4 := Lib.hid (Row.new w3 23 #[.int .i64 x, .int .i64 y])
      generalize hmid : l.filter (Spans.between (x, y)) = mid at *
      have HMID := Lib.hid hmid
      have hsz3 := hb6.size
      clear hmid d0 d1
      go_loopw [34] (fun i wr => AddAt w3 (x, y) mid i wr) (fun i _ => (n - n2 - n1) - (intOf i).toNat)
      case atStart => exact ⟨0, Nat.zero_le _, rfl, HR4.out, (Below.refl _ _).alloc (Nat.le_refl _) _⟩
      case round =>
        obtain ⟨k, hk, rfl, hrow, hb⟩ := hrel
        have HROW := Lib.hid hrow
        clear hrow
        have hk2 : k ≤ n - n2 - n1 := by rw [HML.out]; exact hk
        by_cases hlt : k < n - n2 - n1
        · exact absurd hlt (by omega)
        · obtain rfl : k = n - n2 - n1 := by omega
          have HX : Hid (foldAt (x, y) mid (n - n2 - n1) = Spans.whole l (x, y)) := Lib.hid (by rw [HML.out, foldAt_all, ← HMID.out]; rfl)
          have hrow := HROW.out
          rw [HX.out] at hrow
          generalize hwh : Spans.whole l (x, y) = wh at *
          obtain ⟨a, b⟩ := wh
          have HWH := Lib.hid hwh
          have e0 : wr.cell? ⟨w3.heap.size, 0, none⟩ = some (.int .i64 a) := hrow.cell (j := 0) rfl
          have e1 : wr.cell? ⟨w3.heap.size, 1, none⟩ = some (.int .i64 b) := hrow.cell (j := 1) rfl
          have HQ1 := Lib.hid (HS1.out.keep hb)
          have HQ2 := Lib.hid (HS2.out.keep hb)
          have hszr := hb.size
          clear hwh hrow hk hk2 HROW
          go_wp2_with fail
          have hbu : Below wr.heap.size wr (wr.alloc (.cells #[.int .i64 a, .int .i64 b] 23)) := (Below.refl _ _).alloc (Nat.le_refl _) _
          refine (sp_concat_any (wr.heap.size + 1) 3 3 [⟨A1, n1, c1, l.filter (Spans.ahead (x, y))⟩, ⟨some ⟨wr.heap.size, 0, none⟩, 1, 1, [(a, b)]⟩, ⟨A2, n2, c2, l.filter (Spans.behind (x, y))⟩] _ rfl (by omega) (sp_parts_three HN1.out (HQ1.out.keep hbu) rfl (spsrc_one _ _ rfl a b _) HN2.out (HQ2.out.keep hbu) (wr.heap.size + 1) (by simp)) (by simp only [spJoined, List.flatMap_cons, List.flatMap_nil, List.length_append, List.length_cons, List.length_nil, ← HN1.out, ← HN2.out]; omega)).mono ?_
          rintro e w5 ⟨v, rfl, A5, n5, c5, rfl, hn5, ho5, hb8⟩
          have HO5 := Lib.hid ho5
          have HN5 := Lib.hid hn5
          have hb9 := hb6.trans ((hb.trans (((hbu.alloc (by simp) _).trans (hb8.mono (by simp; omega))).mono hszr)).mono hsz3)
          clear hn5 ho5 hb8
          go_wp2_with fail
          go_ret
          have ej : spJoined [⟨A1, n1, c1, l.filter (Spans.ahead (x, y))⟩, ⟨some ⟨wr.heap.size, 0, none⟩, 1, 1, [(a, b)]⟩, ⟨A2, n2, c2, l.filter (Spans.behind (x, y))⟩] = Spans.addL l (x, y) := by
            rw [HD.out]
            simp [spJoined, Spans.addV, HWH.out]
          refine ⟨_, rfl, A5, n5, c5, rfl, ?_, ?_, hb9⟩
          · rw [HN5.out, ej]
          · have := HO5.out
            rw [ej] at this
            exact this.more (by simp; omega)
    · have HM : Hid (SpSrc w3 (Option.map (fun z => z.add (n1 * 2)) A) (l.filter (Spans.between (x, y)))) := Lib.hid (by
        have h := (HS3.out.take (n - n2)).drop n1 c (by rw [List.length_take, ← HN.out]; omega) (by rw [List.length_take, ← HN.out]; omega)
        rw [if_neg hcn] at h
        have e := HCUT.out
        rw [← HN1.out, ← HN2.out, ← HN.out] at e
        rw [e] at h
        exact h)
      go_wp2_with fail
      generalize (Option.map (fun z => z.add (n1 * 2)) A) = MA at *
      have HR4 := Lib.hid (Row.new w3 23 #[.int .i64 x, .int .i64 y])
      generalize hmid : l.filter (Spans.between (x, y)) = mid at *
      have HMID := Lib.hid hmid
      have hsz3 := hb6.size
      clear hmid d0 d1
      go_loopw [34] (fun i wr => AddAt w3 (x, y) mid i wr) (fun i _ => (n - n2 - n1) - (intOf i).toNat)
      case atStart => exact ⟨0, Nat.zero_le _, rfl, HR4.out, (Below.refl _ _).alloc (Nat.le_refl _) _⟩
      case round =>
        obtain ⟨k, hk, rfl, hrow, hb⟩ := hrel
        have HROW := Lib.hid hrow
        clear hrow
        have hk2 : k ≤ n - n2 - n1 := by rw [HML.out]; exact hk
        by_cases hlt : k < n - n2 - n1
        · have hlm : k < mid.length := by rw [← HML.out]; exact hlt
          obtain ⟨b0, o, rfl, hbl, hcell⟩ := HM.out (by omega)
          have c0 := (hb.cell (p := ⟨b0, o + k * 2, none⟩) hbl).trans (hcell k hlm).1
          have c1' := (hb.cell (p := ⟨b0, o + k * 2 + 1, none⟩) hbl).trans (hcell k hlm).2
          have HX := Lib.hid (foldAt_next (x, y) mid k hlm)
          have hrow := HROW.out
          clear hcell HROW
          generalize (mid.getD k spZ).1 = u at *
          generalize (mid.getD k spZ).2 = v at *
          generalize (foldAt (x, y) mid k).1 = a at *
          generalize (foldAt (x, y) mid k).2 = b at *
          have e0 : wr.cell? ⟨w3.heap.size, 0, none⟩ = some (.int .i64 a) := hrow.cell (j := 0) rfl
          have e1 : wr.cell? ⟨w3.heap.size, 1, none⟩ = some (.int .i64 b) := hrow.cell (j := 1) rfl
          have e2 := hrow.free 0
          have e3 := hrow.free 1
          have HROW := Lib.hid hrow
          have hszr := hb.size
          have hltr := hrow.lt
          clear hrow
          go_wp2_with fail
          go_roundw
          case rel => exact ⟨k + 1, by omega, by go_num, add_step HROW.out HX.out _, ((hb.setCell (Nat.le_refl _) _).setCell (Nat.le_refl _) _).alloc (by simp; omega) _⟩
          case measure => simp [intOf]; omega
        · obtain rfl : k = n - n2 - n1 := by omega
          have HX : Hid (foldAt (x, y) mid (n - n2 - n1) = Spans.whole l (x, y)) := Lib.hid (by rw [HML.out, foldAt_all, ← HMID.out]; rfl)
          have hrow := HROW.out
          rw [HX.out] at hrow
          generalize hwh : Spans.whole l (x, y) = wh at *
          obtain ⟨a, b⟩ := wh
          have HWH := Lib.hid hwh
          have e0 : wr.cell? ⟨w3.heap.size, 0, none⟩ = some (.int .i64 a) := hrow.cell (j := 0) rfl
          have e1 : wr.cell? ⟨w3.heap.size, 1, none⟩ = some (.int .i64 b) := hrow.cell (j := 1) rfl
          have HQ1 := Lib.hid (HS1.out.keep hb)
          have HQ2 := Lib.hid (HS2.out.keep hb)
          have hszr := hb.size
          clear hwh hrow hk hk2 HROW
          go_wp2_with fail
          have hbu : Below wr.heap.size wr (wr.alloc (.cells #[.int .i64 a, .int .i64 b] 23)) := (Below.refl _ _).alloc (Nat.le_refl _) _
          refine (sp_concat_any (wr.heap.size + 1) 3 3 [⟨A1, n1, c1, l.filter (Spans.ahead (x, y))⟩, ⟨some ⟨wr.heap.size, 0, none⟩, 1, 1, [(a, b)]⟩, ⟨A2, n2, c2, l.filter (Spans.behind (x, y))⟩] _ rfl (by omega) (sp_parts_three HN1.out (HQ1.out.keep hbu) rfl (spsrc_one _ _ rfl a b _) HN2.out (HQ2.out.keep hbu) (wr.heap.size + 1) (by simp)) (by simp only [spJoined, List.flatMap_cons, List.flatMap_nil, List.length_append, List.length_cons, List.length_nil, ← HN1.out, ← HN2.out]; omega)).mono ?_
          rintro e w5 ⟨v, rfl, A5, n5, c5, rfl, hn5, ho5, hb8⟩
          have HO5 := Lib.hid ho5
          have HN5 := Lib.hid hn5
          have hb9 := hb6.trans ((hb.trans (((hbu.alloc (by simp) _).trans (hb8.mono (by simp; omega))).mono hszr)).mono hsz3)
          clear hn5 ho5 hb8
          go_wp2_with fail
          go_ret
          have ej : spJoined [⟨A1, n1, c1, l.filter (Spans.ahead (x, y))⟩, ⟨some ⟨wr.heap.size, 0, none⟩, 1, 1, [(a, b)]⟩, ⟨A2, n2, c2, l.filter (Spans.behind (x, y))⟩] = Spans.addL l (x, y) := by
            rw [HD.out]
            simp [spJoined, Spans.addV, HWH.out]
          refine ⟨_, rfl, A5, n5, c5, rfl, ?_, ?_, hb9⟩
          · rw [HN5.out, ej]
          · have := HO5.out
            rw [ej] at this
            exact this.more (by simp; omega)
  · have HD := Lib.hid (show Spans.addL l (x, y) = l by unfold Spans.addL; rw [if_neg hf])
    rw [Bool.not_eq_true] at hf
    rw [hf] at HF
    have HF2 := Lib.hid HF
    clear HF hn hs hf
    go_enter Try.func24, Try.ntmps24
    go_wp2_with fail
    refine (HF2.out _ ((Below.refl _ _).alloc (Nat.le_refl _) _)).mono ?_
    rintro e w1 ⟨rfl, hb1⟩
    obtain ⟨d0, d1, hb2⟩ := sp_new hb1
    clear hb1 d0 d1
    go_wp2_with fail
    refine (sp_concat_any _ 1 1 [⟨A, n, c, l⟩] _ rfl (by omega) (sp_parts_one HN.out (HS.out.keep hb2)) (by simp [spJoined]; have := HN.out; omega)).mono ?_
    rintro e w2 ⟨v, rfl, A2, n2, c2, rfl, hn2, ho2, hb3⟩
    have HO2 := Lib.hid ho2
    have HN2 := Lib.hid hn2
    have hb4 := hb2.trans ((((Below.refl w1.heap.size w1).alloc (Nat.le_refl _) _).trans (hb3.mono (by simp))).mono hb2.size)
    have hsz := hb2.size
    clear hn2 ho2 hb3 hb2
    go_wp2_with fail
    go_ret
    have ej : spJoined [⟨A, n, c, l⟩] = l := by simp [spJoined]
    refine ⟨_, rfl, A2, n2, c2, rfl, ?_, ?_, hb4⟩
    · rw [HN2.out, ej, HD.out]
    · have := HO2.out
      rw [ej] at this
      rw [HD.out]
      exact this.more (by simp; omega)
end Go.Proofs.Ytnlkljmboifnkaa

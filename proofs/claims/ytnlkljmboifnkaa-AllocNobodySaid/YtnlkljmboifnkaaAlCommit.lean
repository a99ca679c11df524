/- Commit on an alloc. No conditions but those that stand in each lemma. -/
import Derived.Test.YtnlkljmboifnkaaAlLater
namespace Go.Proofs.Ytnlkljmboifnkaa
open Go.RowKit Go.Maps

theorem addL_len (l : List Sp) (t : Sp) : (Spans.addL l t).length ≤ l.length + 1 := by
  unfold Spans.addL
  split
  · rename_i h
    obtain ⟨hv, hs⟩ := (Spans.fitB_iff l t).1 h
    have := Spans.counts l t hv hs
    unfold Spans.addV
    simp only [List.length_append, List.length_cons]
    omega
  · omega
/-- What is free when the first i of those that wait are given back. -/
def alBack (s : AlS) (i : Nat) : List Sp := (s.waits.take i).foldl Spans.addL s.free
theorem alBack_len (s : AlS) : ∀ i, (alBack s i).length ≤ s.free.length + i
  | 0 => by simp [alBack]
  | i + 1 => by
    unfold alBack
    rcases Nat.lt_or_ge i s.waits.length with h | h
    · rw [List.take_succ_eq_append_getElem h, List.foldl_append]
      have h1 := alBack_len s i
      have h2 := addL_len (alBack s i) s.waits[i]
      unfold alBack at h1 h2
      simp only [List.foldl_cons, List.foldl_nil]
      omega
    · rw [List.take_of_length_le (by omega), ← List.take_of_length_le h]
      have := alBack_len s i
      unfold alBack at this
      omega
theorem alBack_next (s : AlS) (i : Nat) (h : i < s.waits.length) : alBack s (i + 1) = Spans.addL (alBack s i) ((s.waits.getD i spZ).1, (s.waits.getD i spZ).2) := by
  unfold alBack
  rw [List.take_succ_eq_append_getElem h, List.foldl_append, List.getD_eq_getElem?_getD, List.getElem?_eq_getElem h]
  rfl
/-- Behind a Commit. -/
def alCommitted (s : AlS) : AlS := { s with free := s.waits.foldl Spans.addL s.free, settled := s.waits.foldl Spans.addL s.free, waits := [], ep := s.ep + 1 }
theorem AlAt.setEp {w : World} {p m k : Nat} {s : AlS} {F S : SlV} (h : AlAt w p m k s F S none) (e : Int) : AlAt (w.setCell ⟨p, 3, none⟩ (.int .i64 e)) p m k { s with ep := e } F S none := by
  have ho : AlOth p m w (w.setCell ⟨p, 3, none⟩ (.int .i64 e)) := .set 3 _
  exact ⟨h.obj.set 3 _, h.map.setCell (a := ⟨p, 3, none⟩) (fun e => h.pm e.symm) _, h.free.oth h ho, h.settled.oth h ho, h.waits, fun b hb => Nat.lt_of_lt_of_le (h.away.1 b hb) ho.size, h.away.2⟩

/-- At a round's head of the way over the map. -/
def AlGone (w0 : World) (p m r k : Nat) (s : AlS) (S : SlV) (o : Option SlV) (wr : World) : Prop :=
  ∃ s' o' F' left cnt, AlAt wr p m k s' F' S o' ∧ wr.ranges Try.prog 3 slR m r k (alD s.ep o') left cnt ∧
    (((∀ z, left z = has (alD s.ep o') z) ∧ s' = s ∧ o' = o) ∨ ((∀ z, left z = false) ∧ s' = { s with free := alBack s s.waits.length, waits := [] } ∧ o' = none)) ∧ AlOth p m w0 wr
/-- .. of the way over what waits: i are given back. -/
def AlBacked (w0 : World) (p m r k : Nat) (s : AlS) (S : SlV) (o : Option SlV) (left : Lit → Bool) (cnt : Nat) (i : Nat) (wr : World) : Prop :=
  ∃ F', AlAt wr p m k { s with free := alBack s i } F' S o ∧ wr.ranges Try.prog 3 slR m r k (alD s.ep o) left cnt ∧ AlOth p m w0 wr

theorem AlOth.new {p m r : Nat} {a b c : World} (h : AlOth p m a b) (hg : b.grownBy c (some r)) (hr : a.heap.size ≤ r) : AlOth p m a c :=
  ⟨hg.os.trans h.os, hg.tape.trans h.tape, hg.output.trans h.output, Nat.le_trans h.size hg.size, fun i hi h1 h2 => (hg.block i (Nat.lt_of_lt_of_le hi h.size) (by intro e; injection e with e; omega)).trans (h.block i hi h1 h2)⟩
theorem AlAt.iter {w w' : World} {p m k r : Nat} {s : AlS} {F S : SlV} {o : Option SlV} {D : DataW SlV} {left : Lit → Bool} {cnt : Nat} (h : AlAt w p m k s F S o) (hrg : w.ranges Try.prog 3 slR m r k D left cnt) (hg : w.grownBy w' (some r)) : AlAt w' p m k s F S o := by
  obtain ⟨es, clock, since, seen, c0, _, _, _, _, hit, _⟩ := hrg
  have hc : ∀ b, CellsT w 23 b → b ≠ r := by
    rintro b ⟨_, _, hb⟩ rfl
    rw [hb] at hit
    cases hit
  have hk : ∀ b, b < w.heap.size → CellsT w 23 b → w'.heap[b]? = w.heap[b]? := fun b hb h1 => hg.block b hb (by intro e; injection e with e; exact hc b h1 e)
  have hx : ∀ (x : SlV) l, SpX w x l → SpX w' x l := fun x l h => ⟨h.len, h.cap, h.most, h.at_.keepIf hg.size hk⟩
  have hp : p ≠ r := by
    rintro rfl
    have := h.obj
    unfold Row at this
    rw [this] at hit
    cases hit
  have hm : m ≠ r := by
    rintro rfl
    obtain ⟨es, clock, hb, _⟩ := h.map
    rw [hb] at hit
    cases hit
  exact ⟨(hg.block p h.ltP (by intro e; injection e with e; exact hp e)).trans h.obj, h.map.kept hg (by intro e; injection e with e; exact hm e), hx _ _ h.free, hx _ _ h.settled, h.waits.keepIf fun y hy => hx y _ hy, fun b hb => Nat.lt_of_lt_of_le (h.away.1 b hb) hg.size, h.away.2⟩
theorem AlAt.deleted {w w' : World} {p m k : Nat} {s : AlS} {F S : SlV} {o : Option SlV} (h : AlAt w p m k s F S o) (hm : w'.ownsMap Try.prog 3 slR m k (.map [])) (ht : w.mapTurned w' m) : AlAt w' p m k { s with waits := [] } F S none := by
  have hg := ht.grown
  have ho : AlOth p m w w' := .grown hg (.inr rfl)
  exact ⟨(hg.block p h.ltP (by intro e; injection e with e; exact h.pm e)).trans h.obj, hm, h.free.oth h ho, h.settled.oth h ho, rfl, fun b hb => Nat.lt_of_lt_of_le (h.away.1 b hb) ho.size, h.away.2.1, h.away.2.2.1, .nil⟩

set_option maxRecDepth 100000 in
set_option maxHeartbeats 4000000 in
theorem commit_any {w : World} {p m k : Nat} {s : AlS} {F S : SlV} {o : Option SlV} (h : AlAt w p m k s F S o) (hok : AlOk s) :
    Calls Try.prog 8 #[.pointer (some ⟨p, 0, none⟩)] w fun e w' => e = .returned (.tuple #[]) ∧ AlOth p m w w' ∧ Al w' p m k (alCommitted s) := by
  have c6 := h.c6
  have HA := Lib.hid h
  have HO := Lib.hid hok
  have hmlt := h.ltM
  have hplt := h.ltP
  have hpm := h.pm
  have hwf : (Lit.int .i64 s.ep).wf = true := WalkArith.wf_i64 (by have := hok.ep0; have := hok.ep1; omega)
  have HKEY := Lib.hid (keyOf_int_mk (P := Try.prog) Try.underlying3 hwf)
  have HCM : Hid (alCommitted s = { s with free := alBack s s.waits.length, settled := alBack s s.waits.length, waits := [], ep := s.ep + 1 }) := Lib.hid (by unfold alCommitted alBack; rw [List.take_of_length_le (Nat.le_refl _)])
  generalize alCommitted s = sc at *
  clear h hok hwf
  go_enter Try.func8, Try.ntmps8
  go_wp2_with fail
  refine (alloc_made HA.out).mono ?_
  rintro e w1 ⟨rfl, rfl⟩
  go_wp2_with (at_range; refine wpList_range_own _ rfl _ 26 rfl 3 25 alKeyed Try.underlying26 slR m k (alD s.ep o) rfl HA.out.map ?_; intro w3 hrg hg3 hs3)
  go_frame
  have hb3 : Below w1.heap.size w1 w3 := ⟨hg3.os, hg3.tape, hg3.output, hg3.size, fun j hj => hg3.block j hj (by simp)⟩
  have start : AlGone w1 p m w1.heap.size k s S o w3 := ⟨s, o, F, _, _, HA.out.keep hb3, hrg, .inl ⟨fun _ => rfl, rfl, rfl⟩, .grow hb3⟩
  clear hrg hg3 hs3 hb3 c6
  generalize hr : w1.heap.size = r at *
  go_loopw [2, 3, 5, 21] (fun _ _ _ _ wr => AlGone w1 p m r k s S o wr) (fun _ _ _ _ wr => wr.rangeLeft m r)
  case atStart => exact start
  case round =>
    clear start
    obtain ⟨s1, o1, F1, left, cnt, hA, hrg, hst, ho1⟩ := hrel
    have Hst := Lib.hid hst
    have hrl := hrg.left_eq
    have HO1 := Lib.hid ho1
    have HA1 := Lib.hid hA
    clear hst ho1 hA
    go_wp2_with (at_next; refine wpList_next_al rfl _ rfl rfl hrg (Hst.out.imp And.left And.left) ?_ ?_)
    · intro hd
      obtain ⟨hs1, rfl⟩ : s1 = { s with free := alBack s s.waits.length, waits := [] } ∧ o1 = none := by
        rcases Hst.out with ⟨h1, h2, h3⟩ | ⟨_, h2⟩
        · have hn : o1 = none := hd.elim id (fun h => alD_none (fun z => by rw [← h1 z]; exact h z))
          refine ⟨?_, hn⟩
          subst hn; subst h2
          have hw0 : s1.waits = [] := HA1.out.waits
          cases s1
          simp only at hw0
          subst hw0
          rfl
        · exact h2
      have h0 := HA1.out
      rw [hs1] at h0
      have h2 := h0.setSettled h0.free h0.away.2.1
      have h3 := h2.setEp (s.ep + 1)
      have c4 := h0.c4
      have c5 := h0.c5
      have f5 := h0.obj.free 5
      have d3 := h2.c3
      have f3 := h2.obj.free 3
      have hep0 := HO.out.ep0
      have hep1 := HO.out.ep1
      have H3 := Lib.hid h3
      have HO3 := Lib.hid ((HO1.out.trans (.set (a := wr) 5 (.slice F1.1 F1.2.1 F1.2.2))).trans (.set 3 (.int .i64 (s.ep + 1))))
      clear h0 h2 h3 hs1 Hst hrg hd
      go_wp2_with fail
      go_end0
      exact ⟨rfl, HO3.out, by rw [HCM.out]; exact ⟨_, _, _, H3.out⟩⟩
    · intro A nA cA w4 left1 cnt1 ho hl hrg1 hl1 hlt hgr hsz hen
      obtain ⟨rfl, rfl⟩ : s1 = s ∧ o1 = o := by
        rcases Hst.out with ⟨_, h2, h3⟩ | ⟨h, _⟩
        · exact ⟨h2, h3⟩
        · exfalso
          have := hl (.int .i64 s.ep)
          subst ho
          rw [h, alD_has, alKey_self] at this
          cases this
      subst ho
      have hrlt := hrg.lt
      have h4 := HA1.out.iter hrg hgr
      have HNE := Lib.hid (show r ≠ m ∧ p ≠ r from ⟨hrg.ne, by omega⟩)
      have ho4 := HO1.out.new hgr (by omega)
      have hnA : nA = s1.waits.length := HA1.out.waits.len
      have HNA := Lib.hid hnA
      clear hnA
      have HNF := Lib.hid HO.out.nf
      have HNW := Lib.hid HO.out.nw
      have startB : AlBacked w1 p m r k s1 S (some (A, nA, cA)) left1 cnt1 0 w4 := ⟨F1, h4, hrg1, ho4⟩
      have HL1 := Lib.hid hl1
      have hl4 := hrg1.left_eq
      clear hgr hrg1 h4 ho4 hl1 hrg hl HA1 Hst HO1 HA
      go_wp2_with fail
      go_loopw [5, 21] (fun _ j wx => ∃ i : Nat, j = .int .i64 i ∧ i ≤ nA ∧ AlBacked w1 p m r k s1 S (some (A, nA, cA)) left1 cnt1 i wx) (fun _ j _ => nA - (intOf j).toNat)
      case atStart => exact ⟨0, rfl, Nat.zero_le _, startB⟩
      case round =>
        clear startB
        obtain ⟨i, rfl, hi, F2, hA, hrg, ho⟩ := hrel
        have HO2 := Lib.hid ho
        have HA2 := Lib.hid hA
        have hplt2 := hA.ltP
        have hblen := alBack_len s1 i
        have hnf := HNF.out
        have hnw := HNW.out
        clear ho hA hen
        by_cases hlt2 : i < nA
        · have hnA := HNA.out
          have hX : SpX wr (A, nA, cA) s1.waits := HA2.out.waits
          obtain ⟨b, oo, hAe, hbl, hcell⟩ := hX.at_.src (by omega)
          have hAe' : A = some ⟨b, oo, none⟩ := hAe
          clear hAe hX
          have c0 := (hcell i (by omega)).1
          have c1 := (hcell i (by omega)).2
          have HNX := Lib.hid (alBack_next s1 i (by omega))
          have hnw2 : nA ≤ 40000 := by omega
          clear hcell hnA
          generalize (s1.waits.getD i spZ).1 = u at *
          generalize (s1.waits.getD i spZ).2 = v at *
          subst hAe'
          have hb5 : Below wr.heap.size wr (wr.alloc (.cells #[.int .i64 u, .int .i64 v] 23)) := (Below.refl _ _).alloc (Nat.le_refl _) _
          have HA5 := Lib.hid (HA2.out.keep hb5)
          have HR5 := Lib.hid (Row.new wr 23 #[.int .i64 u, .int .i64 v])
          have RG5 := Lib.hid (hrg.alloc (.cells #[.int .i64 u, .int .i64 v] 23))
          have HO5 := Lib.hid (HO2.out.then hb5)
          have c4 := cells_above HA5.out.obj.drew (j := 4) (v := .slice F2.1 F2.2.1 F2.2.2) rfl
          have hbs := hb5.size
          clear hrg hb5 HA2
          go_wp2_with fail
          refine wp_region_segsT 9 [([0, 1, 2, 3, 4, 5], 6)] [7, 8] (by kernel_rfl) (by kernel_rfl) ⟨by kernel_rfl, by decide⟩ (by kernel_rfl) (by kernel_rfl) (fun _ _ d _ _ h => by cases d <;> exact h) ?_
          refine wpSegsT_next (by simp [pickOps]; rfl) ?_
          repeat (go_big_quiet_step (fail))
          obtain ⟨fs, hfs⟩ := Try.alStruct
          refine wpQuiet_load_cells rfl 23 (.tmp 5) rfl wr.heap.size 0 rfl #[.int .i64 u, .int .i64 v] _ HR5.out.drew.cells HR5.out.lt hfs rfl Try.alSize ?_
          refine wpQuiet_nil ?_
          refine wpOp_alone rfl rfl (fun K hK => ?_)
          go_simp
          have HA6 := HA5.out.keep (Below.refl _ _).drew
          refine (add_any F2.1 F2.2.1 F2.2.2 (alBack s1 i) u v _ HA6.free.len HA6.free.at_.src (by have h2 : F2.2.1 = (alBack s1 i).length := HA6.free.len; omega) HA6.free.cap HA6.free.most).mono ?_
          intro e w6 hg
          obtain ⟨z, rfl, hb4, hfr, hA4, hx4, _, ho5⟩ := alStored HA6 hg
          have lc4 := hA4.c4
          have HA7 := Lib.hid (hA4.setFree hx4.1 hx4.2)
          have HO7 := Lib.hid (HO5.out.trans ((AlOth.drew _).trans ho5))
          have hb46 : Below (wr.alloc (.cells #[.int .i64 u, .int .i64 v] 23)).heap.size (wr.alloc (.cells #[.int .i64 u, .int .i64 v] 23)) w6 := (Below.refl _ _).drew.trans hb4
          have RG6 := RG5.out.kept (row := none) ⟨hb46.os, hb46.tape, hb46.output, hb46.size, fun j hj _ => hb46.block j hj⟩ (by simp) (by simp)
          have RG7 := Lib.hid (RG6.kept (w' := w6.setCell ⟨p, 4, none⟩ (.slice z.1 z.2.1 z.2.2)) (row := some p) ⟨rfl, rfl, rfl, by simp, fun j _ hj => heap_setCell_other w6 ⟨p, 4, none⟩ j _ (by intro e; exact hj (by rw [e]))⟩ (by intro e; injection e with e; exact hpm e.symm) (by intro e; injection e with e; exact HNE.out.2 e.symm))
          refine hK _ _ ⟨hb4, ?_⟩
          clear hK K hb4 c4 hA4 hx4 ho5 hg HA6 RG6 hb46 RG5 HA5 HR5 HO5
          refine wpSegsT_last (by simp [pickOps]; rfl) ?_
          repeat (go_big_quiet_step (fail))
          refine wpQuiet_nil ?_
          refine wpOp_alone rfl rfl (fun K hK => ?_)
          go_simp
          refine hK _ _ ?_
          clear hK K
          go_wp2_with fail
          go_roundw
          case rel => exact ⟨i + 1, by go_num, by omega, z, by rw [HNX.out]; exact HA7.out, RG7.out, HO7.out⟩
          case measure => simp [intOf]; omega
        · obtain rfl : i = nA := by omega
          have c6 := HA2.out.c6
          go_wp2_with (at_delete; refine wpList_delete_ranges _ rfl (.tmp 38) (.tmp 39) 26 3 rfl 25 alKeyed Try.underlying26 slR m r k _ _ _ rfl hrg (.int .i64 s1.ep) (.int .i64 s1.ep) rfl HKEY.out ?_; intro w8 cnt2 rg8 hle hturn)
          simp only [Act.put]
          rw [alD_del] at rg8
          have hrn : w8.rangeLeft m r = cnt2 := rg8.left_eq
          have hA8 := HA2.out.deleted rg8.owns hturn
          rw [HNA.out] at hA8
          go_roundw
          case rel => exact ⟨_, none, F2, _, cnt2, hA8, rg8, .inr ⟨fun z => by rw [HL1.out]; rfl, rfl, rfl⟩, HO2.out.trans (.grown hturn.grown (.inr rfl))⟩
          case measure => omega
end Go.Proofs.Ytnlkljmboifnkaa

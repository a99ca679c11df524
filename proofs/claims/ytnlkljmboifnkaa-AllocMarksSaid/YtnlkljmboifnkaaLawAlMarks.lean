/- AllocMarks: its walk, for any numbers. No conditions but those that stand in each lemma. -/
import Derived.Test.YtnlkljmboifnkaaAlPlay
namespace Go.Proofs.Ytnlkljmboifnkaa
open Go.RowKit Go.Maps

/-- Two allocs apart from each other, in memory that was made behind world w0. -/
structure Two (w0 w : World) (p1 m1 k1 : Nat) (s1 : AlS) (p2 m2 k2 : Nat) (s2 : AlS) : Prop where
  a : Al w p1 m1 k1 s1
  b : Al w p2 m2 k2 s2
  kept : Below w0.heap.size w0 w
  q1 : w0.heap.size ≤ p1
  q2 : w0.heap.size ≤ m1
  q3 : w0.heap.size ≤ p2
  q4 : w0.heap.size ≤ m2
  np : p1 ≠ p2
  nm : m1 ≠ m2
section
variable {w0 w w' : World} {p1 m1 k1 p2 m2 k2 k' : Nat} {s1 s2 s' : AlS}
theorem Two.grow (h : Two w0 w p1 m1 k1 s1 p2 m2 k2 s2) (hb : Below w.heap.size w w') : Two w0 w' p1 m1 k1 s1 p2 m2 k2 s2 :=
  ⟨h.a.keep hb, h.b.keep hb, h.kept.trans (hb.mono h.kept.size), h.q1, h.q2, h.q3, h.q4, h.np, h.nm⟩
theorem Two.one (h : Two w0 w p1 m1 k1 s1 p2 m2 k2 s2) (ho : AlOth p1 m1 w w') (hA : Al w' p1 m1 k' s') : Two w0 w' p1 m1 k' s' p2 m2 k2 s2 :=
  ⟨hA, h.b.other h.a ho (Ne.symm h.np) (Ne.symm h.nm), h.kept.trans (ho.below h.q1 h.q2 h.kept.size), h.q1, h.q2, h.q3, h.q4, h.np, h.nm⟩
theorem Two.two (h : Two w0 w p1 m1 k1 s1 p2 m2 k2 s2) (ho : AlOth p2 m2 w w') (hB : Al w' p2 m2 k' s') : Two w0 w' p1 m1 k1 s1 p2 m2 k' s' :=
  ⟨h.a.other h.b ho h.np h.nm, hB, h.kept.trans (ho.below h.q3 h.q4 h.kept.size), h.q1, h.q2, h.q3, h.q4, h.np, h.nm⟩
end
theorem good_ok0 {s : AlS} (h : AlGood s) (he : s.ep = 0) : AlOk s := h.ok (by omega)
theorem undone_back {s s0 : AlS} (h : SameBounds s0 s) : alUndone s s0 = s0 := by
  obtain ⟨h1, h2, h3, h4, h5⟩ := h
  unfold alUndone
  cases s; cases s0
  simp only at h1 h2 h3 h4 h5
  subst h1; subst h2; subst h3; subst h4; subst h5
  rfl
/-- At a round's head: the first k are alike. -/
def AlikeAt (w : World) (l : List Sp) (i : Value) (wr : World) : Prop := ∃ k : Nat, k ≤ l.length ∧ i = .int .i64 (k : Int) ∧ Below w.heap.size w wr

set_option maxRecDepth 100000 in
set_option maxHeartbeats 16000000 in
theorem marks_any (a : Int) (A1 : Option Addr) (n1 c1 : Nat) (z1 : List Int) (A2 : Option Addr) (n2 c2 : Nat) (z2 : List Int) (w : World)
    (hn1 : n1 = z1.length) (hz1 : NumSrc w A1 z1) (hc1 : n1 ≤ c1) (hm1 : c1 ≤ maxLen) (hn2 : n2 = z2.length) (hz2 : NumSrc w A2 z2) (hc2 : n2 ≤ c2) (hm2 : c2 ≤ maxLen) :
    Calls Try.prog 5 #[.int .i64 a, .slice A1 n1 c1, .slice A2 n2 c2] w fun e w' => e = .returned (.bool true) ∧ Below w.heap.size w w' := by
  have hN := mask_and a 63 (by omega)
  rw [show ((63 : Nat) : Int) = 63 from rfl] at hN
  obtain ⟨q, hq⟩ : ∃ q, bits .and .i64 a 63 = q := ⟨_, rfl⟩
  rw [hq] at hN
  obtain ⟨hq0, hq1⟩ := hN
  -- what the two slices are worth, for any alloc
  have HP1 : ∀ (wx : World) (p m k : Nat) (s : AlS), Al wx p m k s → AlGood s → s.ep = 0 → k ≤ 100000 → w.heap.size ≤ p → w.heap.size ≤ m → Below w.heap.size w wx →
      Calls Try.prog 18 #[.pointer (some ⟨p, 0, none⟩), .slice A1 n1 c1] wx fun e w' => e = .returned (.tuple #[]) ∧ AlOth p m wx w' ∧ Al w' p m (k + 40) (playS s z1) :=
    fun wx p m k s hA hg he hk hp hm hb => play_any w wx hA hg (by omega) hk hp hm hb A1 n1 c1 z1 hn1 hz1 hc1 hm1
  have HP2 : ∀ (wx : World) (p m k : Nat) (s : AlS), Al wx p m k s → AlGood s → s.ep = 0 → k ≤ 100000 → w.heap.size ≤ p → w.heap.size ≤ m → Below w.heap.size w wx →
      Calls Try.prog 18 #[.pointer (some ⟨p, 0, none⟩), .slice A2 n2 c2] wx fun e w' => e = .returned (.tuple #[]) ∧ AlOth p m wx w' ∧ Al w' p m (k + 40) (playS s z2) :=
    fun wx p m k s hA hg he hk hp hm hb => play_any w wx hA hg (by omega) hk hp hm hb A2 n2 c2 z2 hn2 hz2 hc2 hm2
  replace HP1 := Lib.hid HP1
  replace HP2 := Lib.hid HP2
  -- the states
  have HG0 := Lib.hid (new_good (lo := 2) (hi := 2 + (8 + q)) (res := 0) (by omega) (by omega) (by omega) (by omega) (by omega)).1
  have HB0 : Hid (SameBounds (alNew 2 (2 + (8 + q)) 0) (alNew 2 (2 + (8 + q)) 0)) := Lib.hid (.refl _)
  have HE0 : Hid ((alNew 2 (2 + (8 + q)) 0).lo = 2 ∧ (alNew 2 (2 + (8 + q)) 0).hi = 2 + (8 + q) ∧ (alNew 2 (2 + (8 + q)) 0).ep = 0) := Lib.hid ⟨rfl, rfl, rfl⟩
  have HN0 : ∀ wx, Calls Try.prog 17 #[.int .i64 2, .int .i64 (2 + (8 + q)), .int .i64 0] wx fun e w' => ∃ p m, e = .returned (.tuple #[.pointer (some ⟨p, 0, none⟩), .int .i64 0]) ∧ wx.heap.size ≤ p ∧ wx.heap.size ≤ m ∧ Below wx.heap.size wx w' ∧ Al w' p m 0 (alNew 2 (2 + (8 + q)) 0) :=
    fun wx => new_alloc wx 2 (2 + (8 + q)) 0 (by omega) (by omega) (by omega) (by omega) (by omega)
  replace HN0 := Lib.hid HN0
  generalize alNew 2 (2 + (8 + q)) 0 = s0 at *
  have h1 := playAt_ok HG0.out z1 40
  have HG1 : Hid (AlGood (playS s0 z1)) := Lib.hid h1.1
  have HE1 : Hid ((playS s0 z1).lo = 2 ∧ (playS s0 z1).hi = 2 + (8 + q) ∧ (playS s0 z1).ep = 0) := Lib.hid ⟨h1.2.1.trans HE0.out.1, h1.2.2.1.trans HE0.out.2.1, h1.2.2.2.2.1.trans HE0.out.2.2⟩
  clear h1 hn1 hz1 hc1 hm1 hn2 hz2 hc2 hm2 HB0
  go_enter Try.func5, Try.ntmps5
  go_wp2_with fail
  refine (HN0.out _).mono ?_
  rintro e v1 ⟨p1, m1, rfl, hp1, hm1, hb1, hA1⟩
  go_wp2_with fail
  refine (HN0.out _).mono ?_
  rintro e v2 ⟨p2, m2, rfl, hp2, hm2, hb2, hA2⟩
  have HT : Hid (Two w v2 p1 m1 0 s0 p2 m2 0 s0) := by
    have hz := hb1.size
    obtain ⟨F, S, o, hA1⟩ := hA1
    have h3 := hA1.ltP
    have h4 := hA1.ltM
    exact Lib.hid ⟨⟨F, S, o, hA1.keep hb2⟩, hA2, hb1.trans (hb2.mono hz), hp1, hm1, by omega, by omega, by omega, by omega⟩
  clear hp1 hm1 hb1 hA1 hp2 hm2 hb2 hA2 HN0
  go_wp2_with fail
  refine (HP1.out _ p1 m1 0 s0 HT.out.a HG0.out HE0.out.2.2 (by omega) HT.out.q1 HT.out.q2 HT.out.kept).mono ?_
  rintro e v3 ⟨rfl, ho, hA⟩
  replace HT := Lib.hid (HT.out.one ho hA)
  clear ho hA
  go_wp2_with fail
  refine (HP1.out _ p2 m2 0 s0 HT.out.b HG0.out HE0.out.2.2 (by omega) HT.out.q3 HT.out.q4 HT.out.kept).mono ?_
  rintro e v4 ⟨rfl, ho, hA⟩
  replace HT := Lib.hid (HT.out.two ho hA)
  clear ho hA HG0 HE0
  generalize playS s0 z1 = s1 at *
  have HMK : Hid (Calls Try.prog 19 #[.pointer (some ⟨p1, 0, none⟩)] v4 fun e w' => ∃ q, e = .returned (.agg (markV p1 q)) ∧ Below v4.heap.size v4 w' ∧ MarkAt w' q s1) := by
    obtain ⟨F, S, o, h⟩ := HT.out.a
    exact Lib.hid (mark_any h (good_ok0 HG1.out HE1.out.2.2))
  go_wp2_with fail
  refine HMK.out.mono ?_
  rintro e v5 ⟨g, rfl, hb, hM⟩
  replace HT := Lib.hid (HT.out.grow hb)
  have HM := Lib.hid hM
  clear hb hM HMK
  unfold markV
  have hbm : Below v5.heap.size v5 (v5.alloc (.cells (markV p1 g) 44)) := (Below.refl _ _).alloc (Nat.le_refl _) _
  have HT6 := Lib.hid (HT.out.grow hbm)
  have HM6 := Lib.hid (HM.out.keep hbm)
  have HR6 := Lib.hid (Row.new v5 44 (markV p1 g))
  have HQ6 : Hid (p1 < v5.heap.size ∧ m1 < v5.heap.size) := by
    obtain ⟨F, S, o, h⟩ := HT.out.a
    exact Lib.hid ⟨h.ltP, h.ltM⟩
  clear hbm HT HM
  unfold markV at HT6 HM6 HR6
  -- the second numbers, on the first alloc
  have h2 := playAt_ok HG1.out z2 40
  have HG2 : Hid (AlGood (playS s1 z2) ∧ SameBounds s1 (playS s1 z2)) := Lib.hid h2
  clear h2
  go_wp2_with fail
  refine (HP2.out _ p1 m1 40 s1 HT6.out.a HG1.out HE1.out.2.2 (by omega) HT6.out.q1 HT6.out.q2 HT6.out.kept).mono ?_
  rintro e v7 ⟨rfl, ho, hA⟩
  generalize hv6 : v5.alloc (.cells #[.pointer (some ⟨p1, 0, none⟩), .pointer (some ⟨g, 0, none⟩)] 44) = v6 at *
  have HR7 : Hid (Row v7 v5.heap.size 44 (markV p1 g)) := by
    have h3 := HR6.out
    have h4 := HQ6.out
    exact Lib.hid ((ho.block v5.heap.size h3.lt (by omega) (by omega)).trans h3)
  have HM7 : Hid (MarkAt v7 g s1) := by
    obtain ⟨F, S, o, h⟩ := HT6.out.a
    exact Lib.hid (HM6.out.oth h ho)
  have HT7 := Lib.hid (HT6.out.one ho hA)
  generalize playS s1 z2 = s2 at *
  have HUN : Hid (Calls Try.prog 20 #[.pointer (some ⟨p1, 0, none⟩), .agg #[.pointer (some ⟨p1, 0, none⟩), .pointer (some ⟨g, 0, none⟩)]] v7 fun e w' => e = .returned (.tuple #[]) ∧ AlOth p1 m1 v7 w' ∧ Al w' p1 m1 81 s1) := by
    obtain ⟨F, S, o, h⟩ := HT7.out.a
    have h5 := undo_any h (good_ok0 HG2.out.1 (HG2.out.2.2.2.2.1.trans HE1.out.2.2)) (by omega) HM7.out HG2.out.2.2.2.2.1.symm HG2.out.2.2.2.2.2.symm
    rw [undone_back HG2.out.2] at h5
    exact Lib.hid h5
  have e0 := HR7.out.cell (j := 0) (v := .pointer (some ⟨p1, 0, none⟩)) rfl
  have e1 := HR7.out.cell (j := 1) (v := .pointer (some ⟨g, 0, none⟩)) rfl
  have hgl := HR7.out.lt
  clear ho hA HT6 HM6 HR6 HM7 HR7 HG2 HP2 HQ6 hv6
  go_wp2_with fail
  refine HUN.out.mono ?_
  rintro e v8 ⟨rfl, ho, hA⟩
  have HT8 := Lib.hid (HT7.out.one ho hA)
  clear ho hA HUN HT7 e0 e1 hgl
  have HUP : Hid (Calls Try.prog 20 #[.pointer (some ⟨p1, 0, none⟩), .agg #[.pointer none, .pointer none]] v8 fun e w' => e = .returned (.tuple #[]) ∧ Below v8.heap.size v8 w') := by
    obtain ⟨F, S, o, h⟩ := HT8.out.a
    exact Lib.hid (undo_plain h)
  go_wp2_with fail
  refine HUP.out.mono ?_
  rintro e v9 ⟨rfl, hb⟩
  have HT9 := Lib.hid (HT8.out.grow hb)
  clear hb HUP HT8
  have HF1 : ∀ (wx : World) (p m k : Nat), Al wx p m k s1 → Calls Try.prog 13 #[.pointer (some ⟨p, 0, none⟩)] wx fun e w' => e = .returned (.int .i64 (Spans.totalL s1.free)) ∧ Below wx.heap.size wx w' := fun wx p m k ⟨F, S, o, h⟩ => alloc_free h (good_ok0 HG1.out HE1.out.2.2)
  have HW1 : ∀ (wx : World) (p m k : Nat), Al wx p m k s1 → Calls Try.prog 14 #[.pointer (some ⟨p, 0, none⟩)] wx fun e w' => e = .returned (.int .i64 (Spans.totalL s1.waits)) ∧ Below wx.heap.size wx w' := fun wx p m k ⟨F, S, o, h⟩ => alloc_waiting h (good_ok0 HG1.out HE1.out.2.2)
  have HU1 : ∀ (wx : World) (p m k : Nat), Al wx p m k s1 → Calls Try.prog 15 #[.pointer (some ⟨p, 0, none⟩)] wx fun e w' => e = .returned (.int .i64 (2 + (8 + q) - 2 - Spans.totalL s1.free - Spans.totalL s1.waits)) ∧ Below wx.heap.size wx w' := fun wx p m k ⟨F, S, o, h⟩ => by
    have h6 := alloc_used h (good_ok0 HG1.out HE1.out.2.2)
    rw [HE1.out.1, HE1.out.2.1] at h6
    exact h6
  replace HF1 := Lib.hid HF1
  replace HW1 := Lib.hid HW1
  replace HU1 := Lib.hid HU1
  have hbt := Spans.total_bounds (l := s1.free)
  have hbw := Spans.total_bounds (l := s1.waits)
  generalize Spans.totalL s1.free = T at *
  generalize Spans.totalL s1.waits = W at *
  obtain ⟨hbt0, hbt1⟩ := hbt
  obtain ⟨hbw0, hbw1⟩ := hbw
  obtain ⟨U, hU⟩ : ∃ U, 2 + (8 + q) - 2 - T - W = U := ⟨_, rfl⟩
  rw [hU] at HU1
  have hU1 : T + W + U = 8 + q := by omega
  have hn1 : (T != T) = false := by simp
  have hn2 : (W != W) = false := by simp
  have hn3 : (U != U) = false := by simp
  go_wp2_with fail
  refine (HF1.out _ p1 m1 _ HT9.out.a).mono ?_
  rintro e vn ⟨rfl, hb⟩
  replace HT9 := Lib.hid (HT9.out.grow hb)
  clear hb
  go_wp2_with fail
  refine (HF1.out _ p2 m2 _ HT9.out.b).mono ?_
  rintro e vn ⟨rfl, hb⟩
  replace HT9 := Lib.hid (HT9.out.grow hb)
  clear hb
  go_wp2_with fail
  refine (HW1.out _ p1 m1 _ HT9.out.a).mono ?_
  rintro e vn ⟨rfl, hb⟩
  replace HT9 := Lib.hid (HT9.out.grow hb)
  clear hb
  go_wp2_with fail
  refine (HW1.out _ p2 m2 _ HT9.out.b).mono ?_
  rintro e vn ⟨rfl, hb⟩
  replace HT9 := Lib.hid (HT9.out.grow hb)
  clear hb
  go_wp2_with fail
  refine (HU1.out _ p1 m1 _ HT9.out.a).mono ?_
  rintro e vn ⟨rfl, hb⟩
  replace HT9 := Lib.hid (HT9.out.grow hb)
  clear hb
  go_wp2_with fail
  refine (HU1.out _ p2 m2 _ HT9.out.b).mono ?_
  rintro e vn ⟨rfl, hb⟩
  replace HT9 := Lib.hid (HT9.out.grow hb)
  clear hb
  go_wp2_with fail
  refine (HF1.out _ p1 m1 _ HT9.out.a).mono ?_
  rintro e vn ⟨rfl, hb⟩
  replace HT9 := Lib.hid (HT9.out.grow hb)
  clear hb
  go_wp2_with fail
  refine (HW1.out _ p1 m1 _ HT9.out.a).mono ?_
  rintro e vn ⟨rfl, hb⟩
  replace HT9 := Lib.hid (HT9.out.grow hb)
  clear hb
  go_wp2_with fail
  refine (HU1.out _ p1 m1 _ HT9.out.a).mono ?_
  rintro e vn ⟨rfl, hb⟩
  replace HT9 := Lib.hid (HT9.out.grow hb)
  clear hb
  go_wp2_with fail
  have h3 := playAt_ok HG1.out z1 40
  have HG3 : Hid (AlGood (playS s1 z1)) := Lib.hid h3.1
  have HE3 : Hid ((playS s1 z1).ep = 0) := Lib.hid (h3.2.2.2.2.1.trans HE1.out.2.2)
  clear h3 HF1 HW1 HU1 hbt0 hbt1 hbw0 hbw1 hU hU1 hn1 hn2 hn3
  refine (HP1.out _ p1 m1 81 s1 HT9.out.a HG1.out HE1.out.2.2 (by omega) HT9.out.q1 HT9.out.q2 HT9.out.kept).mono ?_
  rintro e v10 ⟨rfl, ho, hA⟩
  replace HT9 := Lib.hid (HT9.out.one ho hA)
  clear ho hA
  go_wp2_with fail
  refine (HP1.out _ p2 m2 _ s1 HT9.out.b HG1.out HE1.out.2.2 (by omega) HT9.out.q3 HT9.out.q4 HT9.out.kept).mono ?_
  rintro e v11 ⟨rfl, ho, hA⟩
  replace HT9 := Lib.hid (HT9.out.two ho hA)
  clear ho hA HP1 HG1 HE1
  generalize playS s1 z1 = s3 at *
  have HCM : ∀ (wx : World) (p m k : Nat), Al wx p m k s3 → Calls Try.prog 8 #[.pointer (some ⟨p, 0, none⟩)] wx fun e w' => e = .returned (.tuple #[]) ∧ AlOth p m wx w' ∧ Al w' p m k (alCommitted s3) := fun wx p m k ⟨F, S, o, h⟩ => commit_any h (good_ok0 HG3.out HE3.out)
  have HOK4 : Hid (AlOk (alCommitted s3)) := Lib.hid (HG3.out.committed.ok (by show s3.ep + 1 ≤ _; have := HE3.out; omega))
  replace HCM := Lib.hid HCM
  generalize alCommitted s3 = s4 at *
  go_wp2_with fail
  refine (HCM.out _ p1 m1 _ HT9.out.a).mono ?_
  rintro e v12 ⟨rfl, ho, hA⟩
  replace HT9 := Lib.hid (HT9.out.one ho hA)
  clear ho hA
  go_wp2_with fail
  refine (HCM.out _ p2 m2 _ HT9.out.b).mono ?_
  rintro e v13 ⟨rfl, ho, hA⟩
  replace HT9 := Lib.hid (HT9.out.two ho hA)
  clear ho hA HCM
  have HSP : ∀ (wx : World) (p m k : Nat), Al wx p m k s4 → Calls Try.prog 16 #[.pointer (some ⟨p, 0, none⟩)] wx (GivesS wx 23 s4.free) := fun wx p m k ⟨F, S, o, h⟩ => alloc_spans h HOK4.out
  replace HSP := Lib.hid HSP
  have HNL := Lib.hid HOK4.out.nf
  go_wp2_with fail
  refine (HSP.out _ p1 m1 _ HT9.out.a).mono ?_
  intro e v14 hg
  obtain ⟨⟨X, nx, cx⟩, rfl, hx, hb, _⟩ := spx_of_gives hg
  have HX := Lib.hid hx
  replace HT9 := Lib.hid (HT9.out.grow hb)
  clear hg hx hb
  go_wp2_with fail
  refine (HSP.out _ p2 m2 _ HT9.out.b).mono ?_
  intro e v15 hg
  obtain ⟨⟨Y, ny, cy⟩, rfl, hy, hb, _⟩ := spx_of_gives hg
  replace HX := Lib.hid (HX.out.keep hb)
  have HY := Lib.hid hy
  replace HT9 := Lib.hid (HT9.out.grow hb)
  clear hg hy hb HSP
  have HSX := Lib.hid HX.out.at_.src
  have HSY := Lib.hid HY.out.at_.src
  have HLX : Hid (nx = s4.free.length) := Lib.hid HX.out.len
  obtain rfl : ny = nx := by
    have h8 : ny = s4.free.length := HY.out.len
    rw [h8, HLX.out]
  have hn4 : ((ny : Int) != (ny : Int)) = false := by simp
  have hny : ny ≤ 40000 := by rw [HLX.out]; exact HNL.out
  have HK9 := Lib.hid HT9.out.kept
  clear HX HY HT9 HOK4 HG3 HE3 HNL
  generalize s4.free = l at *
  go_wp2_with fail
  go_loopw [15] (fun i wr => AlikeAt v15 l i wr) (fun i _ => ny - (intOf i).toNat)
  case atStart => exact ⟨0, Nat.zero_le _, rfl, Below.refl _ _⟩
  case round =>
    obtain ⟨k, hk, rfl, hb⟩ := hrel
    have hb9 := HK9.out.trans (hb.mono HK9.out.size)
    by_cases hlt : k < l.length
    · obtain ⟨b, o, hA, hbl, hcell⟩ := HSX.out (by omega)
      obtain ⟨b', o', hA', hbl', hcell'⟩ := HSY.out (by omega)
      have hA : X = some ⟨b, o, none⟩ := hA
      have hA' : Y = some ⟨b', o', none⟩ := hA'
      subst hA
      subst hA'
      have hszr := hb.size
      have c0 : wr.cell? ⟨b, o + k * 2, none⟩ = some (.int .i64 (l.getD k spZ).1) := (hb.cell (p := ⟨b, o + k * 2, none⟩) hbl).trans (hcell k hlt).1
      have c1 : wr.cell? ⟨b, o + k * 2 + 1, none⟩ = some (.int .i64 (l.getD k spZ).2) := (hb.cell (p := ⟨b, o + k * 2 + 1, none⟩) hbl).trans (hcell k hlt).2
      have c2 : wr.cell? ⟨b', o' + k * 2, none⟩ = some (.int .i64 (l.getD k spZ).1) := (hb.cell (p := ⟨b', o' + k * 2, none⟩) hbl').trans (hcell' k hlt).1
      have c3 : wr.cell? ⟨b', o' + k * 2 + 1, none⟩ = some (.int .i64 (l.getD k spZ).2) := (hb.cell (p := ⟨b', o' + k * 2 + 1, none⟩) hbl').trans (hcell' k hlt).2
      have hkn : k < ny := by have := HLX.out; omega
      have hki : (k : Int) < (ny : Int) := by omega
      clear hcell hcell'
      generalize (l.getD k spZ).1 = x at *
      generalize (l.getD k spZ).2 = y at *
      go_wp2_with fail
      go_quiet (fail)
      go_wp2_with fail
      go_roundw
      case rel => exact ⟨k + 1, by omega, by go_num, below_drewN hb _⟩
      case measure => simp [intOf]; omega
    · have hkN : ny = k := by have := HLX.out; omega
      subst hkN
      go_wp2_with fail
      go_ret
      exact ⟨rfl, hb9⟩
end Go.Proofs.Ytnlkljmboifnkaa

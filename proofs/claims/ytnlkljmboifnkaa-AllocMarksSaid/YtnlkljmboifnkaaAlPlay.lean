/- The calls that AllocMarks plays on an alloc. No conditions but those that stand in each lemma. -/
import Derived.Test.YtnlkljmboifnkaaLawAlKeeps
import Derived.Test.YtnlkljmboifnkaaNumsIn
namespace Go.Proofs.Ytnlkljmboifnkaa
open Go.RowKit Go.Maps

/-- What one number lets be done: so many sectors are taken; they are given back later, or at once, or not. -/
def playStep (s : AlS) (v : Int) : AlS :=
  if alFits s (1 + bits .and .i64 v 7) true then
    (if bits .and .i64 v 8 = 0 then
      (if bits .and .i64 v 16 = 0 then alTaken s (1 + bits .and .i64 v 7)
        else alGiven (alTaken s (1 + bits .and .i64 v 7)) (Spans.findL s.free (1 + bits .and .i64 v 7), Spans.findL s.free (1 + bits .and .i64 v 7) + (1 + bits .and .i64 v 7)))
      else alLatered (alTaken s (1 + bits .and .i64 v 7)) (Spans.findL s.free (1 + bits .and .i64 v 7), Spans.findL s.free (1 + bits .and .i64 v 7) + (1 + bits .and .i64 v 7)))
  else s
def playAt (s : AlS) (l : List Int) (i : Nat) : AlS := (l.take i).foldl playStep s
def playS (s : AlS) (l : List Int) : AlS := playAt s l 40
theorem playAt_next (s : AlS) (l : List Int) (i : Nat) (h : i < l.length) : playAt s l (i + 1) = playStep (playAt s l i) (l.getD i 0) := by
  unfold playAt
  rw [List.take_succ_eq_append_getElem h, List.foldl_append, List.getD_eq_getElem?_getD, List.getElem?_eq_getElem h]
  rfl
theorem playAt_all (s : AlS) (l : List Int) (i : Nat) (h : l.length ≤ i) (h2 : i ≤ 40) : playAt s l i = playS s l := by
  unfold playS playAt
  rw [List.take_of_length_le h, List.take_of_length_le (by omega)]
/-- What no call turns but Commit, Abort. -/
def SameBounds (s t : AlS) : Prop := t.lo = s.lo ∧ t.hi = s.hi ∧ t.res = s.res ∧ t.ep = s.ep ∧ t.av = s.av
theorem SameBounds.refl (s : AlS) : SameBounds s s := ⟨rfl, rfl, rfl, rfl, rfl⟩
theorem SameBounds.trans {a b c : AlS} (h : SameBounds a b) (k : SameBounds b c) : SameBounds a c := ⟨k.1.trans h.1, k.2.1.trans h.2.1, k.2.2.1.trans h.2.2.1, k.2.2.2.1.trans h.2.2.2.1, k.2.2.2.2.trans h.2.2.2.2⟩
theorem taken_same (s : AlS) (n : Int) : SameBounds s (alTaken s n) := ⟨rfl, rfl, rfl, rfl, rfl⟩
theorem given_same (s : AlS) (t : Sp) : SameBounds s (alGiven s t) := by unfold alGiven; split <;> exact ⟨rfl, rfl, rfl, rfl, rfl⟩
theorem latered_same (s : AlS) (t : Sp) : SameBounds s (alLatered s t) := by unfold alLatered; split <;> exact ⟨rfl, rfl, rfl, rfl, rfl⟩
theorem fits_find {s : AlS} {n : Int} {b : Bool} (h : alFits s n b = true) : 0 ≤ Spans.findL s.free n := by
  unfold alFits at h
  rw [Bool.and_eq_true] at h
  simpa using h.1
theorem playStep_ok {s : AlS} (h : AlGood s) (v : Int) : AlGood (playStep s v) ∧ SameBounds s (playStep s v) := by
  unfold playStep
  split
  · rename_i hf
    have h1 := h.taken (fits_find hf)
    split
    · split
      · exact ⟨h1, taken_same _ _⟩
      · exact ⟨h1.given, (taken_same _ _).trans (given_same _ _)⟩
    · exact ⟨h1.latered, (taken_same _ _).trans (latered_same _ _)⟩
  · exact ⟨h, .refl s⟩
theorem playFold_ok : ∀ (l : List Int) (s : AlS), AlGood s → AlGood (l.foldl playStep s) ∧ SameBounds s (l.foldl playStep s)
  | [], s, h => ⟨h, .refl s⟩
  | v :: l, s, h => by
    obtain ⟨h1, h2⟩ := playStep_ok h v
    obtain ⟨h3, h4⟩ := playFold_ok l _ h1
    exact ⟨h3, h2.trans h4⟩
theorem playAt_ok {s : AlS} (h : AlGood s) (l : List Int) (i : Nat) : AlGood (playAt s l i) ∧ SameBounds s (playAt s l i) := playFold_ok _ s h

theorem later_al {w : World} {p m k : Nat} {s : AlS} (h : Al w p m k s) (hok : AlOk s) (hk1 : k ≤ 1000000) (x y : Int) :
    Calls Try.prog 12 #[.pointer (some ⟨p, 0, none⟩), .agg #[.int .i64 x, .int .i64 y]] w fun e w' => e = .returned (.int .i64 (alInE s (x, y))) ∧ AlOth p m w w' ∧ Al w' p m (k + 1) (alLatered s (x, y)) := by
  obtain ⟨F, S, o, h⟩ := h
  exact later_any h hok hk1 x y
theorem give_al {w : World} {p m k : Nat} {s : AlS} (h : Al w p m k s) (hok : AlOk s) (x y : Int) :
    Calls Try.prog 11 #[.pointer (some ⟨p, 0, none⟩), .agg #[.int .i64 x, .int .i64 y]] w fun e w' => e = .returned (.int .i64 (alInE s (x, y))) ∧ AlOth p m w w' ∧ Al w' p m k (alGiven s (x, y)) := by
  obtain ⟨F, S, o, h⟩ := h
  exact give_any h hok x y
theorem NumSrc.at_ {w0 : World} {A : Option Addr} {z : List Int} (h : NumSrc w0 A z) {i : Nat} (hi : i < z.length) : ∃ b o, A = some ⟨b, o, none⟩ ∧ ∀ w', Below w0.heap.size w0 w' → w'.cell? ⟨b, o + i, none⟩ = some (.int .i64 (z.getD i 0)) := by
  obtain ⟨b, o, hA, hlt, hc⟩ := h (by omega)
  exact ⟨b, o, hA, fun w' hb => (hb.cell (p := ⟨b, o + i, none⟩) hlt).trans (hc i hi)⟩

theorem playStep_cases (s : AlS) (v q b8 b16 : Int) (hq : bits .and .i64 v 7 = q) (h8 : bits .and .i64 v 8 = b8) (h16 : bits .and .i64 v 16 = b16) :
    (alFits s (1 + q) true = false → playStep s v = s) ∧
    (alFits s (1 + q) true = true → b8 ≠ 0 → playStep s v = alLatered (alTaken s (1 + q)) (Spans.findL s.free (1 + q), Spans.findL s.free (1 + q) + (1 + q))) ∧
    (alFits s (1 + q) true = true → b8 = 0 → b16 ≠ 0 → playStep s v = alGiven (alTaken s (1 + q)) (Spans.findL s.free (1 + q), Spans.findL s.free (1 + q) + (1 + q))) ∧
    (alFits s (1 + q) true = true → b8 = 0 → b16 = 0 → playStep s v = alTaken s (1 + q)) := by
  unfold playStep
  rw [hq, h8, h16]
  refine ⟨fun h => ?_, fun h h1 => ?_, fun h h1 h2 => ?_, fun h h1 h2 => ?_⟩
  · rw [if_neg (by rw [h]; simp)]
  · rw [if_pos h, if_neg h1]
  · rw [if_pos h, if_pos h1, if_neg h2]
  · rw [if_pos h, if_pos h1, if_pos h2]

/-- At a round's head. -/
def PlayAt (w0 : World) (p m k : Nat) (s : AlS) (z : List Int) (n : Nat) (w : World) (iv : Value) (wr : World) : Prop :=
  ∃ i : Nat, i ≤ n ∧ i ≤ 40 ∧ iv = .int .i64 (i : Int) ∧ Al wr p m (k + i) (playAt s z i) ∧ AlOth p m w wr ∧ Below w0.heap.size w0 wr

set_option maxRecDepth 100000 in
set_option maxHeartbeats 8000000 in
theorem play_any (w0 w : World) {p m k : Nat} {s : AlS} (hA : Al w p m k s) (hg : AlGood s) (he : s.ep ≤ 1000000) (hk : k ≤ 100000) (hp : w0.heap.size ≤ p) (hm : w0.heap.size ≤ m) (hb0 : Below w0.heap.size w0 w)
    (A : Option Addr) (n c : Nat) (z : List Int) (hn : n = z.length) (hz : NumSrc w0 A z) (hnc : n ≤ c) (hc : c ≤ maxLen) :
    Calls Try.prog 18 #[.pointer (some ⟨p, 0, none⟩), .slice A n c] w fun e w' => e = .returned (.tuple #[]) ∧ AlOth p m w w' ∧ Al w' p m (k + 40) (playS s z) := by
  have HZ := Lib.hid hz
  have HN := Lib.hid hn
  unfold maxLen at hc
  have hn9 : n ≤ 9223372036854775807 := by omega
  have HG := Lib.hid hg
  have start : PlayAt w0 p m k s z n w (.int .i64 0) w := ⟨0, by omega, by omega, rfl, hA, .refl _ _ _, hb0⟩
  clear hz hn hnc hc hg hA
  go_enter Try.func18, Try.ntmps18
  go_wp2_with fail
  go_loopw [4, 5, 6, 7, 8] (fun iv _ _ _ _ wr => PlayAt w0 p m k s z n w iv wr) (fun iv _ _ _ _ _ => n - (intOf iv).toNat)
  case atStart => exact start
  case round =>
    clear start
    obtain ⟨i, hin, hi40, rfl, hA, ho, hb⟩ := hrel
    have hps := playAt_ok HG.out z i
    have HPS := Lib.hid hps
    have HOK := Lib.hid (hps.1.ok (by have := hps.2.2.2.2.1; omega))
    have HA := Lib.hid hA
    have HO := Lib.hid ho
    have HB := Lib.hid hb
    have hsz := hb.size
    clear hps hA ho hb
    by_cases hlt : i < n
    · by_cases h40 : i < 40
      · obtain ⟨b, o, rfl, hcell⟩ := HZ.out.at_ (i := i) (by have := HN.out; omega)
        have HNX := Lib.hid (playAt_next s z i (by have := HN.out; omega))
        have HC := Lib.hid hcell
        clear hcell
        generalize z.getD i 0 = v at *
        have hq := mask_and v 7 (by omega)
        rw [show ((7 : Nat) : Int) = 7 from rfl] at hq
        have c0 := HC.out _ HB.out
        obtain ⟨q, hqe⟩ : ∃ q, bits .and .i64 v 7 = q := ⟨_, rfl⟩
        obtain ⟨b8, h8⟩ : ∃ q, bits .and .i64 v 8 = q := ⟨_, rfl⟩
        obtain ⟨b16, h16⟩ : ∃ q, bits .and .i64 v 16 = q := ⟨_, rfl⟩
        rw [hqe] at hq
        obtain ⟨hq0, hq1⟩ := hq
        have HCS := Lib.hid (playStep_cases (playAt s z i) v q b8 b16 hqe h8 h16)
        have HT := Lib.hid (take_any HA.out HOK.out (1 + q) (by omega) (by omega) true)
        have HTK := Lib.hid (fun h => (HPS.out.1.taken (n := 1 + q) h).ok (by have := HPS.out.2.2.2.2.1; show (playAt s z i).ep ≤ _; omega))
        generalize playAt s z i = s1 at *
        have htop := Spans.findL_top s1.free (1 + q)
        have hfh := Lib.hid (Spans.findL_hi (l := s1.free) (n := 1 + q))
        have HFF := Lib.hid (fits_find (s := s1) (n := 1 + q) (b := true))
        obtain ⟨at_, hat⟩ : ∃ g, Spans.findL s1.free (1 + q) = g := ⟨_, rfl⟩
        have HAT := Lib.hid hat
        rw [hat] at htop hfh HFF HTK HCS
        clear hat
        go_wp2_with fail
        refine HT.out.mono ?_
        rintro e w2 ⟨ho, ⟨hf, rfl, hA2⟩ | ⟨hf, rfl, hA2⟩⟩
        · rw [HAT.out]
          have ha0 := HFF.out hf
          have hhi := hfh.out ha0
          have HA2 := Lib.hid hA2
          have HO2 := Lib.hid (HO.out.trans ho)
          have HB2 := Lib.hid (HB.out.trans (ho.below hp hm hsz))
          have HOK2 := Lib.hid (HTK.out ha0)
          have hsz2 := HB2.out.size
          have hbs : Below w2.heap.size w2 (w2.alloc (.cells #[.int .i64 at_, .int .i64 (at_ + (1 + q))] 23)) := (Below.refl _ _).alloc (Nat.le_refl _) _
          have HA3 := Lib.hid (hA2.keep hbs)
          have HO3 := Lib.hid (HO2.out.then hbs)
          have HB3 := Lib.hid (HB2.out.trans (hbs.mono hsz2))
          have HR3 := Lib.hid (Row.new w2 23 #[.int .i64 at_, .int .i64 (at_ + (1 + q))])
          have hsz3 := HB3.out.size
          have c2 := HC.out _ HB3.out
          have e0 := HR3.out.cell (j := 0) (v := .int .i64 at_) rfl
          have e1 := HR3.out.cell (j := 1) (v := .int .i64 (at_ + (1 + q))) rfl
          clear HT HTK HA HO HB ho hA2 hbs c0 HFF hfh HO2 HB2 HA2
          by_cases hb8 : b8 = 0
          · subst hb8
            by_cases hb16 : b16 = 0
            · subst hb16
              have E := HCS.out.2.2.2 hf rfl rfl
              clear HCS
              go_wp2_with fail
              go_roundw
              case rel => exact ⟨i + 1, by omega, by omega, by go_num, by rw [HNX.out, E]; exact HA3.out.more (by omega), HO3.out, HB3.out⟩
              case measure => simp [intOf]; omega
            · have E := HCS.out.2.2.1 hf rfl hb16
              have hb16' : (b16 != 0) = true := by simpa using hb16
              have HGV := Lib.hid (give_al HA3.out HOK2.out at_ (at_ + (1 + q)))
              clear HCS
              go_wp2_with fail
              refine HGV.out.mono ?_
              rintro e w4 ⟨rfl, ho4, hA4⟩
              have HA4 := Lib.hid hA4
              have HB4 := Lib.hid (HB3.out.trans (ho4.below hp hm hsz3))
              have HO4 := Lib.hid (HO3.out.trans ho4)
              clear hA4 ho4 HGV HA3 c2 e0 e1
              go_wp2_with fail
              go_roundw
              case rel => exact ⟨i + 1, by omega, by omega, by go_num, by rw [HNX.out, E]; exact HA4.out.more (by omega), HO4.out, HB4.out⟩
              case measure => simp [intOf]; omega
          · have E := HCS.out.2.1 hf hb8
            have hb8' : (b8 != 0) = true := by simpa using hb8
            have HLT := Lib.hid (later_al HA3.out HOK2.out (by omega) at_ (at_ + (1 + q)))
            clear HCS
            go_wp2_with fail
            refine HLT.out.mono ?_
            rintro e w4 ⟨rfl, ho4, hA4⟩
            have HA4 := Lib.hid hA4
            have HB4 := Lib.hid (HB3.out.trans (ho4.below hp hm hsz3))
            have HO4 := Lib.hid (HO3.out.trans ho4)
            clear hA4 ho4 HLT HA3 c2 e0 e1
            go_wp2_with fail
            go_roundw
            case rel => exact ⟨i + 1, by omega, by omega, by go_num, by rw [HNX.out, E]; exact HA4.out.more (by omega), HO4.out, HB4.out⟩
            case measure => simp [intOf]; omega
        · have E := HCS.out.1 hf
          have HO2 := Lib.hid (HO.out.trans ho)
          have HB2 := Lib.hid (HB.out.trans (ho.below hp hm hsz))
          have hbs : Below w2.heap.size w2 (w2.alloc (.cells #[.int .i64 0, .int .i64 (0 + (1 + q))] 23)) := (Below.refl _ _).alloc (Nat.le_refl _) _
          have hbs' : Below w2.heap.size w2 (w2.alloc (.cells #[.int .i64 0, .int .i64 (1 + q)] 23)) := (Below.refl _ _).alloc (Nat.le_refl _) _
          have HA3 := Lib.hid (hA2.keep hbs')
          have HO3 := Lib.hid (HO2.out.then hbs')
          have HB3 := Lib.hid (HB2.out.trans (hbs'.mono HB2.out.size))
          clear HT HTK HA HO HB ho hA2 hbs hbs' c0 HFF hfh HO2 HB2 HCS
          go_wp2_with fail
          go_roundw
          case rel => exact ⟨i + 1, by omega, by omega, by go_num, by rw [HNX.out, E]; exact HA3.out.more (by omega), HO3.out, HB3.out⟩
          case measure => simp [intOf]; omega
      · have hd : decide ((i : Int) < 40) = false := by simp; omega
        have hie : i = 40 := by omega
        subst hie
        have HA' : Hid (Al wr p m (k + 40) (playS s z)) := HA
        clear HA
        go_wp2_with fail
        go_end0
        exact ⟨rfl, HO.out, HA'.out⟩
    · have hie : i = n := by omega
      have hle := HN.out
      have HA' : Hid (Al wr p m (k + 40) (playS s z)) := Lib.hid (by rw [← playAt_all s z i (by omega) hi40]; exact HA.out.more (by omega))
      clear HA hle
      go_wp2_with fail
      go_end0
      exact ⟨rfl, HO.out, HA'.out⟩
end Go.Proofs.Ytnlkljmboifnkaa

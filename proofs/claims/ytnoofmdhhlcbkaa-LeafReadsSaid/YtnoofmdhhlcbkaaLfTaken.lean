/- How far a node's bytes are read (plain mathematics), the program's way: a key, then a value or a child, entry by entry. No conditions but those that stand in each lemma. | taken: the node that bytes may be: whatever node of right shape has these bytes is the one that is told. No conditions but those that stand in each lemma. -/
import Derived.Test.YtnoofmdhhlcbkaaLfNums
import Derived.Test.YtnoofmdhhlcbkaaLfKey
import Derived.Test.YtnoofmdhhlcbkaaLfStep

namespace Go.Proofs.Ytnoofmdhhlcbkaa
open Go.RowKit
namespace Lf

/-- So many entries are read, of m; x: a part was none. -/
structure Prog (b : List Int) (m i : Nat) (n : Nd) (rest : List Int) (x : Bool) : Prop where
  fits : Fits b n.level m i n.keys n.vals n.kids rest
  most : i ≤ m
  ki : n.keys.length = i
  vi : ¬ 0 < n.level → n.vals.length = i ∧ n.kids = []
  pi_ : 0 < n.level → n.kids.length = i ∧ n.vals = []
  bk : ∀ l ∈ n.keys, IsBytes l
  bv : ∀ l ∈ n.vals, IsBytes l
  bp : ∀ p ∈ n.kids, p.Ok
  wrong : x = true → NoNd b
  neg : n.level < 0 → NoNd b
  few : i + rest.length ≤ b.length
  last : (lastK n.keys i).length ≤ 160 * i
section
variable {b rest : List Int} {m i : Nat} {n : Nd} {x : Bool}
theorem Prog.lastB (h : Prog b m i n rest x) : IsBytes (lastK n.keys i) := by
  unfold lastK
  split
  · exact IsBytes.nil
  · exact getD_bytes h.bk _
theorem Prog.noKey (h : Prog b m i n rest x) (hi : i < m) (hb : ¬ KeyGood rest (lastK n.keys i)) : NoNd b := by
  by_cases h1 : (readOf rest).2.2 = 0
  · by_cases h2 : (readText (rest.drop (readOf rest).2.1) 160).2.2 = 0
    · exact no_same h.fits hi (.inr (.inl (by
        rcases Nat.lt_or_ge (lastK n.keys i).length (readOf rest).1 with h3 | h3
        · exact h3
        · exact absurd ⟨h1, h2, h3⟩ hb)))
    · exact no_rest h.fits hi 160 (by omega) h2
  · exact no_same h.fits hi (.inl h1)
theorem Prog.noVal (h : Prog b m i n rest x) (hi : i < m) (h0 : ¬ 0 < n.level) (hb : (readText (keyRest rest) 1024).2.2 ≠ 0) : NoNd b := by
  by_cases hn : n.level < 0
  · exact h.neg hn
  · exact no_val h.fits hi (by omega) 160 1024 (by omega) (by omega) hb
theorem Prog.noKid (h : Prog b m i n rest x) (hi : i < m) (h0 : 0 < n.level) (hb : readErr (keyRest rest) ≠ 0) : NoNd b := no_kid h.fits hi (by omega) 160 (by omega) hb
theorem snoc_last (keys : List (List Int)) (k : List Int) (i : Nat) (h : keys.length = i) : lastK (keys ++ [k]) (i + 1) = k := by
  rw [last_next, List.getD_eq_getElem?_getD, List.getElem?_append_right (by omega), h, Nat.sub_self]
  rfl
theorem mem_snoc {α : Type} {p : α → Prop} {l : List α} {y : α} (h : ∀ z ∈ l, p z) (hy : p y) : ∀ z ∈ l ++ [y], p z := fun z hz => by
  rcases List.mem_append.1 hz with hz | hz
  · exact h z hz
  · rw [List.mem_singleton.1 hz]; exact hy
theorem keyRest_len {rest ys : List Int} (hx : IsBytes rest) (g : KeyGood rest ys) : (keyRest rest).length + 1 ≤ rest.length := by
  have := (read_used hx).1 g.1
  unfold keyRest
  rw [List.length_drop, List.length_drop]
  omega
theorem keyOf_len {rest ys : List Int} (hx : IsBytes rest) (g : KeyGood rest ys) : (keyOf rest ys).length ≤ ys.length + 160 := by
  have := (text_used (hx.drop (readOf rest).2.1) 160).2.2.2 g.2.1
  unfold keyOf
  rw [List.length_append, List.length_take]
  omega
theorem keyOf_bytes {rest ys : List Int} (hx : IsBytes rest) (hy : IsBytes ys) : IsBytes (keyOf rest ys) := IsBytes.append (hy.take _) (text_used (hx.drop _) 160).2.2.1
/-- An entry with its value. -/
theorem Prog.nextV (h : Prog b m i n rest x) (hx : IsBytes rest) (hi : i < m) (g : KeyGood rest (lastK n.keys i)) (h0 : ¬ 0 < n.level) (hx0 : x = false) :
    Prog b m (i + 1) ⟨n.level, n.keys ++ [keyOf rest (lastK n.keys i)], n.vals ++ [(readText (keyRest rest) 1024).1], n.kids⟩ ((keyRest rest).drop (readText (keyRest rest) 1024).2.1) x := by
  have hl := keyRest_len hx g
  have ho := keyOf_len hx g
  have hlast := h.last
  refine ⟨?_, by omega, by rw [List.length_append, h.ki]; rfl, fun _ => ⟨by rw [List.length_append, (h.vi h0).1]; rfl, (h.vi h0).2⟩, fun hp => absurd hp h0, mem_snoc h.bk (keyOf_bytes hx h.lastB), mem_snoc h.bv (text_used ((hx.drop _).drop _) 1024).2.2.1, h.bp, (fun hh => by rw [hx0] at hh; cases hh), h.neg, ?_, ?_⟩
  · by_cases hn : n.level < 0
    · exact (h.neg hn).fits
    · exact h.fits.next0 hi (by omega) 160 1024 (by omega) (by omega) rfl
  · have := h.few
    rw [List.length_drop]
    omega
  · show (lastK (n.keys ++ [keyOf rest (lastK n.keys i)]) (i + 1)).length ≤ _
    rw [snoc_last _ _ _ h.ki]
    omega
/-- An entry with its child. -/
theorem Prog.nextP (h : Prog b m i n rest x) (hx : IsBytes rest) (hi : i < m) (g : KeyGood rest (lastK n.keys i)) (h0 : 0 < n.level) (hx0 : x = false) :
    Prog b m (i + 1) ⟨n.level, n.keys ++ [keyOf rest (lastK n.keys i)], n.vals, n.kids ++ [readPt (keyRest rest)]⟩ ((keyRest rest).drop 52) x := by
  have hl := keyRest_len hx g
  have ho := keyOf_len hx g
  have hlast := h.last
  refine ⟨?_, by omega, by rw [List.length_append, h.ki]; rfl, fun hp => absurd h0 hp, fun _ => ⟨by rw [List.length_append, (h.pi_ h0).1]; rfl, (h.pi_ h0).2⟩, mem_snoc h.bk (keyOf_bytes hx h.lastB), h.bv, mem_snoc h.bp (readPt_ok _ ((hx.drop _).drop _)), (fun hh => by rw [hx0] at hh; cases hh), h.neg, ?_, ?_⟩
  · exact h.fits.next1 hi (by show n.level ≠ 0; omega) 160 (by omega) rfl
  · have := h.few
    rw [List.length_drop]
    omega
  · show (lastK (n.keys ++ [keyOf rest (lastK n.keys i)]) (i + 1)).length ≤ _
    rw [snoc_last _ _ _ h.ki]
    omega
/-- All are read. -/
theorem Prog.done (h : Prog b m m n rest x) : ∀ N : Nd, N.Ok → Shape N → allB N = b → N = n := fun N ok hs e => by
  by_cases hn : n.level < 0
  · exact absurd e (h.neg hn N ok hs)
  · exact (h.fits.done (fun h0 => (h.pi_ (by omega)).2) (fun h0 => (h.vi (by omega)).2) N ok hs e).1
/-- The level, as an int. -/
def levelI (b : List Int) : Int := IntKind.i64.wrap ((readOf b).1 : Int)
theorem levelI_cases (b : List Int) (h : (readOf b).1 < 18446744073709551616) : (levelI b = ((readOf b).1 : Int) ∧ 0 ≤ levelI b) ∨ 12 < (readOf b).1 := by
  unfold levelI
  by_cases h1 : 12 < (readOf b).1
  · exact .inr h1
  · left
    rw [IntWalk.i64_in _ (by omega)]
    exact ⟨rfl, by omega⟩
theorem levelI_range (b : List Int) : -9223372036854775808 ≤ levelI b ∧ levelI b ≤ 9223372036854775807 := by
  unfold levelI
  rw [IntKind.wrap_i64]
  omega
/-- Nothing is read yet but the level and how many. -/
theorem prog_start {b r1 r2 : List Int} {m : Nat} {x : Bool} (hb : IsBytes b) (hm : m = (readOf r1).1)
    (h : ((readOf b).2.2 = 0 ∧ r1 = b.drop (readOf b).2.1 ∧ (readOf r1).2.2 = 0 ∧ r2 = r1.drop (readOf r1).2.1 ∧ x = false) ∨ (((readOf b).2.2 ≠ 0 ∨ (r1 = b.drop (readOf b).2.1 ∧ (readOf r1).2.2 ≠ 0)) ∧ r2.length ≤ b.length)) :
    Prog b m 0 ⟨levelI b, [], [], []⟩ r2 x := by
  have hlt := (read_used hb).2.2
  have mk : (Fits b (levelI b) m 0 [] [] [] r2) → (x = true → NoNd b) → (levelI b < 0 → NoNd b) → r2.length ≤ b.length → Prog b m 0 ⟨levelI b, [], [], []⟩ r2 x := fun hf hw hn hl =>
    ⟨hf, Nat.zero_le _, rfl, fun _ => ⟨rfl, rfl⟩, fun _ => ⟨rfl, rfl⟩, (fun l hl => by cases hl), (fun l hl => by cases hl), (fun l hl => by cases hl), hw, hn, by omega, by simp [lastK]⟩
  have hneg : levelI b < 0 → NoNd b := fun hn => by
    rcases levelI_cases b hlt with ⟨_, h2⟩ | h2
    · omega
    · exact no_level (.inr h2)
  rcases h with ⟨h1, h2, h3, h4, h5⟩ | ⟨h1, h2⟩
  · refine mk ?_ (fun hx => by rw [h5] at hx; cases hx) hneg (by rw [h4, h2, List.length_drop, List.length_drop]; omega)
    rcases levelI_cases b hlt with ⟨e, _⟩ | h6
    · rw [e, hm, h4, h2]; exact fits_start
    · exact (no_level (.inr h6)).fits
  · have hno : NoNd b := by
      rcases h1 with h1 | ⟨h1, h3⟩
      · exact no_level (.inl h1)
      · rw [h1] at h3; exact no_many (.inl h3)
    exact mk hno.fits (fun _ => hno) (fun _ => hno) h2
end
end Lf
end Go.Proofs.Ytnoofmdhhlcbkaa

namespace Go.Proofs.Ytnoofmdhhlcbkaa
open Go.RowKit
namespace Lf
open Els

/-- What is told of bytes: a node, in new memory; whatever node has them is this one. -/
def TakenEnds (b : List Int) (w : World) (e : Ending) (w' : World) : Prop :=
  ∃ (B : Nat) (M : Nd) (A1 : Option Addr) (c1 : Nat) (ks : List Value) (A2 : Option Addr) (c2 : Nat) (vs : List Value) (A3 : Option Addr) (c3 : Nat), e = .returned (.agg (ndC M A1 c1 A2 c2 A3 c3)) ∧ NdO w' B M A1 c1 ks A2 c2 vs A3 c3 ∧ M.Ok ∧ Below w.heap.size w w' ∧ ∀ N : Nd, N.Ok → Shape N → allB N = b → N = M
/-- At a round's head. -/
def TakenAt (w : World) (G N : Nat) (b : List Int) (m : Nat) (kv iv : Value) (wr : World) : Prop :=
  ∃ (i : Nat) (n : Nd) (A1 : Option Addr) (c1 : Nat) (ks : List Value) (A2 : Option Addr) (c2 : Nat) (vs : List Value) (A3 : Option Addr) (c3 : Nat) (rest : List Int) (x : Bool) (S : Option Addr) (d : Nat),
    n.level = levelI b ∧ Prog b m i n rest x ∧ Tk w wr G N n A1 c1 ks A2 c2 vs A3 c3 rest x ∧ iv = .int .u64 (i : Int) ∧ kv = .slice S (lastK n.keys i).length d ∧ BT wr 5 (.slice S (lastK n.keys i).length d) (lastK n.keys i) ∧ (x = true → i = 0)
theorem RdX.len {w : World} {g : Nat} {xs : List Int} {x : Bool} (h : RdX w g xs x) : xs.length ≤ 10000 ∧ IsBytes xs := by
  obtain ⟨A, m, c, hr⟩ := h
  exact ⟨by rw [← hr.len]; exact hr.few, hr.bytes⟩
theorem lv_cases {b : List Int} {n : Nd} (h : n.level = levelI b) : -9223372036854775808 ≤ n.level ∧ n.level ≤ 9223372036854775807 := by rw [h]; exact levelI_range b
theorem one_one {A : Option Addr} {n c : Nat} : ∀ u ∈ [Value.slice A n c], u.oneCell' = true := fun u hu => by rw [List.mem_singleton.1 hu]; rfl
set_option maxRecDepth 100000 in
set_option maxHeartbeats 16000000 in
theorem taken_any (A : Option Addr) (m c : Nat) (b : List Int) (w : World) (hm : m = b.length) (hs : Src .u8 w A b) (hb : IsBytes b) (hl : m ≤ 4096) (hc : m ≤ c) (hcm : c ≤ 9223372036854775807) :
    Calls Try.prog 14 #[.slice A m c] w (TakenEnds b w) := by
  have Hm := Lib.hid hm
  have Hs := Lib.hid hs
  have Hb := Lib.hid hb
  clear hm hs hb
  go_enter Try.func14, Try.ntmps14
  go_wp2_with (refine wpList_allocN ltP rfl rfl ?_; intro w1 r1 b1 z1; have R1 := Lib.hid r1; have B1 := Lib.hid b1; clear r1 b1)
  obtain ⟨G, hG⟩ : ∃ G, Hid (G = w.heap.size + 1) := ⟨_, rfl⟩
  have r2 : Row (w1.alloc (.cells #[.slice A m c, .bool false] 57)) G 57 #[.slice A m c, .bool false] := by
    rw [hG.out, ← z1]; exact Row.new _ _ _
  have b2 : Below w1.heap.size w1 (w1.alloc (.cells #[.slice A m c, .bool false] 57)) := (Below.refl _ _).alloc (Nat.le_refl _) _
  rw [← hG.out]
  have hwG : w.heap.size < G := by rw [hG.out]; omega
  generalize w1.alloc (.cells #[.slice A m c, .bool false] 57) = w2 at *
  have R2 := Lib.hid (R1.out.keep b2)
  have B2 := Lib.hid (B1.out.trans (b2.mono B1.out.size))
  have hrd : Rd w2 G A m c b false := ⟨r2, Hm.out, Hs.out.keep B2.out, hc, hcm, Hb.out, by omega, fun hn a ha => by
    obtain ⟨b0, o0, rfl, hlt, _⟩ := Hs.out hn
    injection ha with ha
    rw [← ha]
    show b0 < G
    omega⟩
  clear r2 b2 R1 B1 z1 hG
  refine (number_any hrd).mono ?_
  obtain ⟨t, ht⟩ : ∃ t : Nat, Hid (t = (readOf b).1) := ⟨_, rfl⟩
  obtain ⟨lv, hlv⟩ : ∃ lv : Int, Hid (lv = levelI b) := ⟨_, rfl⟩
  have u1 : IntKind.i64.wrap (t : Int) = lv := by rw [hlv.out, ht.out]; rfl
  have lv1 : -9223372036854775808 ≤ lv ∧ lv ≤ 9223372036854775807 := by rw [hlv.out]; exact levelI_range b
  obtain ⟨lv1, lv2⟩ := lv1
  rw [← ht.out]
  rintro r w3 ⟨rfl, hb3, hto3⟩
  obtain ⟨r1, x1, ⟨A1, m1, c1, hrd1⟩, hinfo1⟩ : ∃ r1 x1, RdX w3 G r1 x1 ∧ (((readOf b).2.2 = 0 ∧ r1 = b.drop (readOf b).2.1 ∧ x1 = false) ∨ ((readOf b).2.2 ≠ 0 ∧ r1 = b ∧ x1 = true)) := by
    by_cases h0 : (readOf b).2.2 = 0
    · exact ⟨_, _, hto3.yes (by omega), .inl ⟨h0, rfl, rfl⟩⟩
    · exact ⟨_, _, hto3.no (by omega), .inr ⟨h0, rfl, rfl⟩⟩
  have H1 := Lib.hid hrd1
  have I1 := Lib.hid hinfo1
  have R3 := Lib.hid (hb3.row R2.out (by omega))
  have B3 := Lib.hid (B2.out.trans (hb3.below (by omega) B2.out.size))
  have hGN : G < w3.heap.size := hrd1.row.lt
  clear hb3 hto3 hrd hrd1 hinfo1 R2 B2
  go_wp2_with (first
    | (refine wpList_buildNL ltP _ rfl rfl lv rfl ?_)
    | (refine wpList_allocN ltP rfl rfl ?_; intro w4 r4 b4 z4)
    | (refine wpList_storeN ltP rfl _ _ rfl _ rfl rfl _ rfl r4 ?_; intro w5 r5 o5))
  obtain ⟨N, hN⟩ : ∃ N, Hid (N = w3.heap.size) := ⟨_, rfl⟩
  rw [← hN.out] at r4 r5 o5 hGN ⊢
  have H5 := Lib.hid ((H1.out.keep b4).only o5 hGN)
  have N5 := Lib.hid r5
  have R5 := Lib.hid (o5.row (R3.out.keep b4) (by omega))
  have hwN : w.heap.size ≤ N := by omega
  have B5 := Lib.hid ((B3.out.trans (b4.mono B3.out.size)).trans (o5.below.mono hwN))
  clear r4 b4 z4 r5 o5 H1 R3 B3 hN
  refine (number_any H5.out).mono ?_
  obtain ⟨mm, hmm⟩ : ∃ t : Nat, Hid (t = (readOf r1).1) := ⟨_, rfl⟩
  rw [← hmm.out]
  rintro r w6 ⟨rfl, hb6, hto6⟩
  obtain ⟨r2, x2, hrd2, hinfo2⟩ : ∃ r2 x2, RdX w6 G r2 x2 ∧ (((readOf r1).2.2 = 0 ∧ r2 = r1.drop (readOf r1).2.1 ∧ x2 = x1) ∨ ((readOf r1).2.2 ≠ 0 ∧ r2 = r1 ∧ x2 = true)) := by
    by_cases h0 : (readOf r1).2.2 = 0
    · exact ⟨_, _, hto6.yes (by omega), .inl ⟨h0, rfl, rfl⟩⟩
    · exact ⟨_, _, hto6.no (by omega), .inr ⟨h0, rfl, rfl⟩⟩
  have HP : Hid (Prog b mm 0 ⟨lv, [], [], []⟩ r2 x2) := by
    rw [hlv.out]
    refine prog_start Hb.out hmm.out ?_
    have e1 : r1.length ≤ b.length := by
      rcases I1.out with ⟨_, h, _⟩ | ⟨_, h, _⟩
      · rw [h, List.length_drop]; omega
      · rw [h]; exact Nat.le_refl _
    have e2 : r2.length ≤ r1.length := by
      rcases hinfo2 with ⟨_, h, _⟩ | ⟨_, h, _⟩
      · rw [h, List.length_drop]; omega
      · rw [h]; exact Nat.le_refl _
    rcases I1.out with ⟨i1, i2, i3⟩ | ⟨i1, i2, i3⟩
    · rcases hinfo2 with ⟨j1, j2, j3⟩ | ⟨j1, j2, j3⟩
      · exact .inl ⟨i1, i2, j1, j2, by rw [j3, i3]⟩
      · exact .inr ⟨.inr ⟨i2, j1⟩, by omega⟩
    · exact .inr ⟨.inl i1, by omega⟩
  have HT : Hid (Tk w w6 G N ⟨lv, [], [], []⟩ none 0 [] none 0 [] none 0 r2 x2) := ⟨Under.made (hb6.row N5.out (by omega)) _ _, hrd2, hb6.row R5.out (by omega), B5.out.trans (hb6.below (by omega) B5.out.size), hwG, hGN⟩
  have mm1 : mm < 18446744073709551616 := by rw [hmm.out]; exact (read_used H5.out.bytes).2.2
  have HLV : Hid (lv = levelI b) := hlv
  clear hb6 hto6 hrd2 hinfo2 H5 N5 R5 B5 I1 u1 ht hlv hmm
  go_wp2_with fail
  go_loopw [5, 12] (fun kv iv wr => TakenAt w G N b mm kv iv wr) (fun _ iv _ => 5000 - (intOf iv).toNat)
  case atStart => exact ⟨0, ⟨lv, [], [], []⟩, none, 0, [], none, 0, [], none, 0, r2, x2, none, 0, HLV.out, HP.out, HT.out, rfl, rfl, BT.nil, fun _ => rfl⟩
  case round =>
    clear HP HT
    obtain ⟨i, n, A1, c1, ks, A2, c2, vs, A3, c3, rest, x, S, d, hlv, hP, hT, rfl, rfl, hbt, hx0⟩ := hrel
    have HL := Lib.hid hlv
    have HPr := Lib.hid hP
    have HTk := Lib.hid hT
    have HBT := Lib.hid hbt
    have HX0 := Lib.hid hx0
    have hi1 : i ≤ 4096 := by have := hP.few; have := Hm.out; omega
    have hlk : (lastK n.keys i).length ≤ 800000 := by have := hP.last; omega
    obtain ⟨lk, hlkk⟩ : ∃ l : List Int, Hid (l = lastK n.keys i) := ⟨_, rfl⟩
    rw [← hlkk.out] at hlk
    have HBT' : Hid (BT wr 5 (.slice S lk.length d) lk) := by rw [hlkk.out]; exact hbt
    rw [← hlkk.out]
    clear hlv hP hT hbt hx0 HBT
    by_cases hi : i < mm
    · have i1 : (i : Int) < (mm : Int) := by omega
      obtain ⟨Ar, mr, cr, hrd⟩ := HTk.out.rd
      have HRd := Lib.hid hrd
      clear hrd
      go_wp2_with fail
      refine (key_any HRd.out S d lk HBT'.out (by rw [hlkk.out]; exact HPr.out.lastB) hlk).mono ?_
      rintro r w7 ⟨Bk, dk, l, rest1, x1', rfl, hbt7, hlb7, hll7, hbut7, hrdx7, hrl7, hk7⟩
      have HK7 := Lib.hid hk7
      have HB7 := Lib.hid hbt7
      have HLB7 := Lib.hid hlb7
      have T7 := Lib.hid (HTk.out.but hbut7 hrdx7)
      have hsz7 := T7.out.size
      have HRL := Lib.hid HRd.out.bytes
      clear hbt7 hlb7 hbut7 hrdx7 hk7 HTk HRd HBT'
      have k1 := row_keys T7.out.under.var
      have HKI := Lib.hid HPr.out.ki
      have hkl : n.keys.length ≤ 4096 := by rw [HKI.out]; exact hi1
      have hj1 : 1 < (ndC n A1 c1 A2 c2 A3 c3).size := by rw [ndC_size]; omega
      have hgn1 : G + 1 ≤ N := by omega
      by_cases h0 : 0 < n.level
      · have t0 : decide ((0 : Int) < n.level) = true := by simp; omega
        go_wp2_with (first
          | (refine wpList_one_el elK rfl (by decide) (by decide) rfl _ rfl (.slice Bk l.length dk) rfl rfl ?_; intro w8 r8 b8; have T8 := Lib.hid (T7.out.keep b8); have HB8 := Lib.hid (HB7.out.keep (KeepT.below b8)); have C8 := Lib.hid (csrc_row r8); have hsz8 := T8.out.size; clear r8 b8)
          | (at_builtin; go_loud (refine wpList_append_cells elK rfl (by decide) (by decide) rfl _ _ rfl (G + 1) A1 n.keys.length c1 ks rfl T8.out.under.keys.own (some ⟨w7.heap.size, 0, none⟩) 1 1 [.slice Bk l.length dk] rfl rfl C8.out one_one (by omega) (by omega) hsz8 ?_); intro A1' c1' w9 g9; have V9 := Lib.hid (g9.row T8.out.under.keys.own T8.out.under.var (by decide)); have G9 := Lib.hid g9; clear g9)
          | (refine wpList_store_sl rfl 23 _ _ rfl N 1 rfl A1' _ c1' rfl sizeK V9.out hj1 ?_; intro w10 h10; have St := T8.out.under.stepK kindsP hgn1 G9.out 1 (.slice A1' (n.keys.length + 1) c1'); have U10 := T8.out.under.addKey kindsP HB8.out rfl G9.out; rw [← h10] at St U10; have T10 := Lib.hid (T8.out.step St.below U10); have HB10 := Lib.hid (HB8.out.keep St.bytes); have k0 := row_level T10.out.under.var; clear h10 St U10 V9 G9 T8 HB8 C8 k1))
        have T11 := Lib.hid (T10.out.keep (Below.refl _ _).drew)
        have HB11 : Hid (BT w10.drew 5 (.slice Bk l.length dk) l) := HB10.out.keep (KeepT.below (Below.refl _ _).drew)
        have q3 := Row.aboveB T11.out.under.var (ndC_3 ⟨n.level, n.keys ++ [l], n.vals, n.kids⟩ A1' c1' A2 c2 A3 c3)
        clear k0 T10 HB10
        refine wp_region_treeT (SameB N) 6 (.one [0, 1] 2 (.one [] 3 (.one [] 4 (.tail [5] 6)))) (by kernel_rfl) (by kernel_rfl) (by decide) (by kernel_rfl) (by kernel_rfl) (fun _ _ d _ _ h => by cases d <;> exact h) ?_
        generalize w10.drew = w11 at *
        refine wpTree_one (by simp [pickOps]; rfl) ?_
        repeat (go_big_quiet_step (fail))
        refine wpQuiet_nil ?_
        clear q3
        refine wpOp_alone rfl rfl (fun K hK => ?_)
        go_simp
        obtain ⟨Aq, mq, cq, hrdq⟩ := T11.out.rd
        obtain ⟨p, hp⟩ : ∃ p : Pt, Hid (p = readPt rest1) := ⟨_, rfl⟩
        obtain ⟨er, her⟩ : ∃ e : Int, Hid (e = readErr rest1) := ⟨_, rfl⟩
        have HPO : Hid p.Ok := by rw [hp.out]; exact readPt_ok rest1 hrdq.bytes
        refine (kid_any hrdq).mono ?_
        rw [← hp.out, ← her.out]
        rintro r w12 ⟨rfl, hbut12, hto12⟩
        have hs12 := But.sameB hbut12 T11.out.under.var.lt (by omega)
        obtain ⟨rest2, x2', hrd12, hi12⟩ : ∃ r2 x2, RdX w12 G r2 x2 ∧ ((er = 0 ∧ r2 = rest1.drop 52 ∧ x2 = x1') ∨ (er ≠ 0 ∧ r2 = rest1 ∧ x2 = true)) := by
          by_cases h0' : er = 0
          · exact ⟨_, _, hto12.yes (by omega), .inl ⟨h0', rfl, rfl⟩⟩
          · exact ⟨_, _, hto12.no (by omega), .inr ⟨h0', rfl, rfl⟩⟩
        have T12 := Lib.hid (T11.out.but hbut12 hrd12)
        have HB12 := Lib.hid (HB11.out.keep (hbut12.keepT hrdq.row (by decide)))
        have I12 := Lib.hid hi12
        refine hK _ _ ⟨hs12, ?_⟩
        clear hK K hs12 hbut12 hto12 hrd12 hi12 hrdq T11 HB11
        refine wpTree_one (by simp [pickOps]; rfl) ?_
        refine wpQuiet_nil ?_
        refine wpOp_alone rfl rfl (fun K hK => ?_)
        refine wp_one_el elP rfl (by decide) (by decide) _ rfl (.agg (pcells p)) rfl (pcells_36 HPO.out.shaL) ?_
        intro w13 r13 b13
        have T13 := Lib.hid (T12.out.keep b13)
        have HB13 := Lib.hid (HB12.out.keep (KeepT.below b13))
        have C13 := Lib.hid (csrc_row r13)
        have hs13 := Below.sameB b13 T12.out.under.var.lt
        refine hK _ _ ⟨hs13, ?_⟩
        clear hK K hs13 r13 b13 T12 HB12
        have hsz13 := T13.out.size
        refine wpTree_one (by simp [pickOps]; rfl) ?_
        refine wpQuiet_nil ?_
        refine wpOp_alone rfl rfl (fun K hK => ?_)
        refine wp_append_cells elP rfl (by decide) (by decide) _ _ rfl (G + 1) A3 n.kids.length c3 (pflat n.kids) rfl T13.out.under.kids.own (some ⟨w12.heap.size, 0, none⟩) 1 1 (pcells p).toList rfl (pcells_36 HPO.out.shaL) C13.out (pcells_ones p) (by omega) (by have := (HPr.out.pi_ h0).1; omega) hsz13 ?_
        intro A' c' w14 g14
        have V14 := Lib.hid (g14.row T13.out.under.kids.own T13.out.under.var (by decide))
        have G14 := Lib.hid g14
        have hs14 : SameB N w13 w14 := V14.out.trans T13.out.under.var.symm
        refine hK _ _ ⟨hs14, ?_⟩
        clear hK K hs14 g14
        refine wpTree_tail (by simp [pickOps]; rfl) ?_
        go_simp
        repeat (go_big_quiet_step (fail))
        refine wpQuiet_nil ?_
        refine wpOp_alone rfl rfl (fun K hK => ?_)
        refine wp_store_sl 24 _ _ rfl N 3 rfl A' _ c' rfl sizeKP V14.out (by rw [ndC_size]; omega) ?_
        refine hK _ _ ?_
        clear hK K
        have St := T13.out.under.stepP kindsP hgn1 G14.out 3 (.slice A' (n.kids.length + 1) c')
        have U15 := T13.out.under.addKid kindsP HPO.out rfl G14.out
        generalize w14.setCell ⟨N, 3, none⟩ (.slice A' (n.kids.length + 1) c') = w15 at *
        have T15 := Lib.hid (T13.out.step St.below U15)
        have HB15 := Lib.hid (HB13.out.keep St.bytes)
        clear St U15 V14 G14 T13 HB13 C13
        obtain ⟨Az, mz, cz, hrdz⟩ := T15.out.rd
        have z1 := hrdz.c1
        have HR15 := Lib.hid T15.out.res
        clear hrdz
        cases x2' with
        | true =>
          have HNO : Hid (NoNd b) := by
            show NoNd b
            rcases HK7.out with ⟨kg, e1, e2, e3⟩ | ⟨kg, _⟩
            · rcases I12.out with ⟨j1, j2, j3⟩ | ⟨j1, j2, j3⟩
              · exact HPr.out.wrong (by rw [← e3, ← j3])
              · exact HPr.out.noKid hi h0 (by rw [← e2, ← her.out]; exact j1)
            · exact HPr.out.noKey hi (by rw [← hlkk.out]; exact kg)
          go_wp2_with (first
            | (refine wpList_buildN0 ltP rfl rfl ?_)
            | (refine wpList_storeN ltP rfl _ _ rfl _ rfl rfl _ rfl HR15.out ?_; intro w16 r16 o16; have R16 := Lib.hid r16; have B16 := Lib.hid (T15.out.below.trans (o16.below.mono (Nat.le_refl _))); clear r16 o16))
          refine bodyPost_ret (results_node ltP rfl _ _ _ _ _ rfl R16.out) rfl ?_
          exact ⟨0, Nd.zero, none, 0, [], none, 0, [], none, 0, rfl, NdO.nil _ _, Nd.zero_ok, B16.out, fun N' ok hs e => absurd e (HNO.out N' ok hs)⟩
        | false =>
          have HNX : Hid (∃ S d, Prog b mm (i + 1) ⟨n.level, n.keys ++ [l], n.vals, n.kids ++ [p]⟩ rest2 false ∧ S = Bk ∧ d = dk) := by
            refine ⟨Bk, dk, ?_, rfl, rfl⟩
            have hrl := (HRL.out)
            rcases HK7.out with ⟨kg, e1, e2, e3⟩ | ⟨kg, e3⟩
            · rcases I12.out with ⟨j1, j2, j3⟩ | ⟨j1, j2, j3⟩
              · have hx : x = false := by rw [← e3, ← j3]
                rw [hlkk.out] at kg e1
                have := HPr.out.nextP hrl hi kg h0 hx
                rw [hx, ← e1, ← e2, ← hp.out, ← j2] at this
                exact this
              · cases j3
            · rcases I12.out with ⟨j1, j2, j3⟩ | ⟨j1, j2, j3⟩
              · rw [e3] at j3; cases j3
              · cases j3
          go_wp2_with fail
          go_roundw
          case rel =>
            obtain ⟨_, _, hP', _, _⟩ := HNX.out
            have e : lastK (n.keys ++ [l]) (i + 1) = l := snoc_last _ _ _ HKI.out
            exact ⟨i + 1, ⟨n.level, n.keys ++ [l], n.vals, n.kids ++ [p]⟩, A1', c1', ks ++ [.slice Bk l.length dk], A2, c2, vs, A', c', rest2, false, Bk, dk, HL.out, hP', T15.out, by go_num, by rw [e], by rw [e]; exact HB15.out, fun h => by cases h⟩
          case measure => simp [intOf]; omega
      · have t0 : decide ((0 : Int) < n.level) = false := by simp; omega
        go_wp2_with (first
          | (refine wpList_one_el elK rfl (by decide) (by decide) rfl _ rfl (.slice Bk l.length dk) rfl rfl ?_; intro w8 r8 b8; have T8 := Lib.hid (T7.out.keep b8); have HB8 := Lib.hid (HB7.out.keep (KeepT.below b8)); have C8 := Lib.hid (csrc_row r8); have hsz8 := T8.out.size; clear r8 b8)
          | (at_builtin; go_loud (refine wpList_append_cells elK rfl (by decide) (by decide) rfl _ _ rfl (G + 1) A1 n.keys.length c1 ks rfl T8.out.under.keys.own (some ⟨w7.heap.size, 0, none⟩) 1 1 [.slice Bk l.length dk] rfl rfl C8.out one_one (by omega) (by omega) hsz8 ?_); intro A1' c1' w9 g9; have V9 := Lib.hid (g9.row T8.out.under.keys.own T8.out.under.var (by decide)); have G9 := Lib.hid g9; clear g9)
          | (refine wpList_store_sl rfl 23 _ _ rfl N 1 rfl A1' _ c1' rfl sizeK V9.out hj1 ?_; intro w10 h10; have St := T8.out.under.stepK kindsP hgn1 G9.out 1 (.slice A1' (n.keys.length + 1) c1'); have U10 := T8.out.under.addKey kindsP HB8.out rfl G9.out; rw [← h10] at St U10; have T10 := Lib.hid (T8.out.step St.below U10); have HB10 := Lib.hid (HB8.out.keep St.bytes); have k0 := row_level T10.out.under.var; clear h10 St U10 V9 G9 T8 HB8 C8 k1))
        have T11 := Lib.hid (T10.out.keep (Below.refl _ _).drew)
        have HB11 : Hid (BT w10.drew 5 (.slice Bk l.length dk) l) := HB10.out.keep (KeepT.below (Below.refl _ _).drew)
        have q2 := Row.aboveB T11.out.under.var (ndC_2 ⟨n.level, n.keys ++ [l], n.vals, n.kids⟩ A1' c1' A2 c2 A3 c3)
        clear k0 T10 HB10
        refine wp_region_treeT (SameB N) 6 (.one [0, 1] 2 (.one [] 3 (.one [] 4 (.tail [5] 6)))) (by kernel_rfl) (by kernel_rfl) (by decide) (by kernel_rfl) (by kernel_rfl) (fun _ _ d _ _ h => by cases d <;> exact h) ?_
        generalize w10.drew = w11 at *
        refine wpTree_one (by simp [pickOps]; rfl) ?_
        repeat (go_big_quiet_step (fail))
        refine wpQuiet_nil ?_
        clear q2
        refine wpOp_alone rfl rfl (fun K hK => ?_)
        go_simp
        obtain ⟨Aq, mq, cq, hrdq⟩ := T11.out.rd
        obtain ⟨p, hp⟩ : ∃ p : List Int, Hid (p = (readText rest1 1024).1) := ⟨_, rfl⟩
        obtain ⟨ku, hku⟩ : ∃ p : Nat, Hid (p = (readText rest1 1024).2.1) := ⟨_, rfl⟩
        obtain ⟨er, her⟩ : ∃ e : Nat, Hid (e = (readText rest1 1024).2.2) := ⟨_, rfl⟩
        refine (rtext_any hrdq 1024 (by omega) (by omega)).mono ?_
        rw [← hp.out, ← her.out, ← hku.out]
        rintro r w12 ⟨⟨Bv, dv, rfl, hbv, _⟩, hbut12, hto12⟩
        have hs12 := But.sameB hbut12 T11.out.under.var.lt (by omega)
        obtain ⟨rest2, x2', hrd12, hi12⟩ : ∃ r2 x2, RdX w12 G r2 x2 ∧ ((er = 0 ∧ r2 = rest1.drop ku ∧ x2 = x1') ∨ (er ≠ 0 ∧ r2 = rest1 ∧ x2 = true)) := by
          by_cases h0' : er = 0
          · exact ⟨_, _, hto12.yes (by omega), .inl ⟨h0', rfl, rfl⟩⟩
          · exact ⟨_, _, hto12.no (by omega), .inr ⟨h0', rfl, rfl⟩⟩
        have T12 := Lib.hid (T11.out.but hbut12 hrd12)
        have HB12 := Lib.hid (HB11.out.keep (hbut12.keepT hrdq.row (by decide)))
        have I12 := Lib.hid hi12
        have HBV := Lib.hid hbv
        refine hK _ _ ⟨hs12, ?_⟩
        clear hK K hs12 hbut12 hto12 hrd12 hi12 hrdq T11 HB11 hbv
        refine wpTree_one (by simp [pickOps]; rfl) ?_
        refine wpQuiet_nil ?_
        refine wpOp_alone rfl rfl (fun K hK => ?_)
        refine wp_one_el elK rfl (by decide) (by decide) _ rfl (.slice Bv p.length dv) rfl rfl ?_
        intro w13 r13 b13
        have T13 := Lib.hid (T12.out.keep b13)
        have HB13 := Lib.hid (HB12.out.keep (KeepT.below b13))
        have HBV13 := Lib.hid (HBV.out.keep (KeepT.below b13))
        have C13 := Lib.hid (csrc_row r13)
        have hs13 := Below.sameB b13 T12.out.under.var.lt
        refine hK _ _ ⟨hs13, ?_⟩
        clear hK K hs13 r13 b13 T12 HB12 HBV
        have hsz13 := T13.out.size
        refine wpTree_one (by simp [pickOps]; rfl) ?_
        refine wpQuiet_nil ?_
        refine wpOp_alone rfl rfl (fun K hK => ?_)
        refine wp_append_cells elK rfl (by decide) (by decide) _ _ rfl (G + 1) A2 n.vals.length c2 vs rfl T13.out.under.vals.own (some ⟨w12.heap.size, 0, none⟩) 1 1 [.slice Bv p.length dv] rfl rfl C13.out one_one (by omega) (by have := (HPr.out.vi (by omega)).1; omega) hsz13 ?_
        intro A' c' w14 g14
        have V14 := Lib.hid (g14.row T13.out.under.vals.own T13.out.under.var (by decide))
        have G14 := Lib.hid g14
        have hs14 : SameB N w13 w14 := V14.out.trans T13.out.under.var.symm
        refine hK _ _ ⟨hs14, ?_⟩
        clear hK K hs14 g14
        refine wpTree_tail (by simp [pickOps]; rfl) ?_
        go_simp
        repeat (go_big_quiet_step (fail))
        refine wpQuiet_nil ?_
        refine wpOp_alone rfl rfl (fun K hK => ?_)
        refine wp_store_sl 23 _ _ rfl N 2 rfl A' _ c' rfl sizeK V14.out (by rw [ndC_size]; omega) ?_
        refine hK _ _ ?_
        clear hK K
        have St := T13.out.under.stepV kindsP hgn1 G14.out 2 (.slice A' (n.vals.length + 1) c')
        have U15 := T13.out.under.addVal kindsP HBV13.out rfl G14.out
        generalize w14.setCell ⟨N, 2, none⟩ (.slice A' (n.vals.length + 1) c') = w15 at *
        have T15 := Lib.hid (T13.out.step St.below U15)
        have HB15 := Lib.hid (HB13.out.keep St.bytes)
        clear St U15 V14 G14 T13 HB13 C13 HBV13
        obtain ⟨Az, mz, cz, hrdz⟩ := T15.out.rd
        have z1 := hrdz.c1
        have HR15 := Lib.hid T15.out.res
        clear hrdz
        cases x2' with
        | true =>
          have HNO : Hid (NoNd b) := by
            show NoNd b
            rcases HK7.out with ⟨kg, e1, e2, e3⟩ | ⟨kg, _⟩
            · rcases I12.out with ⟨j1, j2, j3⟩ | ⟨j1, j2, j3⟩
              · exact HPr.out.wrong (by rw [← e3, ← j3])
              · exact HPr.out.noVal hi (by omega) (by rw [← e2, ← her.out]; exact j1)
            · exact HPr.out.noKey hi (by rw [← hlkk.out]; exact kg)
          go_wp2_with (first
            | (refine wpList_buildN0 ltP rfl rfl ?_)
            | (refine wpList_storeN ltP rfl _ _ rfl _ rfl rfl _ rfl HR15.out ?_; intro w16 r16 o16; have R16 := Lib.hid r16; have B16 := Lib.hid (T15.out.below.trans (o16.below.mono (Nat.le_refl _))); clear r16 o16))
          refine bodyPost_ret (results_node ltP rfl _ _ _ _ _ rfl R16.out) rfl ?_
          exact ⟨0, Nd.zero, none, 0, [], none, 0, [], none, 0, rfl, NdO.nil _ _, Nd.zero_ok, B16.out, fun N' ok hs e => absurd e (HNO.out N' ok hs)⟩
        | false =>
          have HNX : Hid (∃ S d, Prog b mm (i + 1) ⟨n.level, n.keys ++ [l], n.vals ++ [p], n.kids⟩ rest2 false ∧ S = Bk ∧ d = dk) := by
            refine ⟨Bk, dk, ?_, rfl, rfl⟩
            have hrl := (HRL.out)
            rcases HK7.out with ⟨kg, e1, e2, e3⟩ | ⟨kg, e3⟩
            · rcases I12.out with ⟨j1, j2, j3⟩ | ⟨j1, j2, j3⟩
              · have hx : x = false := by rw [← e3, ← j3]
                rw [hlkk.out] at kg e1
                have := HPr.out.nextV hrl hi kg (by omega) hx
                rw [hx, ← e1, ← e2, ← hp.out, ← hku.out, ← j2] at this
                exact this
              · cases j3
            · rcases I12.out with ⟨j1, j2, j3⟩ | ⟨j1, j2, j3⟩
              · rw [e3] at j3; cases j3
              · cases j3
          go_wp2_with fail
          go_roundw
          case rel =>
            obtain ⟨_, _, hP', _, _⟩ := HNX.out
            have e : lastK (n.keys ++ [l]) (i + 1) = l := snoc_last _ _ _ HKI.out
            exact ⟨i + 1, ⟨n.level, n.keys ++ [l], n.vals ++ [p], n.kids⟩, A1', c1', ks ++ [.slice Bk l.length dk], A', c', vs ++ [.slice Bv p.length dv], A3, c3, rest2, false, Bk, dk, HL.out, hP', T15.out, by go_num, by rw [e], by rw [e]; exact HB15.out, fun h => by cases h⟩
          case measure => simp [intOf]; omega
    · obtain rfl : i = mm := by have := HPr.out.most; omega
      have HTk1 := HTk.out.res
      have HV := Lib.hid HTk.out.under.var
      go_wp2_with (first
        | (refine wpList_loadN ltP _ rfl rfl _ rfl HV.out ?_)
        | (refine wpList_storeN ltP rfl _ _ rfl _ rfl rfl _ rfl HTk1 ?_; intro w16 r16 o16; have R16 := Lib.hid r16; have O16 := Lib.hid o16; clear r16 o16))
      refine bodyPost_ret (results_node ltP rfl _ _ _ _ _ rfl R16.out) rfl ?_
      have hnd := HTk.out.under
      have a16 := hnd.ndO.only HTk.out.res O16.out (by decide) (by decide) (by decide)
      have hl := lv_cases HL.out
      exact ⟨G + 1, n, A1, c1, ks, A2, c2, vs, A3, c3, rfl, a16, ⟨hl.1, hl.2, HPr.out.bk, HPr.out.bv, HPr.out.bp⟩, HTk.out.below.trans (O16.out.below.mono (Nat.le_refl _)), HPr.out.done⟩
end Lf
end Go.Proofs.Ytnoofmdhhlcbkaa

/- Put and Right: a right node's bytes, in memory of the call's own, or an error; nothing that was there is written. No conditions but those that stand in each lemma. | Read and Right, the program's: the right node that has these bytes, or an error; whether a node is right; nothing that was there is written. No conditions but those that stand in each lemma. -/
import Derived.Test.YtnoofmdhhlcbkaaLfEntry
import Derived.Test.YtnoofmdhhlcbkaaLfNums
import Derived.Test.YtnoofmdhhlcbkaaElsB
import Derived.Test.YtnoofmdhhlcbkaaLfTaken
import Derived.Test.YtnoofmdhhlcbkaaCmp

namespace Go.Proofs.Ytnoofmdhhlcbkaa
open Go.RowKit
namespace Lf
open Els

/-- What Put tells: a right node's bytes, or an error. -/
def PutOk (n : Nd) (xs : List Int) (e : Int) : Prop := (Right n ∧ xs = allB n ∧ e = 0) ∨ (¬ Right n ∧ xs = [] ∧ (e = 2 ∨ e = 3))
theorem PutIs.ok {n : Nd} {xs : List Int} {e : Int} (h : PutIs n xs e) : PutOk n xs e := by
  rcases h with ⟨h1, h2, h3, h4⟩ | ⟨h1, h2, h3, h4⟩ | ⟨h1, h3, h4⟩
  · exact .inl ⟨⟨h1, h2⟩, h3, h4⟩
  · exact .inr ⟨fun r => by have := r.len; omega, h3, .inr h4⟩
  · exact .inr ⟨fun r => h1 r.shape, h3, .inl h4⟩
theorem PutOk.size {n : Nd} {xs : List Int} {e : Int} (h : PutOk n xs e) : xs.length ≤ 4096 := by
  rcases h with ⟨h1, h2, _⟩ | ⟨_, h2, _⟩
  · rw [h2]; exact h1.len
  · rw [h2]; simp
theorem PutOk.bytes {n : Nd} (ok : n.Ok) {xs : List Int} {e : Int} (h : PutOk n xs e) : IsBytes xs := by
  rcases h with ⟨_, h2, _⟩ | ⟨_, h2, _⟩
  · rw [h2]; exact all_bytes ok
  · rw [h2]; exact IsBytes.nil
theorem PutOk.iff {n : Nd} {xs : List Int} {e : Int} (h : PutOk n xs e) : e = 0 ↔ Right n := by
  rcases h with ⟨h1, _, h3⟩ | ⟨h1, _, h3⟩
  · exact ⟨fun _ => h1, fun _ => h3⟩
  · exact ⟨fun h => by omega, fun r => absurd r h1⟩
theorem PutOk.range {n : Nd} {xs : List Int} {e : Int} (h : PutOk n xs e) : 0 ≤ e ∧ e ≤ 3 := by
  rcases h with ⟨_, _, h⟩ | ⟨_, _, h⟩ <;> omega
def PutEnds (n : Nd) (w : World) (e : Ending) (w' : World) : Prop :=
  ∃ (A : Option Addr) (m c : Nat) (xs : List Int) (er : Int), e = .returned (.tuple #[.slice A m c, .int .i64 er]) ∧ m = xs.length ∧ PutOk n xs er ∧ Own w' w.heap.size A c xs ∧ Below w.heap.size w w'
theorem ent_len_f {n : Nd} (f : Formed n) (ok : n.Ok) (i : Nat) (hi : i < n.keys.length) : (entB n i).length ≤ 1300 ∧ 1 ≤ (entB n i).length := by
  have h1 := keyB_len (n := n) (i := i) (by have := f.short i hi; unfold Nd.key; omega)
  have hlo := f.lo
  unfold entB bodyB
  rw [List.length_append]
  split
  · rename_i h0
    have h2 := f.vals i (by have := (f.leaf h0).1; omega)
    have h3 := shortOf_ten (n.val i).length (by unfold Nd.val; omega)
    unfold textL
    rw [List.length_append]
    unfold Nd.val at h3 ⊢
    omega
  · rw [putOf_length (n.kid i) (getD_ok ok.kidsB i).shaL]
    omega
theorem up_many {n : Nd} (f : Formed n) (ok : n.Ok) : ∀ k, k ≤ n.keys.length → k ≤ (upB n k).length
  | 0, _ => Nat.zero_le _
  | k + 1, hk => by
    have h1 := up_many f ok k (by omega)
    have h2 := ent_len_f f ok k (by omega)
    rw [up_next, List.length_append]
    omega
theorem head_small {n : Nd} (f : Formed n) (h : n.keys.length < 18446744073709551616) : (headB n).length ≤ 20 ∧ 0 < (headB n).length := by
  have h1 := shortOf_ten n.level.toNat (by have := f.hi; have := f.lo; omega)
  have h2 := shortOf_ten n.keys.length h
  have h3 := shortOf_pos n.level.toNat
  unfold headB
  rw [List.length_append]
  omega
/-- Too many bytes so far: the node is not right. -/
theorem put_big {n : Nd} {k : Nat} (hk : k ≤ n.keys.length) (h : 4096 < (headB n ++ upB n k).length) : PutOk n [] 3 := .inr ⟨fun r => by
  have h1 := r.len
  have h2 := up_le n hk
  unfold allB at h1
  rw [List.length_append] at h h1
  omega, rfl, .inr rfl⟩
theorem put_all {n : Nd} (f : Formed n) (ok : n.Ok) (h : (headB n ++ upB n n.keys.length).length ≤ 4096) : PutOk n (headB n ++ upB n n.keys.length) 0 := by
  have h1 := up_many f ok n.keys.length (Nat.le_refl _)
  refine .inl ⟨⟨f.shape (by rw [List.length_append] at h; omega), h⟩, rfl, rfl⟩
/-- At a round's head: so many entries are laid. -/
def LaidAt (n : Nd) (w : World) (o i : Value) (wr : World) : Prop :=
  ∃ (k : Nat) (A : Option Addr) (m c : Nat), k ≤ n.keys.length ∧ i = .int .i64 (k : Int) ∧ o = .slice A m c ∧ m = (headB n ++ upB n k).length ∧ m ≤ 4096 ∧ Own wr w.heap.size A c (headB n ++ upB n k) ∧ Below w.heap.size w wr
set_option maxRecDepth 100000 in
set_option maxHeartbeats 8000000 in
theorem nput_any {n : Nd} {A1 : Option Addr} {c1 : Nat} {ks : List Value} {A2 : Option Addr} {c2 : Nat} {vs : List Value} {A3 : Option Addr} {c3 : Nat} {w : World} (at_ : NdAt w n A1 c1 ks A2 c2 vs A3 c3) (ok : n.Ok) :
    Calls Try.prog 10 #[.agg (ndC n A1 c1 A2 c2 A3 c3)] w (PutEnds n w) := by
  have HAt := Lib.hid at_
  have Hok := Lib.hid ok
  have m1 : n.keys.length ≤ 9223372036854775807 := by have := at_.keys.cap; have := at_.keys.max; unfold maxLen at this; omega
  clear at_ ok
  go_enter Try.func10, Try.ntmps10
  go_wp2_with (first
    | (refine wpList_boxN rfl _ rfl rfl ?_; intro w1 hr1 hb1 hz1; have HR := Lib.hid hr1; have HB := Lib.hid hb1; clear hr1 hb1)
    | (refine wpList_loadN ltP _ rfl rfl _ rfl HR.out ?_))
  refine (formed_any (HAt.out.keep HB.out) Hok.out).mono ?_
  rintro e w2 ⟨x1, rfl, hf, hb2⟩
  have HR2 := Lib.hid (HR.out.keep hb2)
  have B2 := Lib.hid (HB.out.trans (hb2.mono HB.out.size))
  clear HR HB hb2
  cases x1 with
  | false =>
    have HF : Hid (¬ Formed n) := fun f => by have := hf.2 f; cases this
    clear hf
    go_wp2_with fail
    go_ret2
    exact ⟨none, 0, 0, [], 2, rfl, rfl, .inr ⟨fun r => HF.out r.shape.formed, rfl, .inl rfl⟩, own_nil _ _, B2.out⟩
  | true =>
    have HF : Hid (Formed n) := hf.1 rfl
    have hl0 := HF.out.lo
    have hl1 := HF.out.hi
    obtain ⟨L, hL⟩ := Int.eq_ofNat_of_zero_le hl0
    have HL := Lib.hid hL
    have u1 : IntKind.u64.wrap (L : Int) = (L : Int) := by rw [IntKind.wrap_u64]; omega
    have u2 : IntKind.u64.wrap (n.keys.length : Int) = (n.keys.length : Int) := by rw [IntKind.wrap_u64]; omega
    have r0 := row_level HR2.out
    rw [hL] at r0
    have L12 : L ≤ 12 := by omega
    clear hf hL
    go_wp2_with fail
    refine (short_any none 0 0 [] (L : Int) _ rfl Src.none_ (by omega) (by omega) (by omega)).mono ?_
    rintro e w3 ⟨v3, rfl, A4, n4, c4, rfl, hn4, ho4, hb3⟩
    rw [Int.toNat_natCast] at hn4 ho4
    have hn4' : n4 ≤ 20 := by have := shortOf_ten L (by omega); rw [List.nil_append] at hn4; omega
    have HN4 := Lib.hid hn4
    have HO4 := Lib.hid ho4
    have HR3 := Lib.hid (HR2.out.keep hb3)
    have B3 := Lib.hid (B2.out.trans (hb3.mono B2.out.size))
    clear hn4 ho4 HR2 B2 hb3 r0
    have r1 := row_keys HR3.out
    go_wp2_with fail
    refine (short_any A4 n4 c4 ([] ++ shortOf L) (n.keys.length : Int) _ HN4.out HO4.out.src (by omega) (by omega) (by omega)).mono ?_
    have HH : Hid ([] ++ shortOf L ++ shortOf n.keys.length = headB n ++ upB n 0) := by show _ = _; rw [up_zero, List.append_nil, List.nil_append]; unfold headB; rw [HL.out]; rfl
    rw [Int.toNat_natCast, HH.out]
    rintro e w4 ⟨v4, rfl, A5, n5, c5, rfl, hn5, ho5, hb4⟩
    have hn5' : n5 ≤ 20 := by have := (head_small HF.out (by omega)).1; rw [up_zero, List.append_nil] at hn5; omega
    have HN5 := Lib.hid hn5
    have HO5 := Lib.hid (ho5.more B3.out.size)
    have HR4 := Lib.hid (HR3.out.keep hb4)
    have B4 := Lib.hid (B3.out.trans (hb4.mono B3.out.size))
    clear hn5 ho5 HR3 B3 hb4 r1 HN4 HO4 HH u1 u2 HL
    have r1 := row_keys HR4.out
    go_wp2_with fail
    clear r1
    go_loopw [4, 22] (fun o i wr => LaidAt n w o i wr ∧ Row wr w.heap.size 26 (ndC n A1 c1 A2 c2 A3 c3)) (fun _ i _ => n.keys.length - (intOf i).toNat)
    case atStart => exact ⟨⟨0, A5, n5, c5, Nat.zero_le _, rfl, rfl, HN5.out, by omega, HO5.out, B4.out⟩, HR4.out⟩
    case round =>
      clear HN5 HO5 B4 HR4
      obtain ⟨⟨k, A6, m6, c6, hk, rfl, rfl, hm6, hm6', ho6, hb6⟩, hr6⟩ := hrel
      have HK := Lib.hid hk
      have HM6 := Lib.hid hm6
      have HO6 := Lib.hid ho6
      have HB6 := Lib.hid hb6
      have HR6 := Lib.hid hr6
      clear hk hm6 ho6 hb6 hr6
      by_cases hlt : k < n.keys.length
      · have i1 : (k : Int) < (n.keys.length : Int) := by omega
        have hel := ent_len_f HF.out Hok.out k hlt
        go_wp2_with (refine wpList_loadN ltP _ rfl rfl _ rfl HR6.out ?_)
        refine (entry_any (HAt.out.keep HB6.out) Hok.out HF.out k hlt).mono ?_
        rintro e w7 ⟨v7, rfl, A7, n7, c7, rfl, hn7, ho7, hb7⟩
        have h7 : n7 ≤ 1300 := by omega
        have h7' : 1 ≤ n7 := by omega
        have HN7 := Lib.hid hn7
        have HO7 := Lib.hid ho7
        have HO67 := Lib.hid (HO6.out.keep hb7)
        have HR7 := Lib.hid (HR6.out.keep hb7)
        have HB7 := Lib.hid (HB6.out.trans (hb7.mono HB6.out.size))
        clear hn7 ho7 HO6 HB6 HR6 hb7 hel
        have hpos : 0 < n7 := h7'
        clear h7'
        have HE : Hid (headB n ++ upB n k ++ entB n k = headB n ++ upB n (k + 1)) := by show _ = _; rw [up_next, List.append_assoc]
        go_wp2_with (at_builtin; refine wpList_append_b rfl _ _ rfl w.heap.size A6 m6 c6 (headB n ++ upB n k) rfl HM6.out HO67.out A7 n7 c7 (entB n k) rfl HN7.out HO7.out.src hpos (by omega) HB7.out.size ?_; rw [HE.out]; intro A8 c8 w8 ho8 g8; have HN8 : Hid (m6 + n7 = (headB n ++ upB n (k + 1)).length) := (by show _ = _; rw [← HE.out, List.length_append, ← HM6.out, ← HN7.out]); have HO8 := Lib.hid ho8; have HB8 := Lib.hid (HB7.out.trans g8.below); have HR8 := Lib.hid (g8.row (own_c HO67.out) HR7.out (by decide)); clear ho8 g8 HO67 HO7 HR7 HB7 HE)
        · go_ret2
          exact ⟨none, 0, 0, [], 3, rfl, rfl, put_big (k := k + 1) (by omega) (by rw [← HN8.out]; omega), own_nil _ _, HB8.out⟩
        · go_roundw
          case rel => exact ⟨⟨k + 1, A8, m6 + n7, c8, by omega, by go_num, rfl, HN8.out, by omega, HO8.out, HB8.out⟩, HR8.out⟩
          case measure => simp [intOf]; omega
      · obtain rfl : k = n.keys.length := by have := HK.out; omega
        go_wp2_with fail
        go_ret2
        exact ⟨A6, m6, c6, _, 0, rfl, HM6.out, put_all HF.out Hok.out (by rw [← HM6.out]; exact hm6'), HO6.out, HB6.out⟩
end Lf
end Go.Proofs.Ytnoofmdhhlcbkaa

namespace Go.Proofs.Ytnoofmdhhlcbkaa
open Go.RowKit
namespace Lf
open Els

theorem ret_bool_ {a b : Bool} (h : a = b) : Ending.returned (.bool a) = Ending.returned (.bool b) := by rw [h]
set_option maxHeartbeats 1000000 in
theorem nright_any {n : Nd} {A1 : Option Addr} {c1 : Nat} {ks : List Value} {A2 : Option Addr} {c2 : Nat} {vs : List Value} {A3 : Option Addr} {c3 : Nat} {w : World} (at_ : NdAt w n A1 c1 ks A2 c2 vs A3 c3) (ok : n.Ok) :
    Calls Try.prog 11 #[.agg (ndC n A1 c1 A2 c2 A3 c3)] w (Tells (Right n) w) := by
  have HAt := Lib.hid at_
  have Hok := Lib.hid ok
  clear at_ ok
  go_enter Try.func11, Try.ntmps11
  go_wp2_with (first
    | (refine wpList_boxN rfl _ rfl rfl ?_; intro w1 hr1 hb1 hz1; have HR := Lib.hid hr1; have HB := Lib.hid hb1; clear hr1 hb1)
    | (refine wpList_loadN ltP _ rfl rfl _ rfl HR.out ?_))
  refine (nput_any (HAt.out.keep HB.out) Hok.out).mono ?_
  rintro e w2 ⟨A, m, c, xs, er, rfl, hm, hp, ho, hb2⟩
  have b2 := HB.out.trans (hb2.mono HB.out.size)
  have HI := Lib.hid hp.iff
  clear hm hp ho hb2 HB HR
  go_wp2_with fail
  go_ret
  exact ⟨er == 0, rfl, by rw [← HI.out]; simp, b2⟩
/-- What Read answers. -/
def NReadEnds (b : List Int) (w : World) (e : Ending) (w' : World) : Prop :=
  ∃ (B : Nat) (M : Nd) (A1 : Option Addr) (c1 : Nat) (ks : List Value) (A2 : Option Addr) (c2 : Nat) (vs : List Value) (A3 : Option Addr) (c3 : Nat) (er : Int), e = .returned (.tuple #[.agg (ndC M A1 c1 A2 c2 A3 c3), .int .i64 er]) ∧ NdO w' B M A1 c1 ks A2 c2 vs A3 c3 ∧ ReadIs b M er ∧ Below w.heap.size w w'
theorem read_no {b xs : List Int} {M : Nd} {e : Int} (hM : ∀ N : Nd, N.Ok → Shape N → allB N = b → N = M) (p : PutOk M xs e) (h : e ≠ 0 ∨ xs ≠ b) : ReadIs b Nd.zero 11 := read_none fun N ok r hb => by
  have := hM N ok r.shape hb
  subst this
  rcases p with ⟨_, h3, h4⟩ | ⟨h1, _⟩
  · rcases h with h | h
    · exact h h4
    · exact h (h3.trans hb)
  · exact h1 r
theorem read_yes {b xs : List Int} {M : Nd} {e : Int} (ok : M.Ok) (p : PutOk M xs e) (h : e = 0) (hx : xs = b) : ReadIs b M 0 := by
  rcases p with ⟨h1, h3, h4⟩ | ⟨_, _, h4⟩
  · exact .inl ⟨rfl, ok, h1, by rw [← h3]; exact hx⟩
  · omega
set_option maxRecDepth 100000 in
set_option maxHeartbeats 8000000 in
theorem nread_any (A : Option Addr) (m c : Nat) (b : List Int) (w : World) (hm : m = b.length) (hs : Src .u8 w A b) (hb : IsBytes b) (hc : m ≤ c) (hcm : c ≤ 9223372036854775807) :
    Calls Try.prog 6 #[.slice A m c] w (NReadEnds b w) := by
  have Hm := Lib.hid hm
  have Hs := Lib.hid hs
  have Hb := Lib.hid hb
  clear hm hs hb
  by_cases hbig : 4096 < m
  · have t1 : decide ((4096 : Int) < (m : Int)) = true := by simp; omega
    go_enter Try.func6, Try.ntmps6
    go_wp2_with (first
      | (refine wpList_allocN ltP rfl rfl ?_; intro w1 r1 b1 z1; have R1 := Lib.hid r1; have B1 := Lib.hid b1; clear r1 b1)
      | (refine wpList_buildN0 ltP rfl rfl ?_)
      | (refine wpList_storeN ltP rfl _ _ rfl _ rfl rfl _ rfl R1.out ?_; intro w2 r2 o2; have R2 := Lib.hid r2; have B2 := Lib.hid (B1.out.trans o2.below); clear r2 o2))
    refine bodyPost_ret (results_node_tmp ltP rfl _ _ _ _ _ rfl R2.out) rfl ?_
    exact ⟨0, Nd.zero, none, 0, [], none, 0, [], none, 0, 11, rfl, NdO.nil _ _, read_none (long_right (by rw [← Hm.out]; exact hbig)), B2.out⟩
  · have t1 : decide ((4096 : Int) < (m : Int)) = false := by simp; omega
    go_enter Try.func6, Try.ntmps6
    go_wp2_with (refine wpList_allocN ltP rfl rfl ?_; intro w1 r1 b1 z1; have R1 := Lib.hid r1; have B1 := Lib.hid b1; clear r1 b1)
    refine (taken_any A m c b _ Hm.out (Hs.out.keep B1.out) Hb.out (by omega) hc hcm).mono ?_
    rintro r w2 ⟨B0, M, A1, c1, ks, A2, c2, vs, A3, c3, rfl, hat, hok, hb2, hun⟩
    have AT2 := Lib.hid hat
    have HOk := Lib.hid hok
    have HUn := Lib.hid hun
    have R2 := Lib.hid (R1.out.keep hb2)
    have B2 := Lib.hid (B1.out.trans (hb2.mono B1.out.size))
    clear hat hok hun hb2 R1 B1 z1
    go_wp2_with (first
      | (refine wpList_allocN ltP rfl rfl ?_; intro w3 r3 b3 z3)
      | (refine wpList_storeN ltP rfl _ _ rfl _ rfl rfl _ rfl r3 ?_; intro w4 r4 o4)
      | (refine wpList_loadN ltP _ rfl rfl _ rfl r4 ?_))
    have hne : w2.heap.size ≠ w.heap.size := by have := R2.out.lt; omega
    have h24 : Below w2.heap.size w2 w4 := b3.trans (o4.below.mono (Nat.le_refl _))
    have R4 := Lib.hid (R2.out.keep h24)
    have V4 := Lib.hid r4
    have AT4 := Lib.hid (AT2.out.keep h24)
    have B4 := Lib.hid (B2.out.trans (h24.mono B2.out.size))
    clear b3 z3 r3 r4 o4 h24 R2 AT2 B2
    refine (nput_any AT4.out.at_ HOk.out).mono ?_
    rintro r w5 ⟨S, k, d, xs, er, rfl, hk, hp, ho, hb5⟩
    have R5 := Lib.hid (R4.out.keep hb5)
    have V5 := Lib.hid (V4.out.keep hb5)
    have AT5 := Lib.hid (AT4.out.keep hb5)
    have B5 := Lib.hid (B4.out.trans (hb5.mono B4.out.size))
    have HP := Lib.hid hp
    have HKk := Lib.hid hk
    have HO := Lib.hid ho.src
    have HXB := Lib.hid (hp.bytes HOk.out)
    clear hk hp ho hb5 R4 V4 AT4 B4
    by_cases he : er = 0
    · by_cases hx : xs = b
      · have HX := Lib.hid hx
        have dx : decide (xs = b) = true := by simpa using hx
        have HRY := Lib.hid (read_yes HOk.out HP.out he hx)
        subst he
        clear hx
        go_wp2_with fail
        refine (Lex.equal_any S A k m d c xs b _ HKk.out HO.out HXB.out Hm.out (Hs.out.keep B5.out) Hb.out).mono ?_
        rw [dx]
        rintro r w6 ⟨rfl, rfl⟩
        clear dx
        go_wp2_with (first
          | (refine wpList_loadN ltP _ rfl rfl _ rfl V5.out ?_)
          | (refine wpList_storeN ltP rfl _ _ rfl _ rfl rfl _ rfl R5.out ?_; intro w7 r7 o7; have R7 := Lib.hid r7; have O7 := Lib.hid o7; clear r7 o7))
        refine bodyPost_ret (results_node_tmp ltP rfl _ _ _ _ _ rfl R7.out) rfl ?_
        exact ⟨B0, M, A1, c1, ks, A2, c2, vs, A3, c3, 0, rfl, AT5.out.only R5.out O7.out (by decide) (by decide) (by decide), HRY.out, B5.out.trans O7.out.below⟩
      · have dx : decide (xs = b) = false := by simpa using hx
        have HRN := Lib.hid (read_no HUn.out HP.out (.inr hx))
        subst he
        clear hx
        go_wp2_with fail
        refine (Lex.equal_any S A k m d c xs b _ HKk.out HO.out HXB.out Hm.out (Hs.out.keep B5.out) Hb.out).mono ?_
        rw [dx]
        rintro r w6 ⟨rfl, rfl⟩
        clear dx
        go_wp2_with (first
          | (refine wpList_buildN0 ltP rfl rfl ?_)
          | (refine wpList_storeN ltP rfl _ _ rfl _ rfl rfl _ rfl R5.out ?_; intro w7 r7 o7; have R7 := Lib.hid r7; have O7 := Lib.hid o7; clear r7 o7))
        refine bodyPost_ret (results_node_tmp ltP rfl _ _ _ _ _ rfl R7.out) rfl ?_
        exact ⟨0, Nd.zero, none, 0, [], none, 0, [], none, 0, 11, rfl, NdO.nil _ _, HRN.out, B5.out.trans O7.out.below⟩
    · have HRN := Lib.hid (read_no HUn.out HP.out (.inl he))
      have ne1 : (er == 0) = false := beq_eq_false_iff_ne.2 he
      have ne2 : (er != 0) = true := by rw [bne_iff_ne]; exact he
      clear he
      go_wp2_with (first
        | (refine wpList_buildN0 ltP rfl rfl ?_)
        | (refine wpList_storeN ltP rfl _ _ rfl _ rfl rfl _ rfl R5.out ?_; intro w7 r7 o7; have R7 := Lib.hid r7; have O7 := Lib.hid o7; clear r7 o7))
      refine bodyPost_ret (results_node_tmp ltP rfl _ _ _ _ _ rfl R7.out) rfl ?_
      exact ⟨0, Nd.zero, none, 0, [], none, 0, [], none, 0, 11, rfl, NdO.nil _ _, HRN.out, B5.out.trans O7.out.below⟩
end Lf
end Go.Proofs.Ytnoofmdhhlcbkaa

/- Read and Right, the program's: the right node that has these bytes, or an error; whether a node is right; nothing that was there is written. No conditions but those that stand in each lemma. -/
import Derived.Test.YtnoofmdhhlcbkaaLfTaken
import Derived.Test.YtnoofmdhhlcbkaaLfPut
import Derived.Test.YtnoofmdhhlcbkaaCmp
namespace Go.Proofs.Ytnoofmdhhlcbkaa
open Go.RowKit
namespace Lf
open Els

theorem ret_bool_ {a b : Bool} (h : a = b) : Ending.returned (.bool a) = Ending.returned (.bool b) := by rw [h]
set_option maxHeartbeats 1000000 in
theorem nright_any {n : Nd} {A1 : Option Addr} {c1 : Nat} {ks : List Value} {A2 : Option Addr} {c2 : Nat} {vs : List Value} {A3 : Option Addr} {c3 : Nat} {w : World} (at_ : NdAt w n A1 c1 ks A2 c2 vs A3 c3) (ok : n.Ok) :
    Calls Try.prog 11 #[.agg (ndC n A1 c1 A2 c2 A3 c3)] w (Tells (Right n) w) := by
  have HAt := Lib.hid at_
  have Hok := Lib.hid ok
  clear at_ ok
  go_enter Try.func11, Try.ntmps11
  go_wp2_with (first
    | (refine wpList_boxN rfl _ rfl rfl ?_; intro w1 hr1 hb1 hz1; have HR := Lib.hid hr1; have HB := Lib.hid hb1; clear hr1 hb1)
    | (refine wpList_loadN ltP _ rfl rfl _ rfl HR.out ?_))
  refine (nput_any (HAt.out.keep HB.out) Hok.out).mono ?_
  rintro e w2 ⟨A, m, c, xs, er, rfl, hm, hp, ho, hb2⟩
  have b2 := HB.out.trans (hb2.mono HB.out.size)
  have HI := Lib.hid hp.iff
  clear hm hp ho hb2 HB HR
  go_wp2_with fail
  go_ret
  exact ⟨er == 0, rfl, by rw [← HI.out]; simp, b2⟩
/-- What Read answers. -/
def NReadEnds (b : List Int) (w : World) (e : Ending) (w' : World) : Prop :=
  ∃ (B : Nat) (M : Nd) (A1 : Option Addr) (c1 : Nat) (ks : List Value) (A2 : Option Addr) (c2 : Nat) (vs : List Value) (A3 : Option Addr) (c3 : Nat) (er : Int), e = .returned (.tuple #[.agg (ndC M A1 c1 A2 c2 A3 c3), .int .i64 er]) ∧ NdO w' B M A1 c1 ks A2 c2 vs A3 c3 ∧ ReadIs b M er ∧ Below w.heap.size w w'
theorem read_no {b xs : List Int} {M : Nd} {e : Int} (hM : ∀ N : Nd, N.Ok → Shape N → allB N = b → N = M) (p : PutOk M xs e) (h : e ≠ 0 ∨ xs ≠ b) : ReadIs b Nd.zero 11 := read_none fun N ok r hb => by
  have := hM N ok r.shape hb
  subst this
  rcases p with ⟨_, h3, h4⟩ | ⟨h1, _⟩
  · rcases h with h | h
    · exact h h4
    · exact h (h3.trans hb)
  · exact h1 r
theorem read_yes {b xs : List Int} {M : Nd} {e : Int} (ok : M.Ok) (p : PutOk M xs e) (h : e = 0) (hx : xs = b) : ReadIs b M 0 := by
  rcases p with ⟨h1, h3, h4⟩ | ⟨_, _, h4⟩
  · exact .inl ⟨rfl, ok, h1, by rw [← h3]; exact hx⟩
  · omega
set_option maxRecDepth 100000 in
set_option maxHeartbeats 8000000 in
theorem nread_any (A : Option Addr) (m c : Nat) (b : List Int) (w : World) (hm : m = b.length) (hs : Src .u8 w A b) (hb : IsBytes b) (hc : m ≤ c) (hcm : c ≤ 9223372036854775807) :
    Calls Try.prog 6 #[.slice A m c] w (NReadEnds b w) := by
  have Hm := Lib.hid hm
  have Hs := Lib.hid hs
  have Hb := Lib.hid hb
  clear hm hs hb
  by_cases hbig : 4096 < m
  · have t1 : decide ((4096 : Int) < (m : Int)) = true := by simp; omega
    go_enter Try.func6, Try.ntmps6
    go_wp2_with (first
      | (refine wpList_allocN ltP rfl rfl ?_; intro w1 r1 b1 z1; have R1 := Lib.hid r1; have B1 := Lib.hid b1; clear r1 b1)
      | (refine wpList_buildN0 ltP rfl rfl ?_)
      | (refine wpList_storeN ltP rfl _ _ rfl _ rfl rfl _ rfl R1.out ?_; intro w2 r2 o2; have R2 := Lib.hid r2; have B2 := Lib.hid (B1.out.trans o2.below); clear r2 o2))
    refine bodyPost_ret (results_node_tmp ltP rfl _ _ _ _ _ rfl R2.out) rfl ?_
    exact ⟨0, Nd.zero, none, 0, [], none, 0, [], none, 0, 11, rfl, NdO.nil _ _, read_none (long_right (by rw [← Hm.out]; exact hbig)), B2.out⟩
  · have t1 : decide ((4096 : Int) < (m : Int)) = false := by simp; omega
    go_enter Try.func6, Try.ntmps6
    go_wp2_with (refine wpList_allocN ltP rfl rfl ?_; intro w1 r1 b1 z1; have R1 := Lib.hid r1; have B1 := Lib.hid b1; clear r1 b1)
    refine (taken_any A m c b _ Hm.out (Hs.out.keep B1.out) Hb.out (by omega) hc hcm).mono ?_
    rintro r w2 ⟨B0, M, A1, c1, ks, A2, c2, vs, A3, c3, rfl, hat, hok, hb2, hun⟩
    have AT2 := Lib.hid hat
    have HOk := Lib.hid hok
    have HUn := Lib.hid hun
    have R2 := Lib.hid (R1.out.keep hb2)
    have B2 := Lib.hid (B1.out.trans (hb2.mono B1.out.size))
    clear hat hok hun hb2 R1 B1 z1
    go_wp2_with (first
      | (refine wpList_allocN ltP rfl rfl ?_; intro w3 r3 b3 z3)
      | (refine wpList_storeN ltP rfl _ _ rfl _ rfl rfl _ rfl r3 ?_; intro w4 r4 o4)
      | (refine wpList_loadN ltP _ rfl rfl _ rfl r4 ?_))
    have hne : w2.heap.size ≠ w.heap.size := by have := R2.out.lt; omega
    have h24 : Below w2.heap.size w2 w4 := b3.trans (o4.below.mono (Nat.le_refl _))
    have R4 := Lib.hid (R2.out.keep h24)
    have V4 := Lib.hid r4
    have AT4 := Lib.hid (AT2.out.keep h24)
    have B4 := Lib.hid (B2.out.trans (h24.mono B2.out.size))
    clear b3 z3 r3 r4 o4 h24 R2 AT2 B2
    refine (nput_any AT4.out.at_ HOk.out).mono ?_
    rintro r w5 ⟨S, k, d, xs, er, rfl, hk, hp, ho, hb5⟩
    have R5 := Lib.hid (R4.out.keep hb5)
    have V5 := Lib.hid (V4.out.keep hb5)
    have AT5 := Lib.hid (AT4.out.keep hb5)
    have B5 := Lib.hid (B4.out.trans (hb5.mono B4.out.size))
    have HP := Lib.hid hp
    have HKk := Lib.hid hk
    have HO := Lib.hid ho.src
    have HXB := Lib.hid (hp.bytes HOk.out)
    clear hk hp ho hb5 R4 V4 AT4 B4
    by_cases he : er = 0
    · by_cases hx : xs = b
      · have HX := Lib.hid hx
        have dx : decide (xs = b) = true := by simpa using hx
        have HRY := Lib.hid (read_yes HOk.out HP.out he hx)
        subst he
        clear hx
        go_wp2_with fail
        refine (Lex.equal_any S A k m d c xs b _ HKk.out HO.out HXB.out Hm.out (Hs.out.keep B5.out) Hb.out).mono ?_
        rw [dx]
        rintro r w6 ⟨rfl, rfl⟩
        clear dx
        go_wp2_with (first
          | (refine wpList_loadN ltP _ rfl rfl _ rfl V5.out ?_)
          | (refine wpList_storeN ltP rfl _ _ rfl _ rfl rfl _ rfl R5.out ?_; intro w7 r7 o7; have R7 := Lib.hid r7; have O7 := Lib.hid o7; clear r7 o7))
        refine bodyPost_ret (results_node_tmp ltP rfl _ _ _ _ _ rfl R7.out) rfl ?_
        exact ⟨B0, M, A1, c1, ks, A2, c2, vs, A3, c3, 0, rfl, AT5.out.only R5.out O7.out (by decide) (by decide) (by decide), HRY.out, B5.out.trans O7.out.below⟩
      · have dx : decide (xs = b) = false := by simpa using hx
        have HRN := Lib.hid (read_no HUn.out HP.out (.inr hx))
        subst he
        clear hx
        go_wp2_with fail
        refine (Lex.equal_any S A k m d c xs b _ HKk.out HO.out HXB.out Hm.out (Hs.out.keep B5.out) Hb.out).mono ?_
        rw [dx]
        rintro r w6 ⟨rfl, rfl⟩
        clear dx
        go_wp2_with (first
          | (refine wpList_buildN0 ltP rfl rfl ?_)
          | (refine wpList_storeN ltP rfl _ _ rfl _ rfl rfl _ rfl R5.out ?_; intro w7 r7 o7; have R7 := Lib.hid r7; have O7 := Lib.hid o7; clear r7 o7))
        refine bodyPost_ret (results_node_tmp ltP rfl _ _ _ _ _ rfl R7.out) rfl ?_
        exact ⟨0, Nd.zero, none, 0, [], none, 0, [], none, 0, 11, rfl, NdO.nil _ _, HRN.out, B5.out.trans O7.out.below⟩
    · have HRN := Lib.hid (read_no HUn.out HP.out (.inl he))
      have ne1 : (er == 0) = false := beq_eq_false_iff_ne.2 he
      have ne2 : (er != 0) = true := by rw [bne_iff_ne]; exact he
      clear he
      go_wp2_with (first
        | (refine wpList_buildN0 ltP rfl rfl ?_)
        | (refine wpList_storeN ltP rfl _ _ rfl _ rfl rfl _ rfl R5.out ?_; intro w7 r7 o7; have R7 := Lib.hid r7; have O7 := Lib.hid o7; clear r7 o7))
      refine bodyPost_ret (results_node_tmp ltP rfl _ _ _ _ _ rfl R7.out) rfl ?_
      exact ⟨0, Nd.zero, none, 0, [], none, 0, [], none, 0, 11, rfl, NdO.nil _ _, HRN.out, B5.out.trans O7.out.below⟩
end Lf
end Go.Proofs.Ytnoofmdhhlcbkaa

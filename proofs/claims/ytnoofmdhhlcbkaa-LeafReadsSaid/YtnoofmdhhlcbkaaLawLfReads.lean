/- Put and Read, the document's: a right node's bytes, or an error; the right node that has these bytes, or an error. No conditions but those that stand in each lemma. | Same, the document's: of equal nodes it is true; nothing that was there is written. No conditions but those that stand in each lemma. | LeafReads' walk: any bytes are the document's node, or none; bytes that are known are a node of one key. -/
import Derived.Test.YtnoofmdhhlcbkaaLfRefShape
import Derived.Test.YtnoofmdhhlcbkaaLfRefParse
import Derived.Test.YtnoofmdhhlcbkaaLfRead
import Derived.Lib.SlBytesConst

namespace Go.Proofs.Ytnoofmdhhlcbkaa
open Go.RowKit
namespace Lf
open Els

set_option maxHeartbeats 4000000 in
theorem rput_any {n : Nd} {A1 : Option Addr} {c1 : Nat} {ks : List Value} {A2 : Option Addr} {c2 : Nat} {vs : List Value} {A3 : Option Addr} {c3 : Nat} {w : World} (at_ : NdAt w n A1 c1 ks A2 c2 vs A3 c3) (ok : n.Ok) (hv : lensOf n.vals n.keys.length ≤ 20000) :
    Calls Try.prog 17 #[.agg (ndC n A1 c1 A2 c2 A3 c3)] w (PutEnds n w) := by
  have HAt := Lib.hid at_
  have Hok := Lib.hid ok
  have Hv := Lib.hid hv
  clear at_ ok hv
  go_enter Try.func17, Try.ntmps17
  go_wp2_with (first
    | ((with_reducible refine opBox (n := n) (A1 := A1) (c1 := c1) (A2 := A2) (c2 := c2) (A3 := A3) (c3 := c3) ?_ ?_); (focus rfl); intro w1 hr1 hb1 hz1; have HR := Lib.hid hr1; have HB := Lib.hid hb1; clear hr1 hb1)
    | ((with_reducible refine opLoad w.heap.size HR.out ?_ ?_ ?_); (focus rfl); (focus rfl)))
  refine (rshape_any (HAt.out.keep HB.out) Hok.out).mono ?_
  rintro e w2 ⟨x1, rfl, hf, hb2⟩
  have HR2 := Lib.hid (HR.out.keep hb2)
  have B2 := Lib.hid (HB.out.trans (hb2.mono HB.out.size))
  clear HR HB hb2
  cases x1 with
  | false =>
    have HF : Hid (¬ Shape n) := fun f => by have := hf.2 f; cases this
    clear hf
    go_wp2_with fail
    go_ret2
    exact ⟨none, 0, 0, [], 2, rfl, rfl, .inr ⟨fun r => HF.out r.shape, rfl, .inl rfl⟩, own_nil _ _, B2.out⟩
  | true =>
    have HF : Hid (Shape n) := hf.1 rfl
    clear hf
    go_wp2_with ((with_reducible refine opLoad w.heap.size HR2.out ?_ ?_ ?_); (focus rfl); (focus rfl))
    refine (rall_any (HAt.out.keep B2.out) Hok.out HF.out (fun _ => Hv.out)).mono ?_
    rintro e w3 ⟨v3, rfl, A4, n4, c4, rfl, hn4, ho4, hb3⟩
    have hl := all_most HF.out Hok.out (fun _ => Hv.out)
    have HN4 := Lib.hid hn4
    have HO4 := Lib.hid (ho4.more B2.out.size)
    have B3 := Lib.hid (B2.out.trans (hb3.mono B2.out.size))
    have hn4' : n4 ≤ 885000 := by omega
    clear hn4 ho4 hb3 B2 HR2 hl
    by_cases hbig : 4096 < n4
    · have d1 : decide (4096 < n4) = true := by simp; omega
      have d2 : decide ((4096 : Int) < (n4 : Int)) = true := by simp; omega
      go_wp2_with fail
      go_ret2
      exact ⟨none, 0, 0, [], 3, rfl, rfl, .inr ⟨fun r => by have := r.len; have := HN4.out; omega, rfl, .inr rfl⟩, own_nil _ _, B3.out⟩
    · have d1 : decide (4096 < n4) = false := by simp; omega
      have d2 : decide ((4096 : Int) < (n4 : Int)) = false := by simp; omega
      go_wp2_with fail
      go_ret2
      exact ⟨A4, n4, c4, allB n, 0, rfl, HN4.out, .inl ⟨⟨HF.out, by have := HN4.out; omega⟩, rfl, rfl⟩, HO4.out, B3.out⟩
/-- What Read answers. -/
def RReadEnds (b : List Int) (w : World) (e : Ending) (w' : World) : Prop :=
  ∃ (B : Nat) (M : Nd) (A1 : Option Addr) (c1 : Nat) (ks : List Value) (A2 : Option Addr) (c2 : Nat) (vs : List Value) (A3 : Option Addr) (c3 : Nat) (er : Int), e = .returned (.tuple #[.agg (ndC M A1 c1 A2 c2 A3 c3), .int .i64 er]) ∧ NdO w' B M A1 c1 ks A2 c2 vs A3 c3 ∧ ReadIs b M er ∧ Below w.heap.size w w'
set_option maxRecDepth 100000 in
set_option maxHeartbeats 8000000 in
theorem rread_any (A : Option Addr) (m c : Nat) (b : List Int) (w : World) (hm : m = b.length) (hs : Src .u8 w A b) (hb : IsBytes b) (hc : m ≤ c) (hcm : c ≤ 9223372036854775807) :
    Calls Try.prog 7 #[.slice A m c] w (RReadEnds b w) := by
  have Hm := Lib.hid hm
  have Hs := Lib.hid hs
  have Hb := Lib.hid hb
  clear hm hs hb
  by_cases hbig : 4096 < m
  · have t1 : decide ((4096 : Int) < (m : Int)) = true := by simp; omega
    have t2 : decide (4096 < m) = true := by simp; omega
    go_enter Try.func7, Try.ntmps7
    go_wp2_with (first
      | ((with_reducible refine opAlloc ?_); intro w1 r1 b1 z1; have R1 := Lib.hid r1; have B1 := Lib.hid b1; clear r1 b1)
      | ((with_reducible refine opBuild0 ?_ ?_); (focus rfl))
      | ((with_reducible refine opStore Nd.zero none 0 none 0 none 0 w.heap.size R1.out rfl ?_ ?_ ?_); (focus rfl); (focus rfl); intro w2 r2 o2; have R2 := Lib.hid r2; have B2 := Lib.hid (B1.out.trans o2.below); clear r2 o2))
    refine bodyPost_ret (results_node_tmp ltR rfl _ _ _ _ _ rfl R2.out) rfl ?_
    exact ⟨0, Nd.zero, none, 0, [], none, 0, [], none, 0, 11, rfl, NdO.nil _ _, read_none (long_right (by rw [← Hm.out]; exact hbig)), B2.out⟩
  · have t1 : decide ((4096 : Int) < (m : Int)) = false := by simp; omega
    have t2 : decide (4096 < m) = false := by simp; omega
    go_enter Try.func7, Try.ntmps7
    go_wp2_with ((with_reducible refine opAlloc ?_); intro w1 r1 b1 z1; have R1 := Lib.hid r1; have B1 := Lib.hid b1; clear r1 b1)
    refine (rparse_any (A := A) (q := m) (c := c) (b := b) ⟨Hm.out, Hs.out.keep B1.out, hc, hcm, Hb.out, by omega⟩ (by omega)).mono ?_
    rintro r w2 ⟨B0, M, A1, c1, ks, A2, c2, vs, A3, c3, ok, rfl, hat, hb2, hyes, hno⟩
    have AT2 := Lib.hid hat
    have HY := Lib.hid hyes
    have HNo := Lib.hid hno
    have R2 := Lib.hid (R1.out.keep hb2)
    have B2 := Lib.hid (B1.out.trans (hb2.mono B1.out.size))
    clear hat hyes hno hb2 R1 B1 z1
    cases ok with
    | false =>
      have HNd : Hid (NoNd b) := HNo.out rfl
      clear HY HNo
      go_wp2_with (first
        | ((with_reducible refine opAlloc ?_); intro w3 r3 b3 z3)
        | ((with_reducible refine opStore M A1 c1 A2 c2 A3 c3 w2.heap.size r3 rfl ?_ ?_ ?_); (focus rfl); (focus rfl); intro w4 r4 o4; have h24 := b3.trans (o4.below.mono (Nat.le_refl _)); have R4 := Lib.hid (R2.out.keep h24); have B4 := Lib.hid (B2.out.trans (h24.mono B2.out.size)); clear h24 r4 o4 r3 b3)
        | ((with_reducible refine opBuild0 ?_ ?_); (focus rfl))
        | ((with_reducible refine opStore Nd.zero none 0 none 0 none 0 w.heap.size R4.out rfl ?_ ?_ ?_); (focus rfl); (focus rfl); intro w7 r7 o7; have R7 := Lib.hid r7; have O7 := Lib.hid o7; clear r7 o7))
      refine bodyPost_ret (results_node_tmp ltR rfl _ _ _ _ _ rfl R7.out) rfl ?_
      exact ⟨0, Nd.zero, none, 0, [], none, 0, [], none, 0, 11, rfl, NdO.nil _ _, read_none (no_right HNd.out), B4.out.trans O7.out.below⟩
    | true =>
      have HOk : Hid M.Ok := (HY.out rfl).1
      have HLe : Hid (lensOf M.vals M.keys.length ≤ 20000) := (HY.out rfl).2.1
      have HUn : Hid (∀ N : Nd, N.Ok → Shape N → allB N = b → N = M) := (HY.out rfl).2.2
      clear HY HNo
      go_wp2_with (first
        | ((with_reducible refine opAlloc ?_); intro w3 r3 b3 z3)
        | ((with_reducible refine opStore M A1 c1 A2 c2 A3 c3 w2.heap.size r3 rfl ?_ ?_ ?_); (focus rfl); (focus rfl); intro w4 r4 o4)
        | ((with_reducible refine opLoad w2.heap.size r4 ?_ ?_ ?_); (focus rfl); (focus rfl)))
      have h24 : Below w2.heap.size w2 w4 := b3.trans (o4.below.mono (Nat.le_refl _))
      have R4 := Lib.hid (R2.out.keep h24)
      have V4 := Lib.hid r4
      have AT4 := Lib.hid (AT2.out.keep h24)
      have B4 := Lib.hid (B2.out.trans (h24.mono B2.out.size))
      clear b3 z3 r3 r4 o4 h24 R2 AT2 B2
      refine (rput_any AT4.out.at_ HOk.out HLe.out).mono ?_
      rintro r w5 ⟨S, k, d, xs, er, rfl, hk, hp, ho, hb5⟩
      have R5 := Lib.hid (R4.out.keep hb5)
      have V5 := Lib.hid (V4.out.keep hb5)
      have AT5 := Lib.hid (AT4.out.keep hb5)
      have B5 := Lib.hid (B4.out.trans (hb5.mono B4.out.size))
      have HP := Lib.hid hp
      have HXB := Lib.hid (hp.bytes HOk.out)
      have kx := run_text w5 S k d xs hk ho.src
      have kb := run_text w5 A m c b Hm.out (Hs.out.keep B5.out)
      have HE := Lib.hid (Lex.eq_texts xs b HXB.out Hb.out)
      clear hk hp ho hb5 R4 V4 AT4 B4
      by_cases he : er = 0
      · by_cases hx : xs = b
        · have HRY := Lib.hid (read_yes HOk.out HP.out he hx)
          subst he
          rw [hx] at kx
          clear hx
          generalize strOfNums b = Y at *
          go_wp2_with (first
            | ((with_reducible refine opLoad w2.heap.size V5.out ?_ ?_ ?_); (focus rfl); (focus rfl))
            | ((with_reducible refine opStore M A1 c1 A2 c2 A3 c3 w.heap.size R5.out rfl ?_ ?_ ?_); (focus rfl); (focus rfl); intro w7 r7 o7; have R7 := Lib.hid r7; have O7 := Lib.hid o7; clear r7 o7))
          refine bodyPost_ret (results_node_tmp ltR rfl _ _ _ _ _ rfl R7.out) rfl ?_
          exact ⟨B0, M, A1, c1, ks, A2, c2, vs, A3, c3, 0, rfl, AT5.out.only R5.out O7.out (by decide) (by decide) (by decide), HRY.out, B5.out.trans O7.out.below⟩
        · have HRN := Lib.hid (read_no HUn.out HP.out (.inr hx))
          subst he
          have hE := HE.out
          rw [decide_eq_false hx] at hE
          clear hx
          generalize strOfNums b = Y at *
          generalize strOfNums xs = X at *
          go_wp2_with (first
            | ((with_reducible refine opBuild0 ?_ ?_); (focus rfl))
            | ((with_reducible refine opStore Nd.zero none 0 none 0 none 0 w.heap.size R5.out rfl ?_ ?_ ?_); (focus rfl); (focus rfl); intro w7 r7 o7; have R7 := Lib.hid r7; have O7 := Lib.hid o7; clear r7 o7))
          refine bodyPost_ret (results_node_tmp ltR rfl _ _ _ _ _ rfl R7.out) rfl ?_
          exact ⟨0, Nd.zero, none, 0, [], none, 0, [], none, 0, 11, rfl, NdO.nil _ _, HRN.out, B5.out.trans O7.out.below⟩
      · have HRN := Lib.hid (read_no HUn.out HP.out (.inl he))
        have ne1 : (er == 0) = false := beq_eq_false_iff_ne.2 he
        have ne2 : (er != 0) = true := by rw [bne_iff_ne]; exact he
        clear he kx kb
        go_wp2_with (first
          | ((with_reducible refine opBuild0 ?_ ?_); (focus rfl))
          | ((with_reducible refine opStore Nd.zero none 0 none 0 none 0 w.heap.size R5.out rfl ?_ ?_ ?_); (focus rfl); (focus rfl); intro w7 r7 o7; have R7 := Lib.hid r7; have O7 := Lib.hid o7; clear r7 o7))
        refine bodyPost_ret (results_node_tmp ltR rfl _ _ _ _ _ rfl R7.out) rfl ?_
        exact ⟨0, Nd.zero, none, 0, [], none, 0, [], none, 0, 11, rfl, NdO.nil _ _, HRN.out, B5.out.trans O7.out.below⟩
end Lf
end Go.Proofs.Ytnoofmdhhlcbkaa

namespace Go.Proofs.Ytnoofmdhhlcbkaa
open Go.RowKit
namespace Lf
open Els

theorem rneq_self {ρ : Operand → Value} {o : Oper} {t : TypeId} {x y : Operand} (ho : o.op = .binOp .neq 43 x y t) {p : Pt} (hp : p.sha.length = 32) (hx : ρ x = .agg (pcells p)) (hy : ρ y = .agg (pcells p)) (w : World) : (execOp ρ o).run Try.prog w = .ok (.value (.bool false)) w := by
  have hm : Try.prog.eqGuardType Try.prog.depth 43 = false := by kernel_rfl
  have h := neq_pts w p p hp hp
  rw [Pt.same_self] at h
  unfold execOp
  simp only [ho, hx, hy, Sem.run_bind, run_eqGuard_agg (hm := hm), h, Result.andThen_ok, Sem.run_pure]
  rfl
/-- At a round's head. -/
def RSameAt (w : World) (m : Nat) (cs ds : Array Value) (i : Value) (wr : World) : Prop :=
  ∃ k : Nat, k ≤ m ∧ i = .int .i64 (k : Int) ∧ Row wr w.heap.size 30 cs ∧ Row wr (w.heap.size + 1) 30 ds ∧ Below w.heap.size w wr
set_option maxRecDepth 100000 in
set_option maxHeartbeats 16000000 in
theorem rsame_any {n : Nd} {A1 : Option Addr} {c1 : Nat} {ks : List Value} {A2 : Option Addr} {c2 : Nat} {vs : List Value} {A3 : Option Addr} {c3 : Nat} {B1 : Option Addr} {d1 : Nat} {ls : List Value} {B2 : Option Addr} {d2 : Nat} {us : List Value} {B3 : Option Addr} {d3 : Nat} {w : World}
    (at_ : NdAt w n A1 c1 ks A2 c2 vs A3 c3) (bt : NdAt w n B1 d1 ls B2 d2 us B3 d3) (ok : n.Ok) :
    Calls Try.prog 8 #[.agg (ndC n A1 c1 A2 c2 A3 c3), .agg (ndC n B1 d1 B2 d2 B3 d3)] w fun e w' => e = .returned (.bool true) ∧ Below w.heap.size w w' := by
  have HAt := Lib.hid at_
  have HBt := Lib.hid bt
  have Hok := Lib.hid ok
  have m1 : n.keys.length ≤ 9223372036854775807 := by have := at_.keys.cap; have := at_.keys.max; unfold maxLen at this; omega
  have m2 : n.vals.length ≤ 9223372036854775807 := by have := at_.vals.cap; have := at_.vals.max; unfold maxLen at this; omega
  have m3 : n.kids.length ≤ 9223372036854775807 := by have := at_.cap; have := at_.max; unfold maxLen at this; omega
  clear at_ bt ok
  go_enter Try.func8, Try.ntmps8
  go_wp2_with (first
    | ((with_reducible refine opBox (n := n) (A1 := A1) (c1 := c1) (A2 := A2) (c2 := c2) (A3 := A3) (c3 := c3) ?_ ?_); (focus rfl); intro w1 hr1 hb1 hz1)
    | ((with_reducible refine opBox (n := n) (A1 := B1) (c1 := d1) (A2 := B2) (c2 := d2) (A3 := B3) (c3 := d3) ?_ ?_); (focus rfl); intro w2 hr2 hb2 hz2; have g1 := hr1.keep hb2; rw [hz1] at hr2; have HR1 := Lib.hid g1; have HR2 := Lib.hid hr2; have HB := Lib.hid (hb1.trans (hb2.mono hb1.size)); have p0 := row_level g1; have p1 := row_keys g1; have p2 := row_vals g1; have p3 := row_kids g1; have s0 := row_level hr2; have s1 := row_keys hr2; have s2 := row_vals hr2; have s3 := row_kids hr2; clear hr1 hb1 hr2 hb2 g1; rw [hz1]))
  clear p0 p1 p2 p3 s0 s1 s2 s3
  go_loopw [5] (fun i wr => RSameAt w n.keys.length (ndC n A1 c1 A2 c2 A3 c3) (ndC n B1 d1 B2 d2 B3 d3) i wr) (fun i _ => n.keys.length - (intOf i).toNat)
  case atStart => exact ⟨0, Nat.zero_le _, rfl, HR1.out, HR2.out, HB.out⟩
  case round =>
    clear HR1 HR2 HB
    obtain ⟨i, hi, rfl, hr1, hr2, hb⟩ := hrel
    have HR1 := Lib.hid hr1
    have HR2 := Lib.hid hr2
    have HB := Lib.hid hb
    have z1 := row_keys hr1
    clear hr1 hr2 hb
    by_cases hlt : i < n.keys.length
    · have i1 : (i : Int) < (n.keys.length : Int) := by omega
      have q1 := HR1.out.drew.above (ndC_1 n A1 c1 A2 c2 A3 c3)
      have q2 := HR2.out.drew.above (ndC_1 n B1 d1 B2 d2 B3 d3)
      obtain ⟨b1, o1, v1, hA1, hlt1, hcell1, S1, e1, hv1, hsrc1, _, _⟩ := (HAt.out.keys.keep HB.out).at_ i hlt
      obtain ⟨b2, o2, v2, hA2, hlt2, hcell2, S2, e2, hv2, hsrc2, _, _⟩ := (HBt.out.keys.keep HB.out).at_ i hlt
      rw [hA1] at q1
      rw [hA2] at q2
      rw [hv1] at hcell1
      rw [hv2] at hcell2
      obtain ⟨y, HY⟩ : ∃ y, Hid (y = n.keys.getD i []) := ⟨_, rfl⟩
      rw [← HY.out] at hcell1 hcell2 hsrc1 hsrc2
      have k1 : ∀ g : Above wr.drew, g.1.cell? ⟨b1, o1 + i, none⟩ = some (.slice S1 y.length e1) := fun g => ((Ext.trans (Ext.drew wr) g.2).cell (p := ⟨b1, o1 + i, none⟩) hlt1).trans hcell1
      have k2 : ∀ g : Above wr.drew, g.1.cell? ⟨b2, o2 + i, none⟩ = some (.slice S2 y.length e2) := fun g => ((Ext.trans (Ext.drew wr) g.2).cell (p := ⟨b2, o2 + i, none⟩) hlt2).trans hcell2
      have k3 : ∀ g : Above wr.drew, (convert 22 9 (.slice S1 y.length e1)).run Try.prog g.1 = .ok (.string (strOfNums y)) g.1 := fun g => run_text g.1 S1 _ e1 y rfl (hsrc1.keep (Ext.trans (Ext.drew wr) g.2))
      have k4 : ∀ g : Above wr.drew, (convert 22 9 (.slice S2 y.length e2)).run Try.prog g.1 = .ok (.string (strOfNums y)) g.1 := fun g => run_text g.1 S2 _ e2 y rfl (hsrc2.keep (Ext.trans (Ext.drew wr) g.2))
      generalize strOfNums y = Y at *
      clear hA1 hA2 hv1 hv2 hcell1 hcell2 hsrc1 hsrc2
      go_wp2_with fail
      refine wp_region_segs [] [0, 1, 2, 3, 4, 5, 6, 7, 8, 9, 10, 11, 12] (by kernel_rfl) (by kernel_rfl) (by kernel_rfl) (by kernel_rfl) (fun _ _ d _ _ h => by cases d <;> exact h) ?_
      refine wpSegs_last (by simp [pickOps]; rfl) ?_
      repeat (go_big_quiet_step (fail))
      refine wpQuiet_nil ?_
      clear q1 q2 k1 k2 k3 k4
      go_wp2_with fail
      go_roundw
      case rel => exact ⟨i + 1, by omega, by go_num, HR1.out.drew, HR2.out.drew, Below.drew HB.out⟩
      case measure => simp [intOf]; omega
    · have i1 : ¬ (i : Int) < (n.keys.length : Int) := by omega
      have z2 := row_vals HR1.out
      go_wp2_with fail
      clear hi hlt i1
      go_loopw [6] (fun i wr => RSameAt w n.vals.length (ndC n A1 c1 A2 c2 A3 c3) (ndC n B1 d1 B2 d2 B3 d3) i wr) (fun i _ => n.vals.length - (intOf i).toNat)
      case atStart => exact ⟨0, Nat.zero_le _, rfl, HR1.out, HR2.out, HB.out⟩
      case round =>
        clear HR1 HR2 HB
        obtain ⟨i, hi, rfl, hr1, hr2, hb⟩ := hrel
        have HR1 := Lib.hid hr1
        have HR2 := Lib.hid hr2
        have HB := Lib.hid hb
        have z1 := row_vals hr1
        clear hr1 hr2 hb
        by_cases hlt : i < n.vals.length
        · have i1 : (i : Int) < (n.vals.length : Int) := by omega
          have q1 := HR1.out.drew.above (ndC_2 n A1 c1 A2 c2 A3 c3)
          have q2 := HR2.out.drew.above (ndC_2 n B1 d1 B2 d2 B3 d3)
          obtain ⟨b1, o1, v1, hA1, hlt1, hcell1, S1, e1, hv1, hsrc1, _, _⟩ := (HAt.out.vals.keep HB.out).at_ i hlt
          obtain ⟨b2, o2, v2, hA2, hlt2, hcell2, S2, e2, hv2, hsrc2, _, _⟩ := (HBt.out.vals.keep HB.out).at_ i hlt
          rw [hA1] at q1
          rw [hA2] at q2
          rw [hv1] at hcell1
          rw [hv2] at hcell2
          obtain ⟨y, HY⟩ : ∃ y, Hid (y = n.vals.getD i []) := ⟨_, rfl⟩
          rw [← HY.out] at hcell1 hcell2 hsrc1 hsrc2
          have k1 : ∀ g : Above wr.drew, g.1.cell? ⟨b1, o1 + i, none⟩ = some (.slice S1 y.length e1) := fun g => ((Ext.trans (Ext.drew wr) g.2).cell (p := ⟨b1, o1 + i, none⟩) hlt1).trans hcell1
          have k2 : ∀ g : Above wr.drew, g.1.cell? ⟨b2, o2 + i, none⟩ = some (.slice S2 y.length e2) := fun g => ((Ext.trans (Ext.drew wr) g.2).cell (p := ⟨b2, o2 + i, none⟩) hlt2).trans hcell2
          have k3 : ∀ g : Above wr.drew, (convert 22 9 (.slice S1 y.length e1)).run Try.prog g.1 = .ok (.string (strOfNums y)) g.1 := fun g => run_text g.1 S1 _ e1 y rfl (hsrc1.keep (Ext.trans (Ext.drew wr) g.2))
          have k4 : ∀ g : Above wr.drew, (convert 22 9 (.slice S2 y.length e2)).run Try.prog g.1 = .ok (.string (strOfNums y)) g.1 := fun g => run_text g.1 S2 _ e2 y rfl (hsrc2.keep (Ext.trans (Ext.drew wr) g.2))
          generalize strOfNums y = Y at *
          clear hA1 hA2 hv1 hv2 hcell1 hcell2 hsrc1 hsrc2
          go_wp2_with fail
          refine wp_region_segs [] [0, 1, 2, 3, 4, 5, 6, 7, 8, 9, 10, 11, 12] (by kernel_rfl) (by kernel_rfl) (by kernel_rfl) (by kernel_rfl) (fun _ _ d _ _ h => by cases d <;> exact h) ?_
          refine wpSegs_last (by simp [pickOps]; rfl) ?_
          repeat (go_big_quiet_step (fail))
          refine wpQuiet_nil ?_
          clear q1 q2 k1 k2 k3 k4
          go_wp2_with fail
          go_roundw
          case rel => exact ⟨i + 1, by omega, by go_num, HR1.out.drew, HR2.out.drew, Below.drew HB.out⟩
          case measure => simp [intOf]; omega
        · have i1 : ¬ (i : Int) < (n.vals.length : Int) := by omega
          have z3 := row_kids HR1.out
          go_wp2_with fail
          clear hi hlt i1
          go_loopw [7] (fun i wr => RSameAt w n.kids.length (ndC n A1 c1 A2 c2 A3 c3) (ndC n B1 d1 B2 d2 B3 d3) i wr) (fun i _ => n.kids.length - (intOf i).toNat)
          case atStart => exact ⟨0, Nat.zero_le _, rfl, HR1.out, HR2.out, HB.out⟩
          case round =>
            clear HR1 HR2 HB
            obtain ⟨i, hi, rfl, hr1, hr2, hb⟩ := hrel
            have HR1 := Lib.hid hr1
            have HR2 := Lib.hid hr2
            have HB := Lib.hid hb
            have z1 := row_kids hr1
            clear hr1 hr2 hb
            by_cases hlt : i < n.kids.length
            · have i1 : (i : Int) < (n.kids.length : Int) := by omega
              have q1 := HR1.out.drew.above (ndC_3 n A1 c1 A2 c2 A3 c3)
              have q2 := HR2.out.drew.above (ndC_3 n B1 d1 B2 d2 B3 d3)
              obtain ⟨b1, o1, hA1, hlt1, hc1⟩ := pt_at (HAt.out.kids.keep HB.out) i hlt
              obtain ⟨b2, o2, hA2, hlt2, hc2⟩ := pt_at (HBt.out.kids.keep HB.out) i hlt
              rw [hA1] at q1
              rw [hA2] at q2
              obtain ⟨p, Hp⟩ : ∃ p, Hid (p = n.kids.getD i Pt.zero) := ⟨_, rfl⟩
              have hps : p.sha.length = 32 := by rw [Hp.out]; exact (getD_ok Hok.out.kidsB i).shaL
              rw [← Hp.out] at hc1 hc2
              have HC1 : Hid (Cells wr b1 (o1 + i * 36) (pcells p)) := hc1
              have HC2 : Hid (Cells wr b2 (o2 + i * 36) (pcells p)) := hc2
              clear hA1 hA2 hc1 hc2
              go_wp2_with fail
              refine wp_region_segs [] [0, 1, 2, 3, 5, 6, 7, 8, 4, 9, 10] (by kernel_rfl) (by kernel_rfl) (by kernel_rfl) (by kernel_rfl) (fun _ _ d _ _ h => by cases d <;> exact h) ?_
              refine wpSegs_last (by simp [pickOps]; rfl) ?_
              repeat (go_big_quiet_step (fail))
              refine wpQuiet_loadPs _ rfl rfl b1 (o1 + i * 36) rfl p hps (HC1.out.keep (Ext.drew wr) hlt1) hlt1 ?_
              refine wpQuiet_loadPs _ rfl rfl b2 (o2 + i * 36) rfl p hps (HC2.out.keep (Ext.drew wr) hlt2) hlt2 ?_
              refine Cut.wpQuiet_run rfl (.bool false) (fun x => rneq_self rfl hps rfl rfl x.1) ?_
              repeat (go_big_quiet_step (fail))
              refine wpQuiet_nil ?_
              clear q1 q2
              simp only [Act.put, List.setIfInBounds_toArray, List.set_cons_succ, List.set_cons_zero]
              go_wp2_with fail
              go_roundw
              case rel => exact ⟨i + 1, by omega, by go_num, HR1.out.drew, HR2.out.drew, Below.drew HB.out⟩
              case measure => simp [intOf]; omega
            · have i1 : ¬ (i : Int) < (n.kids.length : Int) := by omega
              go_wp2_with fail
              go_ret
              exact ⟨rfl, HB.out⟩
end Lf
end Go.Proofs.Ytnoofmdhhlcbkaa

namespace Go.Proofs.Ytnoofmdhhlcbkaa
open Go.RowKit
namespace Lf
open Els

def oneN : Nd := ⟨0, [[97]], [[49]], []⟩
theorem one_byte {x : Int} (h : 0 ≤ x ∧ x < 256) : IsBytes [x] := fun y hy => by rw [List.mem_singleton.1 hy]; exact h
theorem oneN_ok : oneN.Ok := ⟨by decide, by decide, fun l hl => by rw [List.mem_singleton.1 hl]; exact one_byte (by omega), fun l hl => by rw [List.mem_singleton.1 hl]; exact one_byte (by omega), fun p hp => by cases hp⟩
theorem oneN_all : allB oneN = [0, 1, 0, 1, 97, 1, 49] := by decide +kernel
theorem oneN_right : Right oneN := by
  have one : ∀ i, i < oneN.keys.length → i = 0 := fun i hi => by have : i < 1 := hi; omega
  refine ⟨⟨⟨by decide, by decide, by decide, by decide, fun _ => ⟨rfl, rfl⟩, fun h => by cases h⟩, fun i hi => ?_, fun i hi => ?_⟩, by rw [oneN_all]; decide⟩
  · rw [one i hi]; rfl
  · rw [one i hi]; rfl
theorem lit7_read {M : Nd} {e : Int} (h : ReadIs [0, 1, 0, 1, 97, 1, 49] M e) : M = oneN ∧ e = 0 := by
  have := read_put_is oneN_ok oneN_right
  rw [oneN_all] at this
  exact h.one this
theorem lit7_bytes : IsBytes [0, 1, 0, 1, 97, 1, 49] := fun y hy => by
  simp only [List.mem_cons, List.not_mem_nil, or_false] at hy
  omega
def lit7C : Array Value := #[.int .u8 0, .int .u8 1, .int .u8 0, .int .u8 1, .int .u8 97, .int .u8 1, .int .u8 49]
theorem lit7 (w : World) (F : Nat × Nat) : Src .u8 (w.alloc (.cells lit7C 5 F)) (some ⟨w.heap.size, 0, none⟩) [0, 1, 0, 1, 97, 1, 49] := fun _ => by
  refine ⟨w.heap.size, 0, rfl, by show _ < (w.heap.push _).size; rw [Array.size_push]; omega, fun i hi => ?_⟩
  rw [Nat.zero_add]
  refine cell_of_row _ _ i _ _ _ (heap_alloc_new w _) |>.trans ?_
  have : i < 7 := hi
  rcases (show i = 0 ∨ i = 1 ∨ i = 2 ∨ i = 3 ∨ i = 4 ∨ i = 5 ∨ i = 6 by omega) with rfl | rfl | rfl | rfl | rfl | rfl | rfl <;> rfl
theorem below_alloc (w : World) (o : Obj) : Below w.heap.size w (w.alloc o) := (Below.refl _ _).alloc (Nat.le_refl _) _
theorem ReadIs.ok {b : List Int} {n : Nd} {e : Int} (h : ReadIs b n e) : n.Ok := by
  rcases h with ⟨_, h, _⟩ | ⟨_, h, _⟩
  · exact h
  · rw [h]; exact Nd.zero_ok
theorem ReadIs.range {b : List Int} {n : Nd} {e : Int} (h : ReadIs b n e) : 0 ≤ e ∧ e ≤ 11 := by
  rcases h with ⟨h, _⟩ | ⟨h, _⟩ <;> omega
set_option maxRecDepth 100000 in
set_option maxHeartbeats 8000000 in
theorem reads_s (A : Option Addr) (m c : Nat) (b : List Int) (w : World) (hm : m = b.length) (hl : m ≤ 5000) (hs : Src .u8 w A b) (hb : IsBytes b) (hc : m ≤ c) (hcm : c ≤ 9223372036854775807) :
    Calls Try.prog 3 #[.slice A m c] w fun e w' => e = .returned (.bool true) ∧ Below w.heap.size w w' := by
  have Hm := Lib.hid hm
  have Hs := Lib.hid hs
  have Hb := Lib.hid hb
  have t1 : decide ((5000 : Int) < (m : Int)) = false := by simp; omega
  have t2 : decide (5000 < m) = false := by simp; omega
  clear hm hs hb
  go_enter Try.func3, Try.ntmps3
  go_wp2_with fail
  refine (nread_any A m c b _ Hm.out Hs.out Hb.out (by omega) hcm).mono ?_
  rintro r w1 ⟨B0, M, A1, c1, ks, A2, c2, vs, A3, c3, er, rfl, hat, his, hb1⟩
  have AT1 := Lib.hid hat.at_
  have I1 := Lib.hid his
  have HOk := Lib.hid his.ok
  have B1 := Lib.hid hb1
  have her := his.range
  clear hat his hb1
  go_wp2_with (first
    | (refine wpList_allocN ltP rfl rfl ?_; intro w2 r2 b2 z2)
    | (refine wpList_storeN ltP rfl _ _ rfl _ rfl rfl _ rfl r2 ?_; intro w3 r3 o3))
  have h13 : Below w1.heap.size w1 w3 := b2.trans (o3.below.mono (Nat.le_refl _))
  have V3 := Lib.hid r3
  have AT3 := Lib.hid (AT1.out.keep h13)
  have B3 := Lib.hid (B1.out.trans (h13.mono B1.out.size))
  clear r2 b2 z2 r3 o3 h13 AT1 B1
  refine (rread_any A m c b _ Hm.out (Hs.out.keep B3.out) Hb.out (by omega) hcm).mono ?_
  rintro r w4 ⟨B4, M', D1, e1, ls, D2, e2, us, D3, e3, er', rfl, hat, his, hb4⟩
  obtain ⟨hM, hE⟩ := ReadIs.one his I1.out
  subst hM hE
  have DT4 := Lib.hid hat.at_
  have V4 := Lib.hid (V3.out.keep hb4)
  have AT4 := Lib.hid (AT3.out.keep hb4)
  have Bf := Lib.hid (B3.out.trans (hb4.mono B3.out.size))
  clear hat his hb4 V3 AT3 B3 I1
  have kc := fun (w : World) (C : Array Value) (n c : Nat) => Lib.run_convert_bytes_const (P := Try.prog) w 22 5 C n c Try.underlying22 Try.underlying5
  go_wp2_with (first
    | ((with_reducible refine opAlloc ?_); intro w5 r5 b5 z5)
    | ((with_reducible refine opStore M' D1 e1 D2 e2 D3 e3 w4.heap.size r5 rfl ?_ ?_ ?_); (focus rfl); (focus rfl); intro w6 r6 o6))
  have h46 : Below w4.heap.size w4 w6 := b5.trans (o6.below.mono (Nat.le_refl _))
  have V6 := Lib.hid r6
  have DT6 := Lib.hid (DT4.out.keep h46)
  have U6 := Lib.hid (V4.out.keep h46)
  have AT6 := Lib.hid (AT4.out.keep h46)
  have B6 := Lib.hid (Bf.out.trans (h46.mono Bf.out.size))
  have Z6 := Lib.hid (lit7 w6 (7, 8))
  clear r5 b5 z5 r6 o6 h46 DT4 V4 AT4 Bf kc
  have hw6 := below_alloc w6 (.cells lit7C 5 (7, 8))
  unfold lit7C at hw6 Z6
  obtain ⟨w7, hw7⟩ : ∃ w7, w7 = w6.alloc (.cells #[.int .u8 0, .int .u8 1, .int .u8 0, .int .u8 1, .int .u8 97, .int .u8 1, .int .u8 49] 5 (7, 8)) := ⟨_, rfl⟩
  rw [← hw7] at hw6 Z6 ⊢
  clear hw7
  have V7 := Lib.hid (V6.out.keep hw6)
  have DT7 := Lib.hid (DT6.out.keep hw6)
  have U7 := Lib.hid (U6.out.keep hw6)
  have AT7 := Lib.hid (AT6.out.keep hw6)
  have B7 := Lib.hid (B6.out.trans (hw6.mono B6.out.size))
  clear hw6 V6 DT6 U6 AT6 B6
  refine (nread_any (some ⟨w6.heap.size, 0, none⟩) 7 7 [0, 1, 0, 1, 97, 1, 49] _ rfl Z6.out lit7_bytes (by omega) (by omega)).mono ?_
  rintro r w8 ⟨B8, N, F1, f1, gs, F2, f2, hs, F3, f3, er8, rfl, hat, his, hb8⟩
  obtain ⟨rfl, rfl⟩ := lit7_read his
  have V8 := Lib.hid (V7.out.keep hb8)
  have DT8 := Lib.hid (DT7.out.keep hb8)
  have U8 := Lib.hid (U7.out.keep hb8)
  have AT8 := Lib.hid (AT7.out.keep hb8)
  have B8' := Lib.hid (B7.out.trans (hb8.mono B7.out.size))
  clear hat his hb8 V7 DT7 U7 AT7 B7 Z6
  go_wp2_with (first
    | (refine wpList_allocN ltP rfl rfl ?_; intro w9 r9 b9 z9)
    | (refine wpList_storeN ltP rfl _ _ rfl _ rfl rfl _ rfl r9 ?_; intro w10 r10 o10; have h810 := b9.trans (o10.below.mono (Nat.le_refl _)); have X10 := Lib.hid r10; have V10 := Lib.hid (V8.out.keep h810); have DT10 := Lib.hid (DT8.out.keep h810); have U10 := Lib.hid (U8.out.keep h810); have AT10 := Lib.hid (AT8.out.keep h810); have B10 := Lib.hid (B8'.out.trans (h810.mono B8'.out.size)); clear h810 r9 b9 z9 r10 o10)
    | (refine wpList_loadN ltP _ rfl rfl _ rfl U10.out ?_)
    | (refine wpList_loadN ltR _ rfl rfl _ rfl V10.out ?_))
  refine (rsame_any AT10.out DT10.out HOk.out).mono ?_
  rintro r w11 ⟨rfl, hb11⟩
  have q1 := row_keys (X10.out.keep hb11)
  have B11 := Lib.hid (B10.out.trans (hb11.mono B10.out.size))
  clear hb11
  go_wp2_with fail
  go_ret
  exact ⟨rfl, B11.out⟩
set_option maxRecDepth 100000 in
set_option maxHeartbeats 8000000 in
theorem reads_b (A : Option Addr) (m c : Nat) (b : List Int) (w : World) (hm : 5000 = b.length) (hl : 5000 < m) (hs : Src .u8 w A b) (hb : IsBytes b) (hc : m ≤ c) (hcm : c ≤ 9223372036854775807) :
    Calls Try.prog 3 #[.slice A m c] w fun e w' => e = .returned (.bool true) ∧ Below w.heap.size w w' := by
  have Hm := Lib.hid hm
  have Hs := Lib.hid hs
  have Hb := Lib.hid hb
  have t1 : decide ((5000 : Int) < (m : Int)) = true := by simp; omega
  have t2 : decide (5000 < m) = true := by simp; omega
  have t3 : (5000 : Int) ≤ (c : Int) := by omega
  have t4 : (c : Int) ≤ 9223372036854775807 := by omega
  clear hm hs hb
  go_enter Try.func3, Try.ntmps3
  go_wp2_with fail
  refine (nread_any A 5000 c b _ Hm.out Hs.out Hb.out (by omega) hcm).mono ?_
  rintro r w1 ⟨B0, M, A1, c1, ks, A2, c2, vs, A3, c3, er, rfl, hat, his, hb1⟩
  have AT1 := Lib.hid hat.at_
  have I1 := Lib.hid his
  have HOk := Lib.hid his.ok
  have B1 := Lib.hid hb1
  have her := his.range
  clear hat his hb1
  go_wp2_with (first
    | (refine wpList_allocN ltP rfl rfl ?_; intro w2 r2 b2 z2)
    | (refine wpList_storeN ltP rfl _ _ rfl _ rfl rfl _ rfl r2 ?_; intro w3 r3 o3))
  have h13 : Below w1.heap.size w1 w3 := b2.trans (o3.below.mono (Nat.le_refl _))
  have V3 := Lib.hid r3
  have AT3 := Lib.hid (AT1.out.keep h13)
  have B3 := Lib.hid (B1.out.trans (h13.mono B1.out.size))
  clear r2 b2 z2 r3 o3 h13 AT1 B1
  refine (rread_any A 5000 c b _ Hm.out (Hs.out.keep B3.out) Hb.out (by omega) hcm).mono ?_
  rintro r w4 ⟨B4, M', D1, e1, ls, D2, e2, us, D3, e3, er', rfl, hat, his, hb4⟩
  obtain ⟨hM, hE⟩ := ReadIs.one his I1.out
  subst hM hE
  have DT4 := Lib.hid hat.at_
  have V4 := Lib.hid (V3.out.keep hb4)
  have AT4 := Lib.hid (AT3.out.keep hb4)
  have Bf := Lib.hid (B3.out.trans (hb4.mono B3.out.size))
  clear hat his hb4 V3 AT3 B3 I1
  have kc := fun (w : World) (C : Array Value) (n c : Nat) => Lib.run_convert_bytes_const (P := Try.prog) w 22 5 C n c Try.underlying22 Try.underlying5
  go_wp2_with (first
    | ((with_reducible refine opAlloc ?_); intro w5 r5 b5 z5)
    | ((with_reducible refine opStore M' D1 e1 D2 e2 D3 e3 w4.heap.size r5 rfl ?_ ?_ ?_); (focus rfl); (focus rfl); intro w6 r6 o6))
  have h46 : Below w4.heap.size w4 w6 := b5.trans (o6.below.mono (Nat.le_refl _))
  have V6 := Lib.hid r6
  have DT6 := Lib.hid (DT4.out.keep h46)
  have U6 := Lib.hid (V4.out.keep h46)
  have AT6 := Lib.hid (AT4.out.keep h46)
  have B6 := Lib.hid (Bf.out.trans (h46.mono Bf.out.size))
  have Z6 := Lib.hid (lit7 w6 (7, 8))
  clear r5 b5 z5 r6 o6 h46 DT4 V4 AT4 Bf kc
  have hw6 := below_alloc w6 (.cells lit7C 5 (7, 8))
  unfold lit7C at hw6 Z6
  obtain ⟨w7, hw7⟩ : ∃ w7, w7 = w6.alloc (.cells #[.int .u8 0, .int .u8 1, .int .u8 0, .int .u8 1, .int .u8 97, .int .u8 1, .int .u8 49] 5 (7, 8)) := ⟨_, rfl⟩
  rw [← hw7] at hw6 Z6 ⊢
  clear hw7
  have V7 := Lib.hid (V6.out.keep hw6)
  have DT7 := Lib.hid (DT6.out.keep hw6)
  have U7 := Lib.hid (U6.out.keep hw6)
  have AT7 := Lib.hid (AT6.out.keep hw6)
  have B7 := Lib.hid (B6.out.trans (hw6.mono B6.out.size))
  clear hw6 V6 DT6 U6 AT6 B6
  refine (nread_any (some ⟨w6.heap.size, 0, none⟩) 7 7 [0, 1, 0, 1, 97, 1, 49] _ rfl Z6.out lit7_bytes (by omega) (by omega)).mono ?_
  rintro r w8 ⟨B8, N, F1, f1, gs, F2, f2, hs, F3, f3, er8, rfl, hat, his, hb8⟩
  obtain ⟨rfl, rfl⟩ := lit7_read his
  have V8 := Lib.hid (V7.out.keep hb8)
  have DT8 := Lib.hid (DT7.out.keep hb8)
  have U8 := Lib.hid (U7.out.keep hb8)
  have AT8 := Lib.hid (AT7.out.keep hb8)
  have B8' := Lib.hid (B7.out.trans (hb8.mono B7.out.size))
  clear hat his hb8 V7 DT7 U7 AT7 B7 Z6
  go_wp2_with (first
    | (refine wpList_allocN ltP rfl rfl ?_; intro w9 r9 b9 z9)
    | (refine wpList_storeN ltP rfl _ _ rfl _ rfl rfl _ rfl r9 ?_; intro w10 r10 o10; have h810 := b9.trans (o10.below.mono (Nat.le_refl _)); have X10 := Lib.hid r10; have V10 := Lib.hid (V8.out.keep h810); have DT10 := Lib.hid (DT8.out.keep h810); have U10 := Lib.hid (U8.out.keep h810); have AT10 := Lib.hid (AT8.out.keep h810); have B10 := Lib.hid (B8'.out.trans (h810.mono B8'.out.size)); clear h810 r9 b9 z9 r10 o10)
    | (refine wpList_loadN ltP _ rfl rfl _ rfl U10.out ?_)
    | (refine wpList_loadN ltR _ rfl rfl _ rfl V10.out ?_))
  refine (rsame_any AT10.out DT10.out HOk.out).mono ?_
  rintro r w11 ⟨rfl, hb11⟩
  have q1 := row_keys (X10.out.keep hb11)
  have B11 := Lib.hid (B10.out.trans (hb11.mono B10.out.size))
  clear hb11
  go_wp2_with fail
  go_ret
  exact ⟨rfl, B11.out⟩
theorem reads_any (A : Option Addr) (m c : Nat) (b : List Int) (w : World) (hm : m = b.length) (hs : Src .u8 w A b) (hb : IsBytes b) (hc : m ≤ c) (hcm : c ≤ 9223372036854775807) :
    Calls Try.prog 3 #[.slice A m c] w fun e w' => e = .returned (.bool true) ∧ Below w.heap.size w w' := by
  by_cases h : m ≤ 5000
  · exact reads_s A m c b w hm h hs hb hc hcm
  · exact reads_b A m c (b.take 5000) w (by rw [List.length_take]; omega) (by omega) (hs.take 5000) (hb.take 5000) hc hcm
end Lf
end Go.Proofs.Ytnoofmdhhlcbkaa

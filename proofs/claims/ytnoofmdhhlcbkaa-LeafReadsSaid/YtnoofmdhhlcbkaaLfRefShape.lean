/- all, the document's: the bytes of a node of right shape, however many (at most 885000). Its values are at most 20000 bytes together. | shape, the document's: whether all of a node is right, but for how many bytes it has; nothing that was there is written. No conditions but those that stand in each lemma. -/
import Derived.Test.YtnoofmdhhlcbkaaLfEntry
import Derived.Test.YtnoofmdhhlcbkaaPtrRefPut
import Derived.Test.YtnoofmdhhlcbkaaLfForm
import Derived.Test.YtnoofmdhhlcbkaaLex
import Derived.Test.YtnoofmdhhlcbkaaPtrRefRight
import Derived.Laws.Cover1

namespace Go.Proofs.Ytnoofmdhhlcbkaa
open Go.RowKit
namespace Lf
open Els

/-- At a round's head: so many entries are laid. -/
def RAllAt (w : World) (n : Nd) (cs : Array Value) (v i : Value) (wr : World) : Prop :=
  ∃ (k m c : Nat) (A : Option Addr), k ≤ n.keys.length ∧ i = .int .i64 (k : Int) ∧ v = .slice A m c ∧ m = (headB n ++ upB n k).length ∧ Own wr w.heap.size A c (headB n ++ upB n k) ∧ Row wr w.heap.size 30 cs ∧ Below w.heap.size w wr
theorem upTo_le (n : Nd) {k : Nat} (h : k ≤ n.keys.length) : (headB n ++ upB n k).length ≤ (allB n).length := by
  unfold allB
  rw [List.length_append, List.length_append]
  have := up_le n h
  omega
set_option maxHeartbeats 16000000 in
set_option maxRecDepth 100000 in
theorem rall_any {n : Nd} {A1 : Option Addr} {c1 : Nat} {ks : List Value} {A2 : Option Addr} {c2 : Nat} {vs : List Value} {A3 : Option Addr} {c3 : Nat} {w : World} (at_ : NdAt w n A1 c1 ks A2 c2 vs A3 c3) (ok : n.Ok) (hs : Shape n) (hv : n.level = 0 → lensOf n.vals n.keys.length ≤ 20000) :
    Calls Try.prog 31 #[.agg (ndC n A1 c1 A2 c2 A3 c3)] w (Gives w (allB n)) := by
  have HM := Lib.hid (all_most hs ok hv)
  have HAt := Lib.hid at_
  have Hok := Lib.hid ok
  have Hs := Lib.hid hs
  have m1 : n.keys.length ≤ 4096 := hs.start.most
  have lo := hs.start.lo
  have hi := hs.start.hi
  have u0 : IntKind.u64.wrap n.level = n.level := by rw [IntKind.wrap_u64]; omega
  clear at_ ok hs hv
  go_enter Try.func31, Try.ntmps31
  go_wp2_with (refine wpList_boxN rfl _ rfl rfl ?_; intro w1 hr1 hb1 hz1; have r0 := row_level hr1; have HR1 := Lib.hid hr1; have HB1 := Lib.hid hb1; clear hr1 hb1)
  refine (shortRef_any none 0 0 [] n.level _ rfl Src.none_ (by omega) (by omega) (by omega)).mono ?_
  rintro e w2 ⟨v2, rfl, X2, n2, e2, rfl, hn2, ho2, hb2⟩
  rw [List.nil_append] at hn2 ho2
  have hn2' : n2 ≤ 10 := by have := shortOf_ten n.level.toNat (by omega); omega
  have HN2 := Lib.hid hn2
  have HO2 := Lib.hid ho2
  have HB2 := Lib.hid (HB1.out.trans (hb2.mono HB1.out.size))
  have HR2 := Lib.hid (HR1.out.keep hb2)
  have r1 := row_keys HR2.out
  clear hn2 ho2 hb2 HB1 HR1 r0
  go_wp2_with fail
  refine (shortRef_any X2 n2 e2 (shortOf n.level.toNat) (n.keys.length : Int) _ HN2.out HO2.out.src (by omega) (by omega) (by omega)).mono ?_
  rintro e w3 ⟨v3, rfl, X3, n3, e3, rfl, hn3, ho3, hb3⟩
  rw [Int.toNat_natCast] at hn3 ho3
  have HN3 := Lib.hid hn3
  have HO3 := Lib.hid (ho3.more HB2.out.size)
  have HB3 := Lib.hid (HB2.out.trans (hb3.mono HB2.out.size))
  have HR3 := Lib.hid (HR2.out.keep hb3)
  clear hn3 ho3 hb3 HB2 HR2 r1 HN2 HO2
  go_wp2_with fail
  go_loopw [3, 4] (fun v i wr => RAllAt w n (ndC n A1 c1 A2 c2 A3 c3) v i wr) (fun _ i _ => n.keys.length - (intOf i).toNat)
  case atStart => exact ⟨0, n3, e3, X3, Nat.zero_le _, rfl, rfl, by rw [up_zero, List.append_nil]; exact HN3.out, by rw [up_zero, List.append_nil]; exact HO3.out, HR3.out, HB3.out⟩
  case round =>
    obtain ⟨k, m, c, A, hk, rfl, rfl, hm, ho, hr, hb⟩ := hrel
    have hml : m ≤ 885000 := by have := upTo_le n hk; have := HM.out; omega
    clear HN3 HO3 HR3 HB3
    have HR := Lib.hid hr
    have HB := Lib.hid hb
    have HO := Lib.hid ho
    have rk := row_keys hr
    have HUP : Hid (∀ (z : Nat), z = k + 1 → headB n ++ upB n z = (headB n ++ upB n k) ++ entB n k) := fun z hz => by rw [hz, up_next, List.append_assoc]
    by_cases hlt : k < n.keys.length
    · have i1 : (k : Int) < (n.keys.length : Int) := by omega
      obtain ⟨P, hP⟩ : ∃ P, Hid (P = headB n ++ upB n k) := ⟨_, rfl⟩
      have HUP : Hid (headB n ++ upB n (k + 1) = P ++ entB n k) := by rw [hP.out]; exact HUP.out (k + 1) rfl
      have HMm : Hid (m = P.length) := by rw [hP.out]; exact hm
      have HPS : Hid (Src .u8 wr A P) := by rw [hP.out]; exact ho.src
      obtain ⟨y, HY⟩ : ∃ y, Hid (y = n.key k) := ⟨_, rfl⟩
      have HY' : Hid (y = n.keys.getD k []) := HY
      have hks : y.length ≤ 160 := by rw [HY.out]; exact Hs.out.keyLen hlt
      have HYB : Hid (IsBytes y) := by rw [HY.out]; exact getD_bytes Hok.out.keysB k
      have hkB : (keyB n k).length ≤ 200 := (keyB_len (Hs.out.keyLen hlt)).1
      clear hm ho hr hb HO
      by_cases hk0 : k = 0
      · have HK0 := Lib.hid hk0
        clear hk0
        have HSt : Hid (n.same k = 0) := by show _ = _; unfold Nd.same; rw [HK0.out, last_zero]; exact same_none _
        have t1 : decide (0 < k) = false := by simp; have := HK0.out; omega
        have hsm : 0 ≤ y.length := Nat.zero_le _
        have HBt := HB
        have HRt := HR
        have HPt := HPS
        clear HB HR HPS
        go_wp2_with fail
        refine (shortRef_any A m c P (0 : Int) _ HMm.out HPt.out (by omega) (by omega) (by omega)).mono ?_
        rintro e w3 ⟨v3, rfl, A4, n4, c4, rfl, hn4, ho4, hb3⟩
        rw [Int.toNat_zero] at hn4 ho4
        have hn4' : n4 ≤ 888000 := by have := shortOf_ten 0 (by omega); rw [hn4, List.length_append, ← HMm.out]; omega
        have HN4 := Lib.hid hn4
        have HO4 := Lib.hid ho4
        have B3 := Lib.hid (HBt.out.trans (hb3.mono HBt.out.size))
        have R3 := Lib.hid (HRt.out.keep hb3)
        clear hn4 ho4 hb3 HBt HRt HPt
        obtain ⟨b1, o1, v1, hA1, hlt1, hcell1, S1, d1, hv1, hsrc1, hd1, hd1'⟩ := (HAt.out.keys.keep B3.out).at_ k hlt
        have hcell1' : w3.cell? ⟨b1, o1 + k, none⟩ = some (.slice S1 y.length d1) := by rw [hcell1, hv1, HY.out]; rfl
        have hsrc1' : Src .u8 w3 S1 y := by rw [HY.out]; exact hsrc1
        have hd1x : y.length ≤ d1 := by rw [HY.out]; exact hd1
        have q1 := row_keys R3.out
        rw [hA1] at q1
        clear hcell1 hv1 v1 hsrc1 hd1 hd1' hA1
        obtain ⟨T, hT⟩ : ∃ T, Hid (T = strOfNums (y.drop 0)) := ⟨_, rfl⟩
        have kt : (convert 22 9 (.slice (Cut.cutA S1 d1 0) y.length d1)).run Try.prog w3 = .ok (.string T) w3 := by rw [hT.out]; exact run_text w3 _ _ _ (y.drop 0) (by simp) (Cut.src_cut hsrc1' hsm hd1x)
        have hTs : T.size ≤ 10000 := by rw [hT.out, str_size (HYB.out.drop 0), List.length_drop]; omega
        have HKL : Hid (P ++ shortOf 0 ++ textOf (strOfNums (y.drop 0)) = P ++ keyB n k) := by
          show _ = _
          rw [textOf_L _ (HYB.out.drop 0), List.append_assoc]
          unfold keyB
          rw [HSt.out]
          unfold Nd.key
          rw [← HY'.out]
        go_wp2_with (refine Cut.wpList_run rfl _ (Cut.exec_low Try.underlying22 Cut.size8 rfl (j := 0) rfl rfl hsm _) ?_)
        refine (textRef_any A4 n4 c4 (P ++ shortOf 0) T _ HN4.out HO4.out.src (by omega) hTs).mono ?_
        rw [hT.out, HKL.out]
        rintro e w4 ⟨v4, rfl, A5, n5, c5, rfl, hn5, ho5, hb4⟩
        have B4 := Lib.hid (B3.out.trans (hb4.mono B3.out.size))
        have R4 := Lib.hid (R3.out.keep hb4)
        have hn5' : n5 ≤ 888500 := by rw [hn5, List.length_append, ← HMm.out]; omega
        have HN5 := Lib.hid hn5
        have HO5 := Lib.hid ho5
        have q0 := row_level R4.out
        clear hn5 ho5 hb4 HN4 HO4 HKL B3 R3 q1 kt hcell1' hsrc1' hd1x hTs hT
        by_cases h0 : n.level = 0
        · have t4 : (n.level == 0) = true := by simpa using h0
          have HE : Hid (P ++ keyB n k ++ textL (n.val k) = P ++ entB n k) := by show _ = _; unfold entB bodyB; rw [if_pos h0, List.append_assoc]
          have hvl : k < n.vals.length := by have := (Hs.out.start.leaf h0).1; omega
          have hvs : (n.val k).length ≤ 1024 := Hs.out.valLen h0 hlt
          clear h0
          obtain ⟨b6, o6, v6, hA6, hlt6, hcell6, S6, d6, hv6, hsrc6, hd6, hd6'⟩ := (HAt.out.vals.keep B4.out).at_ k hvl
          have hcell6' : w4.cell? ⟨b6, o6 + k, none⟩ = some (.slice S6 (n.val k).length d6) := by rw [hcell6, hv6]; rfl
          have i3 : (k : Int) < (n.vals.length : Int) := by omega
          have q2 := row_vals R4.out
          rw [hA6] at q2
          have kv := run_text w4 S6 (n.val k).length d6 (n.val k) rfl hsrc6
          have HTL : Hid (textOf (strOfNums (n.val k)) = textL (n.val k)) := textOf_L _ (getD_bytes Hok.out.valsB k)
          have hsz : (strOfNums (n.val k)).size ≤ 10000 := by rw [str_size (xs := n.val k) (getD_bytes Hok.out.valsB k)]; omega
          obtain ⟨U, hU⟩ : ∃ U, Hid (U = strOfNums (n.val k)) := ⟨_, rfl⟩
          rw [← hU.out] at kv HTL hsz
          clear hcell6 hsrc6 hd6 hd6' hv6 hA6
          go_wp2_with fail
          refine (textRef_any A5 n5 c5 (P ++ keyB n k) U _ HN5.out HO5.out.src (by omega) hsz).mono ?_
          rw [HTL.out, HE.out]
          rintro e w7 ⟨v7, rfl, A7, n7, c7, rfl, hn7, ho7, hb7⟩
          have HN7 := Lib.hid hn7
          have HO7 := Lib.hid ho7
          clear hn7 ho7
          go_wp2_with fail
          go_roundw
          case rel => exact ⟨k + 1, n7, c7, A7, by omega, by go_num, rfl, by rw [HUP.out]; exact HN7.out, by rw [HUP.out]; exact HO7.out.more B4.out.size, R4.out.keep hb7, B4.out.trans (hb7.mono B4.out.size)⟩
          case measure => simp [intOf]; omega
        · have hp : 0 < n.level := by omega
          have t4 : (n.level == 0) = false := beq_eq_false_iff_ne.2 h0
          have HE : Hid (P ++ keyB n k ++ putOf (n.kid k) = P ++ entB n k) := by show _ = _; unfold entB bodyB; rw [if_neg h0, List.append_assoc]
          have hkl : k < n.kids.length := by have := (Hs.out.start.above hp).1; omega
          clear h0 hp
          obtain ⟨b6, o6, hA6, hlt6, hcell6⟩ := pt_at (HAt.out.kids.keep B4.out) k hkl
          have HP : Hid (n.kid k).Ok := getD_ok Hok.out.kidsB k
          have HC6 : Hid (Cells w4 b6 (o6 + k * 36) (pcells (n.kid k))) := hcell6
          have i3 : (k : Int) < (n.kids.length : Int) := by omega
          have q3 := row_kids R4.out
          rw [hA6] at q3
          clear hcell6 hA6
          obtain ⟨q, hq⟩ : ∃ q, Hid (q = n.kid k) := ⟨_, rfl⟩
          rw [← hq.out] at HP HC6 HE
          go_wp2_with (refine wpList_loadPs _ rfl rfl b6 (o6 + k * 36) rfl q HP.out.shaL HC6.out ?_)
          refine (refPut_any A5 n5 c5 (P ++ keyB n k) q _ HP.out HN5.out HO5.out.src (by omega)).mono ?_
          rw [HE.out]
          rintro e w7 ⟨v7, rfl, A7, n7, c7, rfl, hn7, ho7, hb7⟩
          have HN7 := Lib.hid hn7
          have HO7 := Lib.hid ho7
          clear hn7 ho7
          go_wp2_with fail
          go_roundw
          case rel => exact ⟨k + 1, n7, c7, A7, by omega, by go_num, rfl, by rw [HUP.out]; exact HN7.out, by rw [HUP.out]; exact HO7.out.more B4.out.size, R4.out.keep hb7, B4.out.trans (hb7.mono B4.out.size)⟩
          case measure => simp [intOf]; omega
      · obtain ⟨j, HJ⟩ : ∃ j, Hid (k = j + 1) := ⟨k - 1, by show _ = _; omega⟩
        clear hk0
        have t1 : decide (0 < k) = true := by simp; have := HJ.out; omega
        have t2 : (k : Int) - 1 = (j : Int) := by have := HJ.out; omega
        have hkj : IntKind.i64.wrap ((k : Int) - 1) = (j : Int) := by rw [IntWalk.i64_in _ (by have := HJ.out; omega)]; have := HJ.out; omega
        have i2 : (j : Int) < (n.keys.length : Int) := by have := HJ.out; omega
        obtain ⟨z, HZ⟩ : ∃ z, Hid (z = n.keys.getD j []) := ⟨_, rfl⟩
        go_wp2_with fail
        go_loopw [5] (fun i wr2 => SameAt y z wr i wr2) (fun i _ => y.length - (intOf i).toNat)
        case atStart => exact ⟨0, Nat.zero_le _, Nat.zero_le _, fun i hi => by omega, rfl, Below.refl _ _⟩
        case round =>
          obtain ⟨s, hs1, hs2, heq, rfl, hpc⟩ := hrel
          have HS12 := Lib.hid (And.intro hs1 hs2)
          have HEq := Lib.hid heq
          have R2 := Lib.hid (HR.out.keep hpc)
          have B2 := Lib.hid (HB.out.trans (hpc.mono HB.out.size))
          have PS2 := Lib.hid (HPS.out.keep hpc)
          have q1 := R2.out.drew.above (ndC_1 n A1 c1 A2 c2 A3 c3)
          obtain ⟨b1, o1, v1, hA1, hlt1, hcell1, S1, d1, hv1, hsrc1, hd1, hd1'⟩ := (HAt.out.keys.keep B2.out).at_ k hlt
          obtain ⟨b2, o2, v2, hA2, hlt2, hcell2, S2, d2, hv2, hsrc2, hd2, hd2'⟩ := (HAt.out.keys.keep B2.out).at_ j (by have := HJ.out; omega)
          rw [hA1] at hA2 q1
          injection hA2 with hA2
          injection hA2 with e1 e2 _
          subst e1 e2 hv1 hv2
          rw [← HY'.out] at hcell1 hsrc1
          rw [← HZ.out] at hcell2 hsrc2
          have k1 : ∀ g : Above wr.drew, g.1.cell? ⟨b1, o1 + k, none⟩ = some (.slice S1 y.length d1) := fun g => ((Ext.trans (Ext.drew wr) g.2).cell (p := ⟨b1, o1 + k, none⟩) hlt1).trans hcell1
          have k2 : ∀ g : Above wr.drew, g.1.cell? ⟨b1, o1 + j, none⟩ = some (.slice S2 z.length d2) := fun g => ((Ext.trans (Ext.drew wr) g.2).cell (p := ⟨b1, o1 + j, none⟩) hlt2).trans hcell2
          clear hcell1 hcell2 hs1 hs2 heq hd1 hd1' hd2 hd2' hA1
          by_cases h1 : s < y.length
          · have dy : decide (s < y.length) = true := by simp; omega
            have dy' : (s : Int) < (y.length : Int) := by omega
            by_cases h2 : s < z.length
            · have dz : decide (s < z.length) = true := by simp; omega
              have dz' : (s : Int) < (z.length : Int) := by omega
              obtain ⟨g1, p1, rfl, hlg1, hc1⟩ := hsrc1 (by omega)
              obtain ⟨g2, p2, rfl, hlg2, hc2⟩ := hsrc2 (by omega)
              obtain ⟨x, Hx⟩ : ∃ x, Hid (x = y.getD s 0) := ⟨_, rfl⟩
              obtain ⟨v, Hv⟩ : ∃ v, Hid (v = z.getD s 0) := ⟨_, rfl⟩
              have k3 : ∀ g : Above wr.drew, g.1.cell? ⟨g1, p1 + s, none⟩ = some (.int .u8 x) := fun g => ((Ext.trans (Ext.drew wr) g.2).cell (p := ⟨g1, p1 + s, none⟩) hlg1).trans (by rw [Hx.out]; exact hc1 s (by omega))
              have k4 : ∀ g : Above wr.drew, g.1.cell? ⟨g2, p2 + s, none⟩ = some (.int .u8 v) := fun g => ((Ext.trans (Ext.drew wr) g.2).cell (p := ⟨g2, p2 + s, none⟩) hlg2).trans (by rw [Hv.out]; exact hc2 s (by omega))
              clear hc1 hc2
              by_cases he : x = v
              · have e1 : (x == v) = true := by simpa using he
                have HE1 := Lib.hid he
                clear he
                go_wp2_with fail
                refine wp_region_segs [] [0, 1, 2, 3, 4, 5, 6, 7, 8, 9, 10, 11, 12, 13, 14, 15, 16, 17, 18, 19, 20, 21, 22, 23, 24, 25, 26, 27, 28, 29, 30, 31, 32, 33, 34, 35, 36, 37, 38] (by kernel_rfl) (by kernel_rfl) (by kernel_rfl) (by kernel_rfl) (fun _ _ d _ _ h => by cases d <;> exact h) ?_
                refine wpSegs_last (by simp [pickOps]; rfl) ?_
                repeat (go_big_quiet_step (fail))
                refine wpQuiet_nil ?_
                clear k1 k2 q1 k3 k4
                go_wp2_with fail
                go_roundw
                case rel => exact ⟨s + 1, by omega, by omega, fun i hi => by
                  rcases Nat.lt_or_eq_of_le (show i ≤ s by omega) with h | h
                  · exact HEq.out i h
                  · rw [h, ← Hx.out, ← Hv.out]; exact HE1.out, by go_num, Below.drew hpc⟩
                case measure => simp [intOf]; omega
              · have e1 : (x == v) = false := by simpa using he
                have HE1 := Lib.hid he
                clear he
                go_wp2_with fail
                refine wp_region_segs [] [0, 1, 2, 3, 4, 5, 6, 7, 8, 9, 10, 11, 12, 13, 14, 15, 16, 17, 18, 19, 20, 21, 22, 23, 24, 25, 26, 27, 28, 29, 30, 31, 32, 33, 34, 35, 36, 37, 38] (by kernel_rfl) (by kernel_rfl) (by kernel_rfl) (by kernel_rfl) (fun _ _ d _ _ h => by cases d <;> exact h) ?_
                refine wpSegs_last (by simp [pickOps]; rfl) ?_
                repeat (go_big_quiet_step (fail))
                refine wpQuiet_nil ?_
                clear k1 k2 q1 k3 k4
                have HSt : Hid (n.same k = s) := by
                  show _ = _
                  unfold Nd.same
                  rw [HJ.out, last_next, ← HZ.out]
                  unfold Nd.key
                  rw [← HJ.out, ← HY'.out]
                  exact same_eq s y z HS12.out.1 HS12.out.2 HEq.out (fun _ _ => by rw [← Hx.out, ← Hv.out]; exact HE1.out)
                have hsm : s ≤ y.length := HS12.out.1
                have HBt := Lib.hid (Below.drew (B2.out))
                have HRt := Lib.hid (R2.out.drew)
                have HPt := Lib.hid (PS2.out.keep (Ext.drew wr))
                clear hpc R2 B2 PS2 HS12 HEq
                go_wp2_with fail
                refine (shortRef_any A m c P (s : Int) _ HMm.out HPt.out (by omega) (by omega) (by omega)).mono ?_
                rintro e w3 ⟨v3, rfl, A4, n4, c4, rfl, hn4, ho4, hb3⟩
                rw [Int.toNat_natCast] at hn4 ho4
                have hn4' : n4 ≤ 888000 := by have := shortOf_ten s (by omega); rw [hn4, List.length_append, ← HMm.out]; omega
                have HN4 := Lib.hid hn4
                have HO4 := Lib.hid ho4
                have B3 := Lib.hid (HBt.out.trans (hb3.mono HBt.out.size))
                have R3 := Lib.hid (HRt.out.keep hb3)
                clear hn4 ho4 hb3 HBt HRt HPt
                obtain ⟨b1, o1, v1, hA1, hlt1, hcell1, S1, d1, hv1, hsrc1, hd1, hd1'⟩ := (HAt.out.keys.keep B3.out).at_ k hlt
                have hcell1' : w3.cell? ⟨b1, o1 + k, none⟩ = some (.slice S1 y.length d1) := by rw [hcell1, hv1, HY.out]; rfl
                have hsrc1' : Src .u8 w3 S1 y := by rw [HY.out]; exact hsrc1
                have hd1x : y.length ≤ d1 := by rw [HY.out]; exact hd1
                have q1 := row_keys R3.out
                rw [hA1] at q1
                clear hcell1 hv1 v1 hsrc1 hd1 hd1' hA1
                obtain ⟨T, hT⟩ : ∃ T, Hid (T = strOfNums (y.drop s)) := ⟨_, rfl⟩
                have kt : (convert 22 9 (.slice (Cut.cutA S1 d1 s) (y.length - s) (d1 - s))).run Try.prog w3 = .ok (.string T) w3 := by rw [hT.out]; exact run_text w3 _ _ _ (y.drop s) (by simp) (Cut.src_cut hsrc1' hsm hd1x)
                have hTs : T.size ≤ 10000 := by rw [hT.out, str_size (HYB.out.drop s), List.length_drop]; omega
                have HKL : Hid (P ++ shortOf s ++ textOf (strOfNums (y.drop s)) = P ++ keyB n k) := by
                  show _ = _
                  rw [textOf_L _ (HYB.out.drop s), List.append_assoc]
                  unfold keyB
                  rw [HSt.out]
                  unfold Nd.key
                  rw [← HY'.out]
                go_wp2_with (refine Cut.wpList_run rfl _ (Cut.exec_low Try.underlying22 Cut.size8 rfl (j := s) rfl rfl hsm _) ?_)
                refine (textRef_any A4 n4 c4 (P ++ shortOf s) T _ HN4.out HO4.out.src (by omega) hTs).mono ?_
                rw [hT.out, HKL.out]
                rintro e w4 ⟨v4, rfl, A5, n5, c5, rfl, hn5, ho5, hb4⟩
                have B4 := Lib.hid (B3.out.trans (hb4.mono B3.out.size))
                have R4 := Lib.hid (R3.out.keep hb4)
                have hn5' : n5 ≤ 888500 := by rw [hn5, List.length_append, ← HMm.out]; omega
                have HN5 := Lib.hid hn5
                have HO5 := Lib.hid ho5
                have q0 := row_level R4.out
                clear hn5 ho5 hb4 HN4 HO4 HKL B3 R3 q1 kt hcell1' hsrc1' hd1x hTs hT
                by_cases h0 : n.level = 0
                · have t4 : (n.level == 0) = true := by simpa using h0
                  have HE : Hid (P ++ keyB n k ++ textL (n.val k) = P ++ entB n k) := by show _ = _; unfold entB bodyB; rw [if_pos h0, List.append_assoc]
                  have hvl : k < n.vals.length := by have := (Hs.out.start.leaf h0).1; omega
                  have hvs : (n.val k).length ≤ 1024 := Hs.out.valLen h0 hlt
                  clear h0
                  obtain ⟨b6, o6, v6, hA6, hlt6, hcell6, S6, d6, hv6, hsrc6, hd6, hd6'⟩ := (HAt.out.vals.keep B4.out).at_ k hvl
                  have hcell6' : w4.cell? ⟨b6, o6 + k, none⟩ = some (.slice S6 (n.val k).length d6) := by rw [hcell6, hv6]; rfl
                  have i3 : (k : Int) < (n.vals.length : Int) := by omega
                  have q2 := row_vals R4.out
                  rw [hA6] at q2
                  have kv := run_text w4 S6 (n.val k).length d6 (n.val k) rfl hsrc6
                  have HTL : Hid (textOf (strOfNums (n.val k)) = textL (n.val k)) := textOf_L _ (getD_bytes Hok.out.valsB k)
                  have hsz : (strOfNums (n.val k)).size ≤ 10000 := by rw [str_size (xs := n.val k) (getD_bytes Hok.out.valsB k)]; omega
                  obtain ⟨U, hU⟩ : ∃ U, Hid (U = strOfNums (n.val k)) := ⟨_, rfl⟩
                  rw [← hU.out] at kv HTL hsz
                  clear hcell6 hsrc6 hd6 hd6' hv6 hA6
                  go_wp2_with fail
                  refine (textRef_any A5 n5 c5 (P ++ keyB n k) U _ HN5.out HO5.out.src (by omega) hsz).mono ?_
                  rw [HTL.out, HE.out]
                  rintro e w7 ⟨v7, rfl, A7, n7, c7, rfl, hn7, ho7, hb7⟩
                  have HN7 := Lib.hid hn7
                  have HO7 := Lib.hid ho7
                  clear hn7 ho7
                  go_wp2_with fail
                  go_roundw
                  case rel => exact ⟨k + 1, n7, c7, A7, by omega, by go_num, rfl, by rw [HUP.out]; exact HN7.out, by rw [HUP.out]; exact HO7.out.more B4.out.size, R4.out.keep hb7, B4.out.trans (hb7.mono B4.out.size)⟩
                  case measure => simp [intOf]; omega
                · have hp : 0 < n.level := by omega
                  have t4 : (n.level == 0) = false := beq_eq_false_iff_ne.2 h0
                  have HE : Hid (P ++ keyB n k ++ putOf (n.kid k) = P ++ entB n k) := by show _ = _; unfold entB bodyB; rw [if_neg h0, List.append_assoc]
                  have hkl : k < n.kids.length := by have := (Hs.out.start.above hp).1; omega
                  clear h0 hp
                  obtain ⟨b6, o6, hA6, hlt6, hcell6⟩ := pt_at (HAt.out.kids.keep B4.out) k hkl
                  have HP : Hid (n.kid k).Ok := getD_ok Hok.out.kidsB k
                  have HC6 : Hid (Cells w4 b6 (o6 + k * 36) (pcells (n.kid k))) := hcell6
                  have i3 : (k : Int) < (n.kids.length : Int) := by omega
                  have q3 := row_kids R4.out
                  rw [hA6] at q3
                  clear hcell6 hA6
                  obtain ⟨q, hq⟩ : ∃ q, Hid (q = n.kid k) := ⟨_, rfl⟩
                  rw [← hq.out] at HP HC6 HE
                  go_wp2_with (refine wpList_loadPs _ rfl rfl b6 (o6 + k * 36) rfl q HP.out.shaL HC6.out ?_)
                  refine (refPut_any A5 n5 c5 (P ++ keyB n k) q _ HP.out HN5.out HO5.out.src (by omega)).mono ?_
                  rw [HE.out]
                  rintro e w7 ⟨v7, rfl, A7, n7, c7, rfl, hn7, ho7, hb7⟩
                  have HN7 := Lib.hid hn7
                  have HO7 := Lib.hid ho7
                  clear hn7 ho7
                  go_wp2_with fail
                  go_roundw
                  case rel => exact ⟨k + 1, n7, c7, A7, by omega, by go_num, rfl, by rw [HUP.out]; exact HN7.out, by rw [HUP.out]; exact HO7.out.more B4.out.size, R4.out.keep hb7, B4.out.trans (hb7.mono B4.out.size)⟩
                  case measure => simp [intOf]; omega
            · have dz : decide (s < z.length) = false := by simp; omega
              clear hsrc1 hsrc2
              go_wp2_with fail
              refine wp_region_segs [] [0, 1, 2, 3, 4, 5, 6, 7, 8, 9, 10, 11, 12, 13, 14, 15, 16, 17, 18, 19, 20, 21, 22, 23, 24, 25, 26, 27, 28, 29, 30, 31, 32, 33, 34, 35, 36, 37, 38] (by kernel_rfl) (by kernel_rfl) (by kernel_rfl) (by kernel_rfl) (fun _ _ d _ _ h => by cases d <;> exact h) ?_
              refine wpSegs_last (by simp [pickOps]; rfl) ?_
              repeat (go_big_quiet_step (fail))
              refine wpQuiet_nil ?_
              clear k1 k2 q1
              have HSt : Hid (n.same k = s) := by
                show _ = _
                unfold Nd.same
                rw [HJ.out, last_next, ← HZ.out]
                unfold Nd.key
                rw [← HJ.out, ← HY'.out]
                exact same_eq s y z HS12.out.1 HS12.out.2 HEq.out (fun _ h => absurd h (by omega))
              have hsm : s ≤ y.length := HS12.out.1
              have HBt := Lib.hid (Below.drew (B2.out))
              have HRt := Lib.hid (R2.out.drew)
              have HPt := Lib.hid (PS2.out.keep (Ext.drew wr))
              clear hpc R2 B2 PS2 HS12 HEq
              go_wp2_with fail
              refine (shortRef_any A m c P (s : Int) _ HMm.out HPt.out (by omega) (by omega) (by omega)).mono ?_
              rintro e w3 ⟨v3, rfl, A4, n4, c4, rfl, hn4, ho4, hb3⟩
              rw [Int.toNat_natCast] at hn4 ho4
              have hn4' : n4 ≤ 888000 := by have := shortOf_ten s (by omega); rw [hn4, List.length_append, ← HMm.out]; omega
              have HN4 := Lib.hid hn4
              have HO4 := Lib.hid ho4
              have B3 := Lib.hid (HBt.out.trans (hb3.mono HBt.out.size))
              have R3 := Lib.hid (HRt.out.keep hb3)
              clear hn4 ho4 hb3 HBt HRt HPt
              obtain ⟨b1, o1, v1, hA1, hlt1, hcell1, S1, d1, hv1, hsrc1, hd1, hd1'⟩ := (HAt.out.keys.keep B3.out).at_ k hlt
              have hcell1' : w3.cell? ⟨b1, o1 + k, none⟩ = some (.slice S1 y.length d1) := by rw [hcell1, hv1, HY.out]; rfl
              have hsrc1' : Src .u8 w3 S1 y := by rw [HY.out]; exact hsrc1
              have hd1x : y.length ≤ d1 := by rw [HY.out]; exact hd1
              have q1 := row_keys R3.out
              rw [hA1] at q1
              clear hcell1 hv1 v1 hsrc1 hd1 hd1' hA1
              obtain ⟨T, hT⟩ : ∃ T, Hid (T = strOfNums (y.drop s)) := ⟨_, rfl⟩
              have kt : (convert 22 9 (.slice (Cut.cutA S1 d1 s) (y.length - s) (d1 - s))).run Try.prog w3 = .ok (.string T) w3 := by rw [hT.out]; exact run_text w3 _ _ _ (y.drop s) (by simp) (Cut.src_cut hsrc1' hsm hd1x)
              have hTs : T.size ≤ 10000 := by rw [hT.out, str_size (HYB.out.drop s), List.length_drop]; omega
              have HKL : Hid (P ++ shortOf s ++ textOf (strOfNums (y.drop s)) = P ++ keyB n k) := by
                show _ = _
                rw [textOf_L _ (HYB.out.drop s), List.append_assoc]
                unfold keyB
                rw [HSt.out]
                unfold Nd.key
                rw [← HY'.out]
              go_wp2_with (refine Cut.wpList_run rfl _ (Cut.exec_low Try.underlying22 Cut.size8 rfl (j := s) rfl rfl hsm _) ?_)
              refine (textRef_any A4 n4 c4 (P ++ shortOf s) T _ HN4.out HO4.out.src (by omega) hTs).mono ?_
              rw [hT.out, HKL.out]
              rintro e w4 ⟨v4, rfl, A5, n5, c5, rfl, hn5, ho5, hb4⟩
              have B4 := Lib.hid (B3.out.trans (hb4.mono B3.out.size))
              have R4 := Lib.hid (R3.out.keep hb4)
              have hn5' : n5 ≤ 888500 := by rw [hn5, List.length_append, ← HMm.out]; omega
              have HN5 := Lib.hid hn5
              have HO5 := Lib.hid ho5
              have q0 := row_level R4.out
              clear hn5 ho5 hb4 HN4 HO4 HKL B3 R3 q1 kt hcell1' hsrc1' hd1x hTs hT
              by_cases h0 : n.level = 0
              · have t4 : (n.level == 0) = true := by simpa using h0
                have HE : Hid (P ++ keyB n k ++ textL (n.val k) = P ++ entB n k) := by show _ = _; unfold entB bodyB; rw [if_pos h0, List.append_assoc]
                have hvl : k < n.vals.length := by have := (Hs.out.start.leaf h0).1; omega
                have hvs : (n.val k).length ≤ 1024 := Hs.out.valLen h0 hlt
                clear h0
                obtain ⟨b6, o6, v6, hA6, hlt6, hcell6, S6, d6, hv6, hsrc6, hd6, hd6'⟩ := (HAt.out.vals.keep B4.out).at_ k hvl
                have hcell6' : w4.cell? ⟨b6, o6 + k, none⟩ = some (.slice S6 (n.val k).length d6) := by rw [hcell6, hv6]; rfl
                have i3 : (k : Int) < (n.vals.length : Int) := by omega
                have q2 := row_vals R4.out
                rw [hA6] at q2
                have kv := run_text w4 S6 (n.val k).length d6 (n.val k) rfl hsrc6
                have HTL : Hid (textOf (strOfNums (n.val k)) = textL (n.val k)) := textOf_L _ (getD_bytes Hok.out.valsB k)
                have hsz : (strOfNums (n.val k)).size ≤ 10000 := by rw [str_size (xs := n.val k) (getD_bytes Hok.out.valsB k)]; omega
                obtain ⟨U, hU⟩ : ∃ U, Hid (U = strOfNums (n.val k)) := ⟨_, rfl⟩
                rw [← hU.out] at kv HTL hsz
                clear hcell6 hsrc6 hd6 hd6' hv6 hA6
                go_wp2_with fail
                refine (textRef_any A5 n5 c5 (P ++ keyB n k) U _ HN5.out HO5.out.src (by omega) hsz).mono ?_
                rw [HTL.out, HE.out]
                rintro e w7 ⟨v7, rfl, A7, n7, c7, rfl, hn7, ho7, hb7⟩
                have HN7 := Lib.hid hn7
                have HO7 := Lib.hid ho7
                clear hn7 ho7
                go_wp2_with fail
                go_roundw
                case rel => exact ⟨k + 1, n7, c7, A7, by omega, by go_num, rfl, by rw [HUP.out]; exact HN7.out, by rw [HUP.out]; exact HO7.out.more B4.out.size, R4.out.keep hb7, B4.out.trans (hb7.mono B4.out.size)⟩
                case measure => simp [intOf]; omega
              · have hp : 0 < n.level := by omega
                have t4 : (n.level == 0) = false := beq_eq_false_iff_ne.2 h0
                have HE : Hid (P ++ keyB n k ++ putOf (n.kid k) = P ++ entB n k) := by show _ = _; unfold entB bodyB; rw [if_neg h0, List.append_assoc]
                have hkl : k < n.kids.length := by have := (Hs.out.start.above hp).1; omega
                clear h0 hp
                obtain ⟨b6, o6, hA6, hlt6, hcell6⟩ := pt_at (HAt.out.kids.keep B4.out) k hkl
                have HP : Hid (n.kid k).Ok := getD_ok Hok.out.kidsB k
                have HC6 : Hid (Cells w4 b6 (o6 + k * 36) (pcells (n.kid k))) := hcell6
                have i3 : (k : Int) < (n.kids.length : Int) := by omega
                have q3 := row_kids R4.out
                rw [hA6] at q3
                clear hcell6 hA6
                obtain ⟨q, hq⟩ : ∃ q, Hid (q = n.kid k) := ⟨_, rfl⟩
                rw [← hq.out] at HP HC6 HE
                go_wp2_with (refine wpList_loadPs _ rfl rfl b6 (o6 + k * 36) rfl q HP.out.shaL HC6.out ?_)
                refine (refPut_any A5 n5 c5 (P ++ keyB n k) q _ HP.out HN5.out HO5.out.src (by omega)).mono ?_
                rw [HE.out]
                rintro e w7 ⟨v7, rfl, A7, n7, c7, rfl, hn7, ho7, hb7⟩
                have HN7 := Lib.hid hn7
                have HO7 := Lib.hid ho7
                clear hn7 ho7
                go_wp2_with fail
                go_roundw
                case rel => exact ⟨k + 1, n7, c7, A7, by omega, by go_num, rfl, by rw [HUP.out]; exact HN7.out, by rw [HUP.out]; exact HO7.out.more B4.out.size, R4.out.keep hb7, B4.out.trans (hb7.mono B4.out.size)⟩
                case measure => simp [intOf]; omega
          · have dy : decide (s < y.length) = false := by simp; omega
            clear hsrc1 hsrc2
            go_wp2_with fail
            refine wp_region_segs [] [0, 1, 2, 3, 4, 5, 6, 7, 8, 9, 10, 11, 12, 13, 14, 15, 16, 17, 18, 19, 20, 21, 22, 23, 24, 25, 26, 27, 28, 29, 30, 31, 32, 33, 34, 35, 36, 37, 38] (by kernel_rfl) (by kernel_rfl) (by kernel_rfl) (by kernel_rfl) (fun _ _ d _ _ h => by cases d <;> exact h) ?_
            refine wpSegs_last (by simp [pickOps]; rfl) ?_
            repeat (go_big_quiet_step (fail))
            refine wpQuiet_nil ?_
            clear k1 k2 q1
            have HSt : Hid (n.same k = s) := by
              show _ = _
              unfold Nd.same
              rw [HJ.out, last_next, ← HZ.out]
              unfold Nd.key
              rw [← HJ.out, ← HY'.out]
              exact same_eq s y z HS12.out.1 HS12.out.2 HEq.out (fun h _ => absurd h (by omega))
            have hsm : s ≤ y.length := HS12.out.1
            have HBt := Lib.hid (Below.drew (B2.out))
            have HRt := Lib.hid (R2.out.drew)
            have HPt := Lib.hid (PS2.out.keep (Ext.drew wr))
            clear hpc R2 B2 PS2 HS12 HEq
            go_wp2_with fail
            refine (shortRef_any A m c P (s : Int) _ HMm.out HPt.out (by omega) (by omega) (by omega)).mono ?_
            rintro e w3 ⟨v3, rfl, A4, n4, c4, rfl, hn4, ho4, hb3⟩
            rw [Int.toNat_natCast] at hn4 ho4
            have hn4' : n4 ≤ 888000 := by have := shortOf_ten s (by omega); rw [hn4, List.length_append, ← HMm.out]; omega
            have HN4 := Lib.hid hn4
            have HO4 := Lib.hid ho4
            have B3 := Lib.hid (HBt.out.trans (hb3.mono HBt.out.size))
            have R3 := Lib.hid (HRt.out.keep hb3)
            clear hn4 ho4 hb3 HBt HRt HPt
            obtain ⟨b1, o1, v1, hA1, hlt1, hcell1, S1, d1, hv1, hsrc1, hd1, hd1'⟩ := (HAt.out.keys.keep B3.out).at_ k hlt
            have hcell1' : w3.cell? ⟨b1, o1 + k, none⟩ = some (.slice S1 y.length d1) := by rw [hcell1, hv1, HY.out]; rfl
            have hsrc1' : Src .u8 w3 S1 y := by rw [HY.out]; exact hsrc1
            have hd1x : y.length ≤ d1 := by rw [HY.out]; exact hd1
            have q1 := row_keys R3.out
            rw [hA1] at q1
            clear hcell1 hv1 v1 hsrc1 hd1 hd1' hA1
            obtain ⟨T, hT⟩ : ∃ T, Hid (T = strOfNums (y.drop s)) := ⟨_, rfl⟩
            have kt : (convert 22 9 (.slice (Cut.cutA S1 d1 s) (y.length - s) (d1 - s))).run Try.prog w3 = .ok (.string T) w3 := by rw [hT.out]; exact run_text w3 _ _ _ (y.drop s) (by simp) (Cut.src_cut hsrc1' hsm hd1x)
            have hTs : T.size ≤ 10000 := by rw [hT.out, str_size (HYB.out.drop s), List.length_drop]; omega
            have HKL : Hid (P ++ shortOf s ++ textOf (strOfNums (y.drop s)) = P ++ keyB n k) := by
              show _ = _
              rw [textOf_L _ (HYB.out.drop s), List.append_assoc]
              unfold keyB
              rw [HSt.out]
              unfold Nd.key
              rw [← HY'.out]
            go_wp2_with (refine Cut.wpList_run rfl _ (Cut.exec_low Try.underlying22 Cut.size8 rfl (j := s) rfl rfl hsm _) ?_)
            refine (textRef_any A4 n4 c4 (P ++ shortOf s) T _ HN4.out HO4.out.src (by omega) hTs).mono ?_
            rw [hT.out, HKL.out]
            rintro e w4 ⟨v4, rfl, A5, n5, c5, rfl, hn5, ho5, hb4⟩
            have B4 := Lib.hid (B3.out.trans (hb4.mono B3.out.size))
            have R4 := Lib.hid (R3.out.keep hb4)
            have hn5' : n5 ≤ 888500 := by rw [hn5, List.length_append, ← HMm.out]; omega
            have HN5 := Lib.hid hn5
            have HO5 := Lib.hid ho5
            have q0 := row_level R4.out
            clear hn5 ho5 hb4 HN4 HO4 HKL B3 R3 q1 kt hcell1' hsrc1' hd1x hTs hT
            by_cases h0 : n.level = 0
            · have t4 : (n.level == 0) = true := by simpa using h0
              have HE : Hid (P ++ keyB n k ++ textL (n.val k) = P ++ entB n k) := by show _ = _; unfold entB bodyB; rw [if_pos h0, List.append_assoc]
              have hvl : k < n.vals.length := by have := (Hs.out.start.leaf h0).1; omega
              have hvs : (n.val k).length ≤ 1024 := Hs.out.valLen h0 hlt
              clear h0
              obtain ⟨b6, o6, v6, hA6, hlt6, hcell6, S6, d6, hv6, hsrc6, hd6, hd6'⟩ := (HAt.out.vals.keep B4.out).at_ k hvl
              have hcell6' : w4.cell? ⟨b6, o6 + k, none⟩ = some (.slice S6 (n.val k).length d6) := by rw [hcell6, hv6]; rfl
              have i3 : (k : Int) < (n.vals.length : Int) := by omega
              have q2 := row_vals R4.out
              rw [hA6] at q2
              have kv := run_text w4 S6 (n.val k).length d6 (n.val k) rfl hsrc6
              have HTL : Hid (textOf (strOfNums (n.val k)) = textL (n.val k)) := textOf_L _ (getD_bytes Hok.out.valsB k)
              have hsz : (strOfNums (n.val k)).size ≤ 10000 := by rw [str_size (xs := n.val k) (getD_bytes Hok.out.valsB k)]; omega
              obtain ⟨U, hU⟩ : ∃ U, Hid (U = strOfNums (n.val k)) := ⟨_, rfl⟩
              rw [← hU.out] at kv HTL hsz
              clear hcell6 hsrc6 hd6 hd6' hv6 hA6
              go_wp2_with fail
              refine (textRef_any A5 n5 c5 (P ++ keyB n k) U _ HN5.out HO5.out.src (by omega) hsz).mono ?_
              rw [HTL.out, HE.out]
              rintro e w7 ⟨v7, rfl, A7, n7, c7, rfl, hn7, ho7, hb7⟩
              have HN7 := Lib.hid hn7
              have HO7 := Lib.hid ho7
              clear hn7 ho7
              go_wp2_with fail
              go_roundw
              case rel => exact ⟨k + 1, n7, c7, A7, by omega, by go_num, rfl, by rw [HUP.out]; exact HN7.out, by rw [HUP.out]; exact HO7.out.more B4.out.size, R4.out.keep hb7, B4.out.trans (hb7.mono B4.out.size)⟩
              case measure => simp [intOf]; omega
            · have hp : 0 < n.level := by omega
              have t4 : (n.level == 0) = false := beq_eq_false_iff_ne.2 h0
              have HE : Hid (P ++ keyB n k ++ putOf (n.kid k) = P ++ entB n k) := by show _ = _; unfold entB bodyB; rw [if_neg h0, List.append_assoc]
              have hkl : k < n.kids.length := by have := (Hs.out.start.above hp).1; omega
              clear h0 hp
              obtain ⟨b6, o6, hA6, hlt6, hcell6⟩ := pt_at (HAt.out.kids.keep B4.out) k hkl
              have HP : Hid (n.kid k).Ok := getD_ok Hok.out.kidsB k
              have HC6 : Hid (Cells w4 b6 (o6 + k * 36) (pcells (n.kid k))) := hcell6
              have i3 : (k : Int) < (n.kids.length : Int) := by omega
              have q3 := row_kids R4.out
              rw [hA6] at q3
              clear hcell6 hA6
              obtain ⟨q, hq⟩ : ∃ q, Hid (q = n.kid k) := ⟨_, rfl⟩
              rw [← hq.out] at HP HC6 HE
              go_wp2_with (refine wpList_loadPs _ rfl rfl b6 (o6 + k * 36) rfl q HP.out.shaL HC6.out ?_)
              refine (refPut_any A5 n5 c5 (P ++ keyB n k) q _ HP.out HN5.out HO5.out.src (by omega)).mono ?_
              rw [HE.out]
              rintro e w7 ⟨v7, rfl, A7, n7, c7, rfl, hn7, ho7, hb7⟩
              have HN7 := Lib.hid hn7
              have HO7 := Lib.hid ho7
              clear hn7 ho7
              go_wp2_with fail
              go_roundw
              case rel => exact ⟨k + 1, n7, c7, A7, by omega, by go_num, rfl, by rw [HUP.out]; exact HN7.out, by rw [HUP.out]; exact HO7.out.more B4.out.size, R4.out.keep hb7, B4.out.trans (hb7.mono B4.out.size)⟩
              case measure => simp [intOf]; omega
    · obtain rfl : k = n.keys.length := by omega
      have HN := Lib.hid hm
      go_wp2_with fail
      go_ret
      exact ⟨_, rfl, A, m, c, rfl, HN.out, HO.out, HB.out⟩
end Lf
end Go.Proofs.Ytnoofmdhhlcbkaa

namespace Go.Proofs.Ytnoofmdhhlcbkaa
open Go.RowKit
namespace Lf
open Els

/-- Boxed at once: the operation as it is written (so that it fails fast at another). -/
theorem wpList_boxS {T : TypeId} {ops : Array Oper} {rest : List Oper} {a : Act} {w : World} {Q : Exit → Act → World → Prop} {d : Option Tmp} {t : Tmp} {ty : TypeId} {pos : String} {af : Array Edge} {n : Nd} {A1 : Option Addr} {c1 : Nat} {A2 : Option Addr} {c2 : Nat} {A3 : Option Addr} {c3 : Nat}
    (hx : a.eval (.tmp t) = .agg (ndC n A1 c1 A2 c2 A3 c3))
    (h : ∀ w', Row w' w.heap.size T (ndC n A1 c1 A2 c2 A3 c3) → Below w.heap.size w w' → w'.heap.size = w.heap.size + 1 → wpList Try.prog ops Q rest (a.put d (.pointer (some ⟨w.heap.size, 0, none⟩))) w') :
    wpList Try.prog ops Q ({ dst := d, op := .box T (.tmp t), type := ty, pos := pos, after := af, guard := none } :: rest) a w := wpList_boxN rfl _ rfl hx h
def RShapeAt (n : Nd) (A1 : Option Addr) (c1 : Nat) (A2 : Option Addr) (c2 : Nat) (A3 : Option Addr) (c3 : Nat) (w : World) : Prop :=
  Calls Try.prog 30 #[.agg (ndC n A1 c1 A2 c2 A3 c3)] w (Tells (Shape n) w)
/-- At a round's head: so many entries are right. -/
def RShAt (w : World) (n : Nd) (cs : Array Value) (i : Value) (wr : World) : Prop :=
  ∃ k : Nat, k ≤ n.keys.length ∧ i = .int .i64 (k : Int) ∧ (∀ j, j < k → keyOk n j = true ∧ bodyOk n j = true) ∧ Row wr w.heap.size 30 cs ∧ Below w.heap.size w wr
set_option maxHeartbeats 4000000 in
set_option maxRecDepth 100000 in
theorem rshape_no {n : Nd} {A1 : Option Addr} {c1 : Nat} {ks : List Value} {A2 : Option Addr} {c2 : Nat} {vs : List Value} {A3 : Option Addr} {c3 : Nat} {w : World} (at_ : NdAt w n A1 c1 ks A2 c2 vs A3 c3) (ok : n.Ok) (h : n.level < 0 ∨ 12 < n.level ∨ n.keys.length = 0 ∨ 4096 < n.keys.length) : RShapeAt n A1 c1 A2 c2 A3 c3 w := by
  have HN : Hid (¬ Shape n) := fun f => by have := f.start.lo; have := f.start.hi; have := f.start.one; have := f.start.most; omega
  have m1 : n.keys.length ≤ 9223372036854775807 := by have := at_.keys.cap; have := at_.keys.max; unfold maxLen at this; omega
  have m2 : n.vals.length ≤ 9223372036854775807 := by have := at_.vals.cap; have := at_.vals.max; unfold maxLen at this; omega
  have m3 : n.kids.length ≤ 9223372036854775807 := by have := at_.cap; have := at_.max; unfold maxLen at this; omega
  have lo := ok.lo
  have hi := ok.hi
  clear at_ ok
  unfold RShapeAt
  by_cases h1 : n.level < 0
  · clear h
    go_enter Try.func30, Try.ntmps30
    go_wp2_with ((with_reducible refine wpList_boxS (n := n) (A1 := A1) (c1 := c1) (A2 := A2) (c2 := c2) (A3 := A3) (c3 := c3) ?_ ?_); (focus rfl); intro w1 hr1 hb1 hz1; have r0 := row_level hr1; have r1 := row_keys hr1; have r2 := row_vals hr1; have r3 := row_kids hr1; have HR := Lib.hid hr1; have HB := Lib.hid hb1; clear hr1 hb1)
    go_ret
    exact Tells.no HN.out HB.out
  · by_cases h2 : 12 < n.level
    · clear h
      have t1 : decide (n.level < 0) = false := by simp; omega
      go_enter Try.func30, Try.ntmps30
      go_wp2_with ((with_reducible refine wpList_boxS (n := n) (A1 := A1) (c1 := c1) (A2 := A2) (c2 := c2) (A3 := A3) (c3 := c3) ?_ ?_); (focus rfl); intro w1 hr1 hb1 hz1; have r0 := row_level hr1; have r1 := row_keys hr1; have r2 := row_vals hr1; have r3 := row_kids hr1; have HR := Lib.hid hr1; have HB := Lib.hid hb1; clear hr1 hb1)
      go_ret
      exact Tells.no HN.out HB.out
    · by_cases h3 : n.keys.length = 0
      · clear h
        have t1 : decide (n.level < 0) = false := by simp; omega
        have t2 : decide ((12 : Int) < n.level) = false := by simp; omega
        go_enter Try.func30, Try.ntmps30
        go_wp2_with ((with_reducible refine wpList_boxS (n := n) (A1 := A1) (c1 := c1) (A2 := A2) (c2 := c2) (A3 := A3) (c3 := c3) ?_ ?_); (focus rfl); intro w1 hr1 hb1 hz1; have r0 := row_level hr1; have r1 := row_keys hr1; have r2 := row_vals hr1; have r3 := row_kids hr1; rw [h3] at r1; have HR := Lib.hid hr1; have HB := Lib.hid hb1; clear hr1 hb1)
        go_ret
        exact Tells.no HN.out HB.out
      · have h4 : 4096 < n.keys.length := by omega
        clear h
        have t1 : decide (n.level < 0) = false := by simp; omega
        have t2 : decide ((12 : Int) < n.level) = false := by simp; omega
        have t3 : ((n.keys.length : Int) == 0) = false := beq_eq_false_iff_ne.2 (by omega)
        have t3' : n.keys.length ≠ 0 := by omega
        have t3'' : (n.keys.length == 0) = false := by rw [beq_eq_false_iff_ne]; omega
        have t4 : decide (4096 < n.keys.length) = true := by simp; omega
        go_enter Try.func30, Try.ntmps30
        go_wp2_with ((with_reducible refine wpList_boxS (n := n) (A1 := A1) (c1 := c1) (A2 := A2) (c2 := c2) (A3 := A3) (c3 := c3) ?_ ?_); (focus rfl); intro w1 hr1 hb1 hz1; have r0 := row_level hr1; have r1 := row_keys hr1; have r2 := row_vals hr1; have r3 := row_kids hr1; have HR := Lib.hid hr1; have HB := Lib.hid hb1; clear hr1 hb1)
        go_ret
        exact Tells.no HN.out HB.out
set_option maxHeartbeats 4000000 in
set_option maxRecDepth 100000 in
theorem rshape_mis0 {n : Nd} {A1 : Option Addr} {c1 : Nat} {ks : List Value} {A2 : Option Addr} {c2 : Nat} {vs : List Value} {A3 : Option Addr} {c3 : Nat} {w : World} (at_ : NdAt w n A1 c1 ks A2 c2 vs A3 c3) (ok : n.Ok) (h1 : 1 ≤ n.keys.length) (h2 : n.keys.length ≤ 4096) (h0 : n.level = 0) (h : ¬ (n.vals.length = n.keys.length ∧ n.kids.length = 0)) : RShapeAt n A1 c1 A2 c2 A3 c3 w := by
  have HN : Hid (¬ Shape n) := fun f => h (f.start.leaf h0)
  have m1 : n.keys.length ≤ 9223372036854775807 := by have := at_.keys.cap; have := at_.keys.max; unfold maxLen at this; omega
  have m2 : n.vals.length ≤ 9223372036854775807 := by have := at_.vals.cap; have := at_.vals.max; unfold maxLen at this; omega
  have m3 : n.kids.length ≤ 9223372036854775807 := by have := at_.cap; have := at_.max; unfold maxLen at this; omega
  have lo := ok.lo
  have hi := ok.hi
  clear at_ ok
  unfold RShapeAt
  have t1 : decide (n.level < 0) = false := by simp; omega
  have t2 : decide ((12 : Int) < n.level) = false := by simp; omega
  have t3 : ((n.keys.length : Int) == 0) = false := beq_eq_false_iff_ne.2 (by omega)
  have t3' : n.keys.length ≠ 0 := by omega
  have t3'' : (n.keys.length == 0) = false := by rw [beq_eq_false_iff_ne]; omega
  have t4 : decide ((4096 : Int) < (n.keys.length : Int)) = false := by simp; omega
  have t4' : decide (4096 < n.keys.length) = false := by simp; omega
  have t5 : (n.level == 0) = true := by simpa using h0
  have t6 : decide ((0 : Int) < n.level) = false := by simp; omega
  by_cases hv : n.vals.length = n.keys.length
  · have hp : n.kids.length ≠ 0 := fun hp => h ⟨hv, hp⟩
    have x11 : (((n.kids.length : Nat) : Int) == ((0 : Nat) : Int)) = false := by rw [beq_eq_false_iff_ne]; omega
    have x12 : (n.kids.length == 0) = false := by rw [beq_eq_false_iff_ne]; omega
    have x13 : (((n.kids.length : Nat) : Int) != ((0 : Nat) : Int)) = true := by rw [bne_iff_ne]; omega
    have x14 : (n.kids.length != 0) = true := by rw [bne_iff_ne]; omega
    have x15 : (((n.kids.length : Nat) : Int) == (0 : Int)) = false := by rw [beq_eq_false_iff_ne]; omega
    have x16 : (((n.kids.length : Nat) : Int) != (0 : Int)) = true := by rw [bne_iff_ne]; omega
    clear h
    go_enter Try.func30, Try.ntmps30
    go_wp2_with ((with_reducible refine wpList_boxS (n := n) (A1 := A1) (c1 := c1) (A2 := A2) (c2 := c2) (A3 := A3) (c3 := c3) ?_ ?_); (focus rfl); intro w1 hr1 hb1 hz1; have r0 := row_level hr1; have r1 := row_keys hr1; have r2 := row_vals hr1; have r3 := row_kids hr1; rw [hv] at r2; have HR := Lib.hid hr1; have HB := Lib.hid hb1; clear hr1 hb1)
    go_ret
    exact Tells.no HN.out HB.out
  · have x11 : (((n.vals.length : Nat) : Int) == ((n.keys.length : Nat) : Int)) = false := by rw [beq_eq_false_iff_ne]; omega
    have x12 : (n.vals.length == n.keys.length) = false := by rw [beq_eq_false_iff_ne]; omega
    have x13 : (((n.vals.length : Nat) : Int) != ((n.keys.length : Nat) : Int)) = true := by rw [bne_iff_ne]; omega
    have x14 : (n.vals.length != n.keys.length) = true := by rw [bne_iff_ne]; omega
    have x15 : (((n.vals.length : Nat) : Int) == (n.keys.length : Int)) = false := by rw [beq_eq_false_iff_ne]; omega
    have x16 : (((n.vals.length : Nat) : Int) != (n.keys.length : Int)) = true := by rw [bne_iff_ne]; omega
    clear h
    go_enter Try.func30, Try.ntmps30
    go_wp2_with ((with_reducible refine wpList_boxS (n := n) (A1 := A1) (c1 := c1) (A2 := A2) (c2 := c2) (A3 := A3) (c3 := c3) ?_ ?_); (focus rfl); intro w1 hr1 hb1 hz1; have r0 := row_level hr1; have r1 := row_keys hr1; have r2 := row_vals hr1; have r3 := row_kids hr1; have HR := Lib.hid hr1; have HB := Lib.hid hb1; clear hr1 hb1)
    go_ret
    exact Tells.no HN.out HB.out
set_option maxHeartbeats 4000000 in
set_option maxRecDepth 100000 in
theorem rshape_mis1 {n : Nd} {A1 : Option Addr} {c1 : Nat} {ks : List Value} {A2 : Option Addr} {c2 : Nat} {vs : List Value} {A3 : Option Addr} {c3 : Nat} {w : World} (at_ : NdAt w n A1 c1 ks A2 c2 vs A3 c3) (ok : n.Ok) (h1 : 1 ≤ n.keys.length) (h2 : n.keys.length ≤ 4096) (h0 : 0 < n.level) (h12 : n.level ≤ 12) (h : ¬ (n.kids.length = n.keys.length ∧ n.vals.length = 0)) : RShapeAt n A1 c1 A2 c2 A3 c3 w := by
  have HN : Hid (¬ Shape n) := fun f => h (f.start.above h0)
  have m1 : n.keys.length ≤ 9223372036854775807 := by have := at_.keys.cap; have := at_.keys.max; unfold maxLen at this; omega
  have m2 : n.vals.length ≤ 9223372036854775807 := by have := at_.vals.cap; have := at_.vals.max; unfold maxLen at this; omega
  have m3 : n.kids.length ≤ 9223372036854775807 := by have := at_.cap; have := at_.max; unfold maxLen at this; omega
  have lo := ok.lo
  have hi := ok.hi
  clear at_ ok
  unfold RShapeAt
  have t1 : decide (n.level < 0) = false := by simp; omega
  have t2 : decide ((12 : Int) < n.level) = false := by simp; omega
  have t3 : ((n.keys.length : Int) == 0) = false := beq_eq_false_iff_ne.2 (by omega)
  have t3' : n.keys.length ≠ 0 := by omega
  have t3'' : (n.keys.length == 0) = false := by rw [beq_eq_false_iff_ne]; omega
  have t4 : decide ((4096 : Int) < (n.keys.length : Int)) = false := by simp; omega
  have t4' : decide (4096 < n.keys.length) = false := by simp; omega
  have t5 : (n.level == 0) = false := by rw [beq_eq_false_iff_ne]; omega
  have t6 : decide ((0 : Int) < n.level) = true := by simp; omega
  by_cases hp : n.kids.length = n.keys.length
  · have hv : n.vals.length ≠ 0 := fun hv => h ⟨hp, hv⟩
    have x11 : (((n.vals.length : Nat) : Int) == ((0 : Nat) : Int)) = false := by rw [beq_eq_false_iff_ne]; omega
    have x12 : (n.vals.length == 0) = false := by rw [beq_eq_false_iff_ne]; omega
    have x13 : (((n.vals.length : Nat) : Int) != ((0 : Nat) : Int)) = true := by rw [bne_iff_ne]; omega
    have x14 : (n.vals.length != 0) = true := by rw [bne_iff_ne]; omega
    have x15 : (((n.vals.length : Nat) : Int) == (0 : Int)) = false := by rw [beq_eq_false_iff_ne]; omega
    have x16 : (((n.vals.length : Nat) : Int) != (0 : Int)) = true := by rw [bne_iff_ne]; omega
    clear h
    go_enter Try.func30, Try.ntmps30
    go_wp2_with ((with_reducible refine wpList_boxS (n := n) (A1 := A1) (c1 := c1) (A2 := A2) (c2 := c2) (A3 := A3) (c3 := c3) ?_ ?_); (focus rfl); intro w1 hr1 hb1 hz1; have r0 := row_level hr1; have r1 := row_keys hr1; have r2 := row_vals hr1; have r3 := row_kids hr1; rw [hp] at r3; have HR := Lib.hid hr1; have HB := Lib.hid hb1; clear hr1 hb1)
    go_ret
    exact Tells.no HN.out HB.out
  · have x11 : (((n.kids.length : Nat) : Int) == ((n.keys.length : Nat) : Int)) = false := by rw [beq_eq_false_iff_ne]; omega
    have x12 : (n.kids.length == n.keys.length) = false := by rw [beq_eq_false_iff_ne]; omega
    have x13 : (((n.kids.length : Nat) : Int) != ((n.keys.length : Nat) : Int)) = true := by rw [bne_iff_ne]; omega
    have x14 : (n.kids.length != n.keys.length) = true := by rw [bne_iff_ne]; omega
    have x15 : (((n.kids.length : Nat) : Int) == (n.keys.length : Int)) = false := by rw [beq_eq_false_iff_ne]; omega
    have x16 : (((n.kids.length : Nat) : Int) != (n.keys.length : Int)) = true := by rw [bne_iff_ne]; omega
    clear h
    go_enter Try.func30, Try.ntmps30
    go_wp2_with ((with_reducible refine wpList_boxS (n := n) (A1 := A1) (c1 := c1) (A2 := A2) (c2 := c2) (A3 := A3) (c3 := c3) ?_ ?_); (focus rfl); intro w1 hr1 hb1 hz1; have r0 := row_level hr1; have r1 := row_keys hr1; have r2 := row_vals hr1; have r3 := row_kids hr1; have HR := Lib.hid hr1; have HB := Lib.hid hb1; clear hr1 hb1)
    go_ret
    exact Tells.no HN.out HB.out
set_option maxHeartbeats 16000000 in
set_option maxRecDepth 100000 in
theorem rshape_leaf {n : Nd} {A1 : Option Addr} {c1 : Nat} {ks : List Value} {A2 : Option Addr} {c2 : Nat} {vs : List Value} {A3 : Option Addr} {c3 : Nat} {w : World} (at_ : NdAt w n A1 c1 ks A2 c2 vs A3 c3) (ok : n.Ok) (st : Start n) (h0 : n.level = 0) : RShapeAt n A1 c1 A2 c2 A3 c3 w := by
  have HAt := Lib.hid at_
  have Hok := Lib.hid ok
  have Hst := Lib.hid st
  have H0 := Lib.hid h0
  have m1 : n.keys.length ≤ 4096 := st.most
  have m2 : n.vals.length ≤ 9223372036854775807 := by have := at_.vals.cap; have := at_.vals.max; unfold maxLen at this; omega
  have m3 : n.kids.length ≤ 9223372036854775807 := by have := at_.cap; have := at_.max; unfold maxLen at this; omega
  have t1 : decide (n.level < 0) = false := by simp; omega
  have t2 : decide ((12 : Int) < n.level) = false := by have := st.hi; simp; omega
  have t3 : ((n.keys.length : Int) == 0) = false := by rw [beq_eq_false_iff_ne]; have := st.one; omega
  have t3' : n.keys.length ≠ 0 := by have := st.one; omega
  have t3'' : (n.keys.length == 0) = false := by rw [beq_eq_false_iff_ne]; have := st.one; omega
  have t4 : decide ((4096 : Int) < (n.keys.length : Int)) = false := by have := st.most; simp; omega
  have t4' : decide (4096 < n.keys.length) = false := by have := st.most; simp; omega
  have t5 : (n.level == 0) = true := by simpa using h0
  have t6 : decide ((0 : Int) < n.level) = false := by simp; omega
  have hv := (st.leaf h0).1
  have hp := (st.leaf h0).2
  clear at_ ok st h0
  unfold RShapeAt
  go_enter Try.func30, Try.ntmps30
  go_wp2_with ((with_reducible refine wpList_boxS (n := n) (A1 := A1) (c1 := c1) (A2 := A2) (c2 := c2) (A3 := A3) (c3 := c3) ?_ ?_); (focus rfl); intro w1 hr1 hb1 hz1; have r0 := row_level hr1; have r1 := row_keys hr1; have r2 := row_vals hr1; have r3 := row_kids hr1; rw [hv] at r2; rw [hp] at r3; clear hv hp; have HR := Lib.hid hr1; have HB := Lib.hid hb1; clear hr1 hb1)
  clear r0 r1 r2 r3
  go_loopw [3] (fun i wr => RShAt w n (ndC n A1 c1 A2 c2 A3 c3) i wr) (fun i _ => n.keys.length - (intOf i).toNat)
  case atStart => exact ⟨0, Nat.zero_le _, rfl, fun i hi => by omega, HR.out, HB.out⟩
  case round =>
    obtain ⟨k, hk, rfl, hall, hr, hb⟩ := hrel
    have r1 := row_keys hr
    have HRr := Lib.hid hr
    have HBr := Lib.hid hb
    have HAll := Lib.hid hall
    clear HR HB hall hr hb
    by_cases hlt : k < n.keys.length
    · have i1 : (k : Int) < (n.keys.length : Int) := by omega
      have q1 := HRr.out.drew.above (ndC_1 n A1 c1 A2 c2 A3 c3)
      obtain ⟨b1, o1, v1, hA1, hlt1, hcell1, S1, d1, hv1, hsrc1, hd1, hd1'⟩ := (HAt.out.keys.keep HBr.out).at_ k hlt
      obtain ⟨y, HY⟩ : ∃ y, Hid (y = n.key k) := ⟨_, rfl⟩
      have HY' : Hid (y = n.keys.getD k []) := HY
      have HYB : Hid (IsBytes y) := by rw [HY.out]; exact getD_bytes Hok.out.keysB k
      rw [hv1, ← HY'.out] at hcell1
      rw [← HY'.out] at hsrc1
      rw [hA1] at q1
      have k1 : ∀ g : Above wr.drew, g.1.cell? ⟨b1, o1 + k, none⟩ = some (.slice S1 y.length d1) := fun g => ((Ext.trans (Ext.drew wr) g.2).cell (p := ⟨b1, o1 + k, none⟩) hlt1).trans hcell1
      clear hv1 hd1 hd1' hcell1
      by_cases hks : y.length ≤ 160
      · have dk : decide (160 < y.length) = false := by simp; omega
        have dk' : decide ((160 : Int) < (y.length : Int)) = false := by simp; omega
        by_cases hk0 : k = 0
        · have HKO : Hid (keyOk n k = true) := by show _ = _; unfold keyOk; rw [← HY.out, hk0]; simpa using hks
          have d0 : decide (0 < k) = false := by simp; omega
          have d0' : decide ((0 : Int) < (k : Int)) = false := by simp; omega
          clear hk0 hA1 hsrc1
          go_wp2_with fail
          refine wp_region_segs [] [0, 1, 2, 3, 4, 5, 6, 7, 8, 9, 10, 11, 12, 13, 14, 15, 16, 17, 18, 19, 20, 21, 22, 23, 24, 25, 26] (by kernel_rfl) (by kernel_rfl) (by kernel_rfl) (by kernel_rfl) (fun _ _ d _ _ h => by cases d <;> exact h) ?_
          refine wpSegs_last (by simp [pickOps]; rfl) ?_
          repeat (go_big_quiet_step (fail))
          refine wpQuiet_nil ?_
          clear q1 k1
          have R5 : Hid (Row wr.drew w.heap.size 30 (ndC n A1 c1 A2 c2 A3 c3)) := HRr.out.drew
          have B5 : Hid (Below w.heap.size w wr.drew) := Below.drew HBr.out
          generalize wr.drew = w5 at *
          have q0 := row_level R5.out
          have q2 := row_vals R5.out
          have hvl : k < n.vals.length := by have := (Hst.out.leaf H0.out).1; omega
          obtain ⟨b6, o6, v6, hA6, hlt6, hcell6, S6, d6, hv6, hsrc6, hd6, hd6'⟩ := (HAt.out.vals.keep B5.out).at_ k hvl
          obtain ⟨p, hp⟩ : ∃ p : Nat, Hid (p = (n.val k).length) := ⟨_, rfl⟩
          have hcell6' : w5.cell? ⟨b6, o6 + k, none⟩ = some (.slice S6 p d6) := by rw [hcell6, hv6, hp.out]; rfl
          have i3 : (k : Int) < (n.vals.length : Int) := by omega
          rw [hA6] at q2
          clear hcell6 hsrc6 hd6 hd6' hv6 hA6
          by_cases hv : p ≤ 1024
          · have dv : decide (1024 < p) = false := by simp; omega
            have dv' : decide ((1024 : Int) < (p : Int)) = false := by simp; omega
            have HBO : Hid (bodyOk n k = true) := by show _ = _; unfold bodyOk; rw [if_pos H0.out, ← hp.out]; simpa using hv
            clear hv
            go_wp2_with fail
            go_roundw
            case rel => exact ⟨k + 1, by omega, by go_num, fun i hi => by
              rcases Nat.lt_or_eq_of_le (show i ≤ k by omega) with h | h
              · exact HAll.out i h
              · rw [h]; exact ⟨HKO.out, HBO.out⟩, R5.out, B5.out⟩
            case measure => simp [intOf]; omega
          · have dv : decide (1024 < p) = true := by simp; omega
            have dv' : decide ((1024 : Int) < (p : Int)) = true := by simp; omega
            have HBO : Hid (¬ Shape n) := fun f => by
              have := f.valLen H0.out hlt
              rw [← hp.out] at this
              omega
            clear hv
            go_wp2_with fail
            go_ret
            exact Tells.no HBO.out B5.out
        · obtain ⟨j, HJ⟩ : ∃ j, Hid (k = j + 1) := ⟨k - 1, by show _ = _; omega⟩
          have d0 : decide (0 < k) = true := by simp; omega
          have d0' : decide ((0 : Int) < (k : Int)) = true := by simp; omega
          obtain ⟨b2, o2, v2, hA2, hlt2, hcell2, S2, d2, hv2, hsrc2, hd2, hd2'⟩ := (HAt.out.keys.keep HBr.out).at_ j (by have := HJ.out; omega)
          rw [hA1] at hA2
          injection hA2 with hA2
          injection hA2 with e1 e2 _
          subst e1 e2 hv2
          obtain ⟨z, HZ⟩ : ∃ z, Hid (z = n.keys.getD j []) := ⟨_, rfl⟩
          rw [← HZ.out] at hcell2 hsrc2
          have HZB : Hid (IsBytes z) := by rw [HZ.out]; exact getD_bytes Hok.out.keysB j
          have k2 : ∀ g : Above wr.drew, g.1.cell? ⟨b1, o1 + j, none⟩ = some (.slice S2 z.length d2) := fun g => ((Ext.trans (Ext.drew wr) g.2).cell (p := ⟨b1, o1 + j, none⟩) hlt2).trans hcell2
          have HL := Lib.hid (Lex.less_texts z y HZB.out HYB.out)
          have k3 : ∀ g : Above wr.drew, (convert 22 9 (.slice S1 y.length d1)).run Try.prog g.1 = .ok (.string (strOfNums y)) g.1 := fun g => run_text g.1 S1 _ d1 y rfl (hsrc1.keep (Ext.trans (Ext.drew wr) g.2))
          have k4 : ∀ g : Above wr.drew, (convert 22 9 (.slice S2 z.length d2)).run Try.prog g.1 = .ok (.string (strOfNums z)) g.1 := fun g => run_text g.1 S2 _ d2 z rfl (hsrc2.keep (Ext.trans (Ext.drew wr) g.2))
          generalize strOfNums y = Y at *
          generalize strOfNums z = Z at *
          have hkj : IntKind.i64.wrap ((k : Int) - 1) = (j : Int) := by rw [IntWalk.i64_in _ (by have := HJ.out; omega)]; have := HJ.out; omega
          have t2 : (k : Int) - 1 = (j : Int) := by have := HJ.out; omega
          have hjn : (j : Int) < (n.keys.length : Int) := by have := HJ.out; omega
          clear hk0 hA1 hsrc1 hsrc2 hcell2 hd2 hd2'
          cases hless : Lex.lexB z y with
          | true =>
            have HKO : Hid (keyOk n k = true) := by
              show _ = _
              unfold keyOk
              rw [← HY.out, HJ.out, last_next, ← HZ.out, hless]
              simpa using hks
            rw [hless] at HL
            have hL := HL.out
            clear hless
            go_wp2_with fail
            refine wp_region_segs [] [0, 1, 2, 3, 4, 5, 6, 7, 8, 9, 10, 11, 12, 13, 14, 15, 16, 17, 18, 19, 20, 21, 22, 23, 24, 25, 26] (by kernel_rfl) (by kernel_rfl) (by kernel_rfl) (by kernel_rfl) (fun _ _ d _ _ h => by cases d <;> exact h) ?_
            refine wpSegs_last (by simp [pickOps]; rfl) ?_
            repeat (go_big_quiet_step (fail))
            refine wpQuiet_nil ?_
            clear q1 k1 k2 k3 k4 hL
            have R5 : Hid (Row wr.drew w.heap.size 30 (ndC n A1 c1 A2 c2 A3 c3)) := HRr.out.drew
            have B5 : Hid (Below w.heap.size w wr.drew) := Below.drew HBr.out
            generalize wr.drew = w5 at *
            have q0 := row_level R5.out
            have q2 := row_vals R5.out
            have hvl : k < n.vals.length := by have := (Hst.out.leaf H0.out).1; omega
            obtain ⟨b6, o6, v6, hA6, hlt6, hcell6, S6, d6, hv6, hsrc6, hd6, hd6'⟩ := (HAt.out.vals.keep B5.out).at_ k hvl
            obtain ⟨p, hp⟩ : ∃ p : Nat, Hid (p = (n.val k).length) := ⟨_, rfl⟩
            have hcell6' : w5.cell? ⟨b6, o6 + k, none⟩ = some (.slice S6 p d6) := by rw [hcell6, hv6, hp.out]; rfl
            have i3 : (k : Int) < (n.vals.length : Int) := by omega
            rw [hA6] at q2
            clear hcell6 hsrc6 hd6 hd6' hv6 hA6
            by_cases hv : p ≤ 1024
            · have dv : decide (1024 < p) = false := by simp; omega
              have dv' : decide ((1024 : Int) < (p : Int)) = false := by simp; omega
              have HBO : Hid (bodyOk n k = true) := by show _ = _; unfold bodyOk; rw [if_pos H0.out, ← hp.out]; simpa using hv
              clear hv
              go_wp2_with fail
              go_roundw
              case rel => exact ⟨k + 1, by omega, by go_num, fun i hi => by
                rcases Nat.lt_or_eq_of_le (show i ≤ k by omega) with h | h
                · exact HAll.out i h
                · rw [h]; exact ⟨HKO.out, HBO.out⟩, R5.out, B5.out⟩
              case measure => simp [intOf]; omega
            · have dv : decide (1024 < p) = true := by simp; omega
              have dv' : decide ((1024 : Int) < (p : Int)) = true := by simp; omega
              have HBO : Hid (¬ Shape n) := fun f => by
                have := f.valLen H0.out hlt
                rw [← hp.out] at this
                omega
              clear hv
              go_wp2_with fail
              go_ret
              exact Tells.no HBO.out B5.out
          | false =>
            have HNO : Hid (¬ Shape n) := fun f => by
              have := f.rises (i := j) (by have := HJ.out; omega)
              unfold Nd.key at this
              rw [← HJ.out, ← HY'.out, ← HZ.out, hless] at this
              cases this
            rw [hless] at HL
            have hL := HL.out
            clear hless
            go_wp2_with fail
            refine wp_region_segs [] [0, 1, 2, 3, 4, 5, 6, 7, 8, 9, 10, 11, 12, 13, 14, 15, 16, 17, 18, 19, 20, 21, 22, 23, 24, 25, 26] (by kernel_rfl) (by kernel_rfl) (by kernel_rfl) (by kernel_rfl) (fun _ _ d _ _ h => by cases d <;> exact h) ?_
            refine wpSegs_last (by simp [pickOps]; rfl) ?_
            repeat (go_big_quiet_step (fail))
            refine wpQuiet_nil ?_
            clear q1 k1 k2 k3 k4
            have B5 : Hid (Below w.heap.size w wr.drew) := Below.drew HBr.out
            go_wp2_with fail
            go_ret
            exact Tells.no HNO.out B5.out
      · have dk : decide (160 < y.length) = true := by simp; omega
        have dk' : decide ((160 : Int) < (y.length : Int)) = true := by simp; omega
        have HNO : Hid (¬ Shape n) := fun f => by
          have := f.keyLen hlt
          rw [← HY.out] at this
          omega
        clear hA1 hsrc1 hks
        go_wp2_with fail
        refine wp_region_segs [] [0, 1, 2, 3, 4, 5, 6, 7, 8, 9, 10, 11, 12, 13, 14, 15, 16, 17, 18, 19, 20, 21, 22, 23, 24, 25, 26] (by kernel_rfl) (by kernel_rfl) (by kernel_rfl) (by kernel_rfl) (fun _ _ d _ _ h => by cases d <;> exact h) ?_
        refine wpSegs_last (by simp [pickOps]; rfl) ?_
        repeat (go_big_quiet_step (fail))
        refine wpQuiet_nil ?_
        clear q1 k1
        have B5 : Hid (Below w.heap.size w wr.drew) := Below.drew HBr.out
        go_wp2_with fail
        go_ret
        exact Tells.no HNO.out B5.out
    · obtain rfl : k = n.keys.length := by omega
      go_wp2_with fail
      go_ret
      exact Tells.yes ⟨Hst.out, fun i hi => (HAll.out i hi).1, fun i hi => (HAll.out i hi).2⟩ HBr.out
set_option maxHeartbeats 16000000 in
set_option maxRecDepth 100000 in
theorem rshape_above {n : Nd} {A1 : Option Addr} {c1 : Nat} {ks : List Value} {A2 : Option Addr} {c2 : Nat} {vs : List Value} {A3 : Option Addr} {c3 : Nat} {w : World} (at_ : NdAt w n A1 c1 ks A2 c2 vs A3 c3) (ok : n.Ok) (st : Start n) (h0 : 0 < n.level) : RShapeAt n A1 c1 A2 c2 A3 c3 w := by
  have HAt := Lib.hid at_
  have Hok := Lib.hid ok
  have Hst := Lib.hid st
  have H0 := Lib.hid h0
  have m1 : n.keys.length ≤ 4096 := st.most
  have m2 : n.vals.length ≤ 9223372036854775807 := by have := at_.vals.cap; have := at_.vals.max; unfold maxLen at this; omega
  have m3 : n.kids.length ≤ 9223372036854775807 := by have := at_.cap; have := at_.max; unfold maxLen at this; omega
  have t1 : decide (n.level < 0) = false := by simp; omega
  have t2 : decide ((12 : Int) < n.level) = false := by have := st.hi; simp; omega
  have t3 : ((n.keys.length : Int) == 0) = false := by rw [beq_eq_false_iff_ne]; have := st.one; omega
  have t3' : n.keys.length ≠ 0 := by have := st.one; omega
  have t3'' : (n.keys.length == 0) = false := by rw [beq_eq_false_iff_ne]; have := st.one; omega
  have t4 : decide ((4096 : Int) < (n.keys.length : Int)) = false := by have := st.most; simp; omega
  have t4' : decide (4096 < n.keys.length) = false := by have := st.most; simp; omega
  have t5 : (n.level == 0) = false := by rw [beq_eq_false_iff_ne]; omega
  have t6 : decide ((0 : Int) < n.level) = true := by simp; omega
  have hp := (st.above h0).1
  have hv := (st.above h0).2
  clear at_ ok st h0
  unfold RShapeAt
  go_enter Try.func30, Try.ntmps30
  go_wp2_with ((with_reducible refine wpList_boxS (n := n) (A1 := A1) (c1 := c1) (A2 := A2) (c2 := c2) (A3 := A3) (c3 := c3) ?_ ?_); (focus rfl); intro w1 hr1 hb1 hz1; have r0 := row_level hr1; have r1 := row_keys hr1; have r2 := row_vals hr1; have r3 := row_kids hr1; rw [hv] at r2; rw [hp] at r3; clear hv hp; have HR := Lib.hid hr1; have HB := Lib.hid hb1; clear hr1 hb1)
  clear r0 r1 r2 r3
  go_loopw [3] (fun i wr => RShAt w n (ndC n A1 c1 A2 c2 A3 c3) i wr) (fun i _ => n.keys.length - (intOf i).toNat)
  case atStart => exact ⟨0, Nat.zero_le _, rfl, fun i hi => by omega, HR.out, HB.out⟩
  case round =>
    obtain ⟨k, hk, rfl, hall, hr, hb⟩ := hrel
    have r1 := row_keys hr
    have HRr := Lib.hid hr
    have HBr := Lib.hid hb
    have HAll := Lib.hid hall
    clear HR HB hall hr hb
    by_cases hlt : k < n.keys.length
    · have i1 : (k : Int) < (n.keys.length : Int) := by omega
      have q1 := HRr.out.drew.above (ndC_1 n A1 c1 A2 c2 A3 c3)
      obtain ⟨b1, o1, v1, hA1, hlt1, hcell1, S1, d1, hv1, hsrc1, hd1, hd1'⟩ := (HAt.out.keys.keep HBr.out).at_ k hlt
      obtain ⟨y, HY⟩ : ∃ y, Hid (y = n.key k) := ⟨_, rfl⟩
      have HY' : Hid (y = n.keys.getD k []) := HY
      have HYB : Hid (IsBytes y) := by rw [HY.out]; exact getD_bytes Hok.out.keysB k
      rw [hv1, ← HY'.out] at hcell1
      rw [← HY'.out] at hsrc1
      rw [hA1] at q1
      have k1 : ∀ g : Above wr.drew, g.1.cell? ⟨b1, o1 + k, none⟩ = some (.slice S1 y.length d1) := fun g => ((Ext.trans (Ext.drew wr) g.2).cell (p := ⟨b1, o1 + k, none⟩) hlt1).trans hcell1
      clear hv1 hd1 hd1' hcell1
      by_cases hks : y.length ≤ 160
      · have dk : decide (160 < y.length) = false := by simp; omega
        have dk' : decide ((160 : Int) < (y.length : Int)) = false := by simp; omega
        by_cases hk0 : k = 0
        · have HKO : Hid (keyOk n k = true) := by show _ = _; unfold keyOk; rw [← HY.out, hk0]; simpa using hks
          have d0 : decide (0 < k) = false := by simp; omega
          have d0' : decide ((0 : Int) < (k : Int)) = false := by simp; omega
          clear hk0 hA1 hsrc1
          go_wp2_with fail
          refine wp_region_segs [] [0, 1, 2, 3, 4, 5, 6, 7, 8, 9, 10, 11, 12, 13, 14, 15, 16, 17, 18, 19, 20, 21, 22, 23, 24, 25, 26] (by kernel_rfl) (by kernel_rfl) (by kernel_rfl) (by kernel_rfl) (fun _ _ d _ _ h => by cases d <;> exact h) ?_
          refine wpSegs_last (by simp [pickOps]; rfl) ?_
          repeat (go_big_quiet_step (fail))
          refine wpQuiet_nil ?_
          clear q1 k1
          have R5 : Hid (Row wr.drew w.heap.size 30 (ndC n A1 c1 A2 c2 A3 c3)) := HRr.out.drew
          have B5 : Hid (Below w.heap.size w wr.drew) := Below.drew HBr.out
          generalize wr.drew = w5 at *
          have q0 := row_level R5.out
          have q3 := row_kids R5.out
          have hkl : k < n.kids.length := by have := (Hst.out.above H0.out).1; omega
          obtain ⟨b6, o6, hA6, hlt6, hcell6⟩ := pt_at (HAt.out.kids.keep B5.out) k hkl
          obtain ⟨q, hq⟩ : ∃ q, Hid (q = n.kid k) := ⟨_, rfl⟩
          have HP : Hid q.Ok := by rw [hq.out]; exact getD_ok Hok.out.kidsB k
          have HC6 : Hid (Cells w5 b6 (o6 + k * 36) (pcells q)) := by rw [hq.out]; exact hcell6
          have i3 : (k : Int) < (n.kids.length : Int) := by omega
          rw [hA6] at q3
          clear hcell6 hA6
          go_wp2_with ((with_reducible refine wpList_loadPs ?zx ?zo ?zw b6 (o6 + k * 36) ?zv q HP.out.shaL HC6.out ?_); (case zo => rfl); (case zw => rfl); (case zv => rfl))
          refine (refRight_any q _ HP.out).mono ?_
          rintro e w7 ⟨rfl, hb7⟩
          have R7 := Lib.hid (R5.out.keep hb7)
          have B7 := Lib.hid (B5.out.trans (hb7.mono B5.out.size))
          clear hb7 R5 B5 q0 q3
          cases hr : q.right with
          | true =>
            have HBO : Hid (bodyOk n k = true) := by show _ = _; unfold bodyOk; rw [if_neg (by have := H0.out; omega), ← hq.out]; exact hr
            clear hr
            go_wp2_with fail
            go_roundw
            case rel => exact ⟨k + 1, by omega, by go_num, fun i hi => by
              rcases Nat.lt_or_eq_of_le (show i ≤ k by omega) with h | h
              · exact HAll.out i h
              · rw [h]; exact ⟨HKO.out, HBO.out⟩, R7.out, B7.out⟩
            case measure => simp [intOf]; omega
          | false =>
            have HBO : Hid (¬ Shape n) := fun f => by
              have := f.kidRight H0.out hlt
              rw [← hq.out, hr] at this
              cases this
            clear hr
            go_wp2_with fail
            go_ret
            exact Tells.no HBO.out B7.out
        · obtain ⟨j, HJ⟩ : ∃ j, Hid (k = j + 1) := ⟨k - 1, by show _ = _; omega⟩
          have d0 : decide (0 < k) = true := by simp; omega
          have d0' : decide ((0 : Int) < (k : Int)) = true := by simp; omega
          obtain ⟨b2, o2, v2, hA2, hlt2, hcell2, S2, d2, hv2, hsrc2, hd2, hd2'⟩ := (HAt.out.keys.keep HBr.out).at_ j (by have := HJ.out; omega)
          rw [hA1] at hA2
          injection hA2 with hA2
          injection hA2 with e1 e2 _
          subst e1 e2 hv2
          obtain ⟨z, HZ⟩ : ∃ z, Hid (z = n.keys.getD j []) := ⟨_, rfl⟩
          rw [← HZ.out] at hcell2 hsrc2
          have HZB : Hid (IsBytes z) := by rw [HZ.out]; exact getD_bytes Hok.out.keysB j
          have k2 : ∀ g : Above wr.drew, g.1.cell? ⟨b1, o1 + j, none⟩ = some (.slice S2 z.length d2) := fun g => ((Ext.trans (Ext.drew wr) g.2).cell (p := ⟨b1, o1 + j, none⟩) hlt2).trans hcell2
          have HL := Lib.hid (Lex.less_texts z y HZB.out HYB.out)
          have k3 : ∀ g : Above wr.drew, (convert 22 9 (.slice S1 y.length d1)).run Try.prog g.1 = .ok (.string (strOfNums y)) g.1 := fun g => run_text g.1 S1 _ d1 y rfl (hsrc1.keep (Ext.trans (Ext.drew wr) g.2))
          have k4 : ∀ g : Above wr.drew, (convert 22 9 (.slice S2 z.length d2)).run Try.prog g.1 = .ok (.string (strOfNums z)) g.1 := fun g => run_text g.1 S2 _ d2 z rfl (hsrc2.keep (Ext.trans (Ext.drew wr) g.2))
          generalize strOfNums y = Y at *
          generalize strOfNums z = Z at *
          have hkj : IntKind.i64.wrap ((k : Int) - 1) = (j : Int) := by rw [IntWalk.i64_in _ (by have := HJ.out; omega)]; have := HJ.out; omega
          have t2 : (k : Int) - 1 = (j : Int) := by have := HJ.out; omega
          have hjn : (j : Int) < (n.keys.length : Int) := by have := HJ.out; omega
          clear hk0 hA1 hsrc1 hsrc2 hcell2 hd2 hd2'
          cases hless : Lex.lexB z y with
          | true =>
            have HKO : Hid (keyOk n k = true) := by
              show _ = _
              unfold keyOk
              rw [← HY.out, HJ.out, last_next, ← HZ.out, hless]
              simpa using hks
            rw [hless] at HL
            have hL := HL.out
            clear hless
            go_wp2_with fail
            refine wp_region_segs [] [0, 1, 2, 3, 4, 5, 6, 7, 8, 9, 10, 11, 12, 13, 14, 15, 16, 17, 18, 19, 20, 21, 22, 23, 24, 25, 26] (by kernel_rfl) (by kernel_rfl) (by kernel_rfl) (by kernel_rfl) (fun _ _ d _ _ h => by cases d <;> exact h) ?_
            refine wpSegs_last (by simp [pickOps]; rfl) ?_
            repeat (go_big_quiet_step (fail))
            refine wpQuiet_nil ?_
            clear q1 k1 k2 k3 k4 hL
            have R5 : Hid (Row wr.drew w.heap.size 30 (ndC n A1 c1 A2 c2 A3 c3)) := HRr.out.drew
            have B5 : Hid (Below w.heap.size w wr.drew) := Below.drew HBr.out
            generalize wr.drew = w5 at *
            have q0 := row_level R5.out
            have q3 := row_kids R5.out
            have hkl : k < n.kids.length := by have := (Hst.out.above H0.out).1; omega
            obtain ⟨b6, o6, hA6, hlt6, hcell6⟩ := pt_at (HAt.out.kids.keep B5.out) k hkl
            obtain ⟨q, hq⟩ : ∃ q, Hid (q = n.kid k) := ⟨_, rfl⟩
            have HP : Hid q.Ok := by rw [hq.out]; exact getD_ok Hok.out.kidsB k
            have HC6 : Hid (Cells w5 b6 (o6 + k * 36) (pcells q)) := by rw [hq.out]; exact hcell6
            have i3 : (k : Int) < (n.kids.length : Int) := by omega
            rw [hA6] at q3
            clear hcell6 hA6
            go_wp2_with ((with_reducible refine wpList_loadPs ?zx ?zo ?zw b6 (o6 + k * 36) ?zv q HP.out.shaL HC6.out ?_); (case zo => rfl); (case zw => rfl); (case zv => rfl))
            refine (refRight_any q _ HP.out).mono ?_
            rintro e w7 ⟨rfl, hb7⟩
            have R7 := Lib.hid (R5.out.keep hb7)
            have B7 := Lib.hid (B5.out.trans (hb7.mono B5.out.size))
            clear hb7 R5 B5 q0 q3
            cases hr : q.right with
            | true =>
              have HBO : Hid (bodyOk n k = true) := by show _ = _; unfold bodyOk; rw [if_neg (by have := H0.out; omega), ← hq.out]; exact hr
              clear hr
              go_wp2_with fail
              go_roundw
              case rel => exact ⟨k + 1, by omega, by go_num, fun i hi => by
                rcases Nat.lt_or_eq_of_le (show i ≤ k by omega) with h | h
                · exact HAll.out i h
                · rw [h]; exact ⟨HKO.out, HBO.out⟩, R7.out, B7.out⟩
              case measure => simp [intOf]; omega
            | false =>
              have HBO : Hid (¬ Shape n) := fun f => by
                have := f.kidRight H0.out hlt
                rw [← hq.out, hr] at this
                cases this
              clear hr
              go_wp2_with fail
              go_ret
              exact Tells.no HBO.out B7.out
          | false =>
            have HNO : Hid (¬ Shape n) := fun f => by
              have := f.rises (i := j) (by have := HJ.out; omega)
              unfold Nd.key at this
              rw [← HJ.out, ← HY'.out, ← HZ.out, hless] at this
              cases this
            rw [hless] at HL
            have hL := HL.out
            clear hless
            go_wp2_with fail
            refine wp_region_segs [] [0, 1, 2, 3, 4, 5, 6, 7, 8, 9, 10, 11, 12, 13, 14, 15, 16, 17, 18, 19, 20, 21, 22, 23, 24, 25, 26] (by kernel_rfl) (by kernel_rfl) (by kernel_rfl) (by kernel_rfl) (fun _ _ d _ _ h => by cases d <;> exact h) ?_
            refine wpSegs_last (by simp [pickOps]; rfl) ?_
            repeat (go_big_quiet_step (fail))
            refine wpQuiet_nil ?_
            clear q1 k1 k2 k3 k4
            have B5 : Hid (Below w.heap.size w wr.drew) := Below.drew HBr.out
            go_wp2_with fail
            go_ret
            exact Tells.no HNO.out B5.out
      · have dk : decide (160 < y.length) = true := by simp; omega
        have dk' : decide ((160 : Int) < (y.length : Int)) = true := by simp; omega
        have HNO : Hid (¬ Shape n) := fun f => by
          have := f.keyLen hlt
          rw [← HY.out] at this
          omega
        clear hA1 hsrc1 hks
        go_wp2_with fail
        refine wp_region_segs [] [0, 1, 2, 3, 4, 5, 6, 7, 8, 9, 10, 11, 12, 13, 14, 15, 16, 17, 18, 19, 20, 21, 22, 23, 24, 25, 26] (by kernel_rfl) (by kernel_rfl) (by kernel_rfl) (by kernel_rfl) (fun _ _ d _ _ h => by cases d <;> exact h) ?_
        refine wpSegs_last (by simp [pickOps]; rfl) ?_
        repeat (go_big_quiet_step (fail))
        refine wpQuiet_nil ?_
        clear q1 k1
        have B5 : Hid (Below w.heap.size w wr.drew) := Below.drew HBr.out
        go_wp2_with fail
        go_ret
        exact Tells.no HNO.out B5.out
    · obtain rfl : k = n.keys.length := by omega
      go_wp2_with fail
      go_ret
      exact Tells.yes ⟨Hst.out, fun i hi => (HAll.out i hi).1, fun i hi => (HAll.out i hi).2⟩ HBr.out
theorem rshape_any {n : Nd} {A1 : Option Addr} {c1 : Nat} {ks : List Value} {A2 : Option Addr} {c2 : Nat} {vs : List Value} {A3 : Option Addr} {c3 : Nat} {w : World} (at_ : NdAt w n A1 c1 ks A2 c2 vs A3 c3) (ok : n.Ok) : Calls Try.prog 30 #[.agg (ndC n A1 c1 A2 c2 A3 c3)] w (Tells (Shape n) w) := by
  show RShapeAt n A1 c1 A2 c2 A3 c3 w
  by_cases h : n.level < 0 ∨ 12 < n.level ∨ n.keys.length = 0 ∨ 4096 < n.keys.length
  · exact rshape_no at_ ok h
  · by_cases h0 : n.level = 0
    · by_cases h1 : n.vals.length = n.keys.length ∧ n.kids.length = 0
      · exact rshape_leaf at_ ok ⟨by omega, by omega, by omega, by omega, fun _ => h1, fun hp => by omega⟩ h0
      · exact rshape_mis0 at_ ok (by omega) (by omega) h0 h1
    · by_cases h1 : n.kids.length = n.keys.length ∧ n.vals.length = 0
      · exact rshape_above at_ ok ⟨by omega, by omega, by omega, by omega, fun hp => absurd hp h0, fun _ => h1⟩ (by omega)
      · exact rshape_mis1 at_ ok (by omega) (by omega) (by omega) (by omega) h1
end Lf
end Go.Proofs.Ytnoofmdhhlcbkaa

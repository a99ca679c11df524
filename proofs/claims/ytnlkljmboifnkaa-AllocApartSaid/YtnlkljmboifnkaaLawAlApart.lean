/- AllocApart: its walk, for any numbers. No conditions but those that stand in each lemma. -/
import Derived.Test.YtnlkljmboifnkaaApWords
namespace Go.Proofs.Ytnlkljmboifnkaa
open Go.RowKit Go.Maps

theorem Try.intInfo : (Try.prog.info? 3).map (fun i => (i.zero, i.size, i.bytes)) = some (some (.int .i64 0), 1, 8) := by kernel_rfl
/-- At a round's head. -/
def ApAt (w0 : World) (p m G N n : Nat) (hv iv : Value) (wr : World) : Prop :=
  ∃ (i : Nat) (s : AlS) (st : List Int) (hl : List Sp) (A : Option Addr) (nh ch : Nat), i ≤ n ∧ i ≤ 60 ∧ iv = .int .i64 (i : Int) ∧ hv = .slice A nh ch ∧ ApW w0 wr p m G i s st hl A nh ch ∧ ApS N s st hl ∧ s.ep ≤ (i : Int) ∧ hl.length ≤ i
/-- .. of a loop that writes on the table. -/
def TabAt (w0 : World) (p m G k : Nat) (s : AlS) (f : Nat → List Int) (hl : List Sp) (A : Option Addr) (nh ch a g : Nat) (kv : Value) (wr : World) : Prop :=
  ∃ K j : Nat, K = a + j ∧ j ≤ g ∧ kv = .int .i64 (K : Int) ∧ ApW w0 wr p m G k s (f j) hl A nh ch
/-- .. of the loop that counts. -/
def SumAt (w0 : World) (p m G k N : Nat) (s : AlS) (st : List Int) (hl : List Sp) (A : Option Addr) (nh ch : Nat) (uv kv : Value) (wr : World) : Prop :=
  ∃ K j : Nat, K = 2 + j ∧ j ≤ N ∧ kv = .int .i64 (K : Int) ∧ uv = .int .i64 (cntOne st j) ∧ ApW w0 wr p m G k s st hl A nh ch

set_option maxRecDepth 100000 in
set_option maxHeartbeats 64000000 in
theorem apart_any (a : Int) (A1 : Option Addr) (n1 c1 : Nat) (z1 : List Int) (w : World) (hn1 : n1 = z1.length) (hz1 : NumSrc w A1 z1) (hc1 : n1 ≤ c1) (hm1 : c1 ≤ maxLen) :
    Calls Try.prog 4 #[.int .i64 a, .slice A1 n1 c1] w fun e w' => e = .returned (.bool true) ∧ Below w.heap.size w w' := by
  have hN := mask_and a 63 (by omega)
  rw [show ((63 : Nat) : Int) = 63 from rfl] at hN
  obtain ⟨N, hNe, hN8, hN71⟩ : ∃ N : Nat, 8 + bits .and .i64 a 63 = (N : Int) ∧ 8 ≤ N ∧ N ≤ 71 := ⟨(8 + bits .and .i64 a 63).toNat, by omega, by omega, by omega⟩
  have HN0 := Lib.hid (new_alloc w 2 (2 + (N : Int)) 0 (by omega) (by omega) (by omega) (by omega) (by omega))
  have HZ := Lib.hid hz1
  have HN := Lib.hid hn1
  unfold maxLen at hm1
  have hn9 : n1 ≤ 9223372036854775807 := by omega
  have HS0 := Lib.hid (ApS.new (N := N) (by omega))
  rw [show ((2 + N : Nat) : Int) = 2 + (N : Int) by omega] at HS0
  clear hz1 hn1 hc1 hm1 hN
  go_enter Try.func4, Try.ntmps4
  go_wp2_with fail
  refine HN0.out.mono ?_
  rintro e v1 ⟨p, m, rfl, hp, hm, hb1, hA1⟩
  have HA1 := Lib.hid hA1
  have HB1 := Lib.hid hb1
  have hsz1 := hb1.size
  have hav0 : Hid ((alNew 2 (2 + (N : Int)) 0).av = fun b => ∃ y : Addr, (none : Option Addr) = some y ∧ y.block = b) := Lib.hid (by funext b; exact propext ⟨fun h => h.elim, fun ⟨y, hy, _⟩ => by cases hy⟩)
  have hep0 : Hid ((alNew 2 (2 + (N : Int)) 0).ep ≤ 0) := Lib.hid (Int.le_refl 0)
  clear hA1 hb1 HN0
  generalize alNew 2 (2 + (N : Int)) 0 = s0 at *
  obtain ⟨i0, hi, hz, hzs, hzb⟩ := info_parts Try.intInfo
  have HI := Lib.hid hi
  have HIZ := Lib.hid hz
  have HIS := Lib.hid hzs
  have HIB := Lib.hid hzb
  clear hi hz hzs hzb
  go_wp2_with (at_make; refine wpList_make_full _ rfl _ _ 39 rfl v1.heap.size 3 i0 (.int .i64 0) 1 Try.underlying39 HI.out HIZ.out HIS.out .i64 .i64 _ _ (2 + N) rfl rfl (by omega) (by omega) (by rw [HIB.out]; omega) (by unfold maxLen; omega) (Nat.le_refl _) ?_; intro v2 hown2 hgrow2; have HR2 := Lib.hid (made_zeros hown2 rfl); have hb2 : Below v1.heap.size v1 v2 := ⟨hgrow2.os, hgrow2.tape, hgrow2.output, hgrow2.size, fun k hk => hgrow2.block k hk (by simp)⟩; have HB2 := Lib.hid hb2; clear hown2 hgrow2 hb2)
  have start : ApAt w p m v1.heap.size N n1 (.slice none 0 0) (.int .i64 0) v2 := ⟨0, s0, _, [], none, 0, 0, by omega, by omega, rfl, rfl, ⟨HA1.out.keep HB2.out, HR2.out, .nil _ _ _, hav0.out, HB1.out.trans (HB2.out.mono hsz1), hp, hm, hsz1⟩, HS0.out, hep0.out, by simp⟩
  clear HA1 HB1 HB2 HR2 HS0 HI HIZ HIS HIB hav0 hep0 hNe
  generalize v1.heap.size = G at *
  have hNN : ((2 + N : Nat) : Int) = 2 + (N : Int) := by omega
  go_loopw [8, 9, 10, 11, 12, 13, 14, 15, 16] (fun hv iv _ _ _ _ _ _ _ wr => ApAt w p m G N n1 hv iv wr) (fun _ iv _ _ _ _ _ _ _ _ => n1 - (intOf iv).toNat)
  case atStart => exact start
  case round =>
    clear start
    obtain ⟨i, s, st, hl, A, nh, ch, hin, hi60, rfl, rfl, hw, hap, hep, hll⟩ := hrel
    have HW := Lib.hid hw
    have HAP := Lib.hid hap
    clear hw hap
    by_cases hlt : i < n1
    · by_cases h60 : i < 60
      obtain ⟨b, o, rfl, hcell⟩ := HZ.out.at_ (i := i) (by have := HN.out; omega)
      have HC := Lib.hid hcell
      clear hcell
      generalize z1.getD i 0 = v at *
      have hq := mask_and v 7 (by omega)
      rw [show ((7 : Nat) : Int) = 7 from rfl] at hq
      obtain ⟨g, hge, hg1, hg8⟩ : ∃ g : Nat, 1 + bits .and .i64 v 7 = (g : Int) ∧ 1 ≤ g ∧ g ≤ 8 := ⟨(1 + bits .and .i64 v 7).toNat, by omega, by omega, by omega⟩
      obtain ⟨b8, h8⟩ : ∃ q, bits .and .i64 v 8 = q := ⟨_, rfl⟩
      obtain ⟨b48, h48⟩ : ∃ q, bits .and .i64 v 48 = q := ⟨_, rfl⟩
      have HT := Lib.hid (take_any HW.out.al (HAP.out.good.ok (by omega)) (g : Int) (by omega) (by omega) true)
      have c0 := HC.out _ HW.out.kept
      clear hq
      go_wp2_with fail
      refine HT.out.mono ?_
      rintro e w2 ⟨ho, ⟨hf, rfl, hA2⟩ | ⟨hf, rfl, hA2⟩⟩
      · have hff := fits_find hf
        obtain ⟨at_, hat⟩ : ∃ a : Nat, Spans.findL s.free (g : Int) = (a : Int) := ⟨(Spans.findL s.free (g : Int)).toNat, by omega⟩
        obtain ⟨_, hta, htb, htz, htk⟩ := HAP.out.take hff hat
        have HTZ := Lib.hid htz
        have HTK := Lib.hid htk
        have HST := Lib.hid HAP.out.len
        have HW2 := Lib.hid (HW.out.call ho hA2 rfl)
        have hep2 : (alTaken s (g : Int)).ep ≤ (i : Int) := hep
        clear htz htk ho hA2 hf hff HT HW HAP c0
        rw [hat]
        clear hat
        generalize alTaken s (g : Int) = s2 at *
        have start2 : TabAt w p m G i s2 (setTo st at_ 1) hl A nh ch at_ g (.int .i64 (at_ : Int)) w2 := ⟨at_, 0, rfl, by omega, rfl, HW2.out⟩
        clear HW2
        go_wp2_with fail
        go_loopw [13] (fun kv wr => TabAt w p m G i s2 (setTo st at_ 1) hl A nh ch at_ g kv wr) (fun kv _ => at_ + g - (intOf kv).toNat)
        case atStart => exact start2
        case round =>
          clear start2
          obtain ⟨K, j, hK, hj, rfl, hw⟩ := hrel
          have HK := Lib.hid hK
          have hK1 : K ≤ at_ + j := by omega
          have hK2 : at_ + j ≤ K := by omega
          clear hK
          by_cases hjg : j < g
          · have hget := setTo_get st at_ 1 K j (by rw [HST.out]; omega)
            rw [if_neg (by omega), HTZ.out K (by omega) (by omega)] at hget
            have hcell := hw.cell K (by rw [setTo_len, HST.out]; omega)
            rw [hget] at hcell
            have hfr := hw.free K
            have HW3 := Lib.hid (hw.setTab K 1)
            have hk2 : ¬ (K : Int) < 2 := by omega
            have dk2 : decide ((K : Int) < 2) = false := by simp; omega
            have hkN : ¬ 2 + (N : Int) ≤ (K : Int) := by omega
            have dkN : decide (2 + (N : Int) ≤ (K : Int)) = false := by simp; omega
            have hkt : (K : Int) < (at_ : Int) + (g : Int) := by omega
            have hki : K < 2 + N := by omega
            have HNX := Lib.hid (show setTo st at_ 1 (j + 1) = (setTo st at_ 1 j).set K 1 by rw [HK.out]; rfl)
            clear hw hget
            go_wp2_with fail
            go_roundw
            case rel => exact ⟨K + 1, j + 1, by omega, by omega, by go_num, by rw [HNX.out]; exact HW3.out⟩
            case measure => simp [intOf]; omega
          · have hjg' : j = g := by omega
            have hkt : ¬ (K : Int) < (at_ : Int) + (g : Int) := by omega
            have hba : Below wr.heap.size wr (wr.alloc (.cells #[.int .i64 (at_ : Int), .int .i64 ((at_ : Int) + (g : Int))] 23)) := (Below.refl _ _).alloc (Nat.le_refl _) _
            have HWa := Lib.hid (hw.grow hba)
            have hsza := HWa.out.kept.size
            have hnh : nh ≤ 60 := by have := hw.q.1; omega
            clear hw hba
            go_wp2_with (at_builtin; refine wpList_append_q Try.spans rfl _ _ rfl w.heap.size A nh ch hl rfl HWa.out.q _ _ ((at_ : Int), (at_ : Int) + (g : Int)) rfl (spsrc_one _ _ rfl (at_ : Int) ((at_ : Int) + (g : Int)) _) (by omega) hsza ?_; intro A2 nh2 ch2 wc hq4 hg4; refine heldG ?_)
            obtain ⟨V, hw4⟩ := HWa.out.append hq4 hg4
            have HW := Lib.hid hw4
            have HAP := Lib.hid (HTK.out.av V)
            have hep2 : ({ s2 with av := V } : AlS).ep ≤ (i : Int) := hep2
            have hll2 : (hl ++ [((at_ : Int), (at_ : Int) + (g : Int))]).length ≤ i + 1 := by rw [List.length_append]; simp; omega
            rw [show setTo st at_ 1 g = setTo st at_ 1 j by rw [hjg']] at HAP
            clear hjg' hq4 hg4 HWa hw4 HTZ HTK HST hsza
            generalize ({ s2 with av := V } : AlS) = s2 at *
            generalize hl ++ [((at_ : Int), (at_ : Int) + (g : Int))] = hl2 at *
            generalize setTo st at_ 1 j = st2 at *
            unfold HeldG
            have c0 := HC.out _ HW.out.kept
            cases hl2 with
            | nil =>
              obtain rfl : nh2 = 0 := HW.out.q.1
              replace HW := Lib.hid (HW.out.more (Nat.le_succ i))
              by_cases hb48 : b48 = 48
              · have hd48 : True := trivial
                have hb48' : b48 = 48 := hb48
                subst hb48'
                have HCM : Hid (Calls Try.prog 8 #[.pointer (some ⟨p, 0, none⟩)] wc fun e w' => e = .returned (.tuple #[]) ∧ AlOth p m wc w' ∧ Al w' p m (i + 1) (alCommitted s2)) := by
                  obtain ⟨F, S, o, h⟩ := HW.out.al
                  exact Lib.hid (commit_any h (HAP.out.good.ok (by omega)))
                go_wp2_with fail
                refine HCM.out.mono ?_
                rintro e w71 ⟨rfl, ho, hA⟩
                replace HW := Lib.hid (HW.out.call ho hA rfl)
                have hst := Lib.hid HAP.out.len
                replace HAP := Lib.hid HAP.out.commit
                have hep : (alCommitted s2).ep ≤ (i : Int) + 1 := by show s2.ep + 1 ≤ _; omega
                clear ho hA HCM c0
                generalize alCommitted s2 = s8 at *
                have start4 : TabAt w p m G (i + 1) s8 (clearTo st2) [] A2 0 ch2 2 N (.int .i64 2) w71 := ⟨2, 0, rfl, by omega, rfl, HW.out⟩
                clear HW
                go_wp2_with fail
                go_loopw [16] (fun kv wr => TabAt w p m G (i + 1) s8 (clearTo st2) [] A2 0 ch2 2 N kv wr) (fun kv _ => 2 + N - (intOf kv).toNat)
                case atStart => exact start4
                case round =>
                  clear start4
                  obtain ⟨K, j, hK, hj, rfl, hw⟩ := hrel
                  have HK := Lib.hid hK
                  have hK1 : K ≤ 2 + j := by omega
                  have hK2 : 2 + j ≤ K := by omega
                  clear hK
                  by_cases hjN : j < N
                  · have hcell := hw.cell K (by rw [clearTo_len, hst.out]; omega)
                    have hfr := hw.free K
                    have HW0 := Lib.hid hw
                    have HW3 := Lib.hid (hw.setTab K 0)
                    have hkl : (K : Int) < 2 + (N : Int) := by omega
                    have hki : K < 2 + N := by omega
                    by_cases hv2 : (clearTo st2 j).getD K 0 = 2
                    · have HNX := Lib.hid (show clearTo st2 (j + 1) = (clearTo st2 j).set K 0 by rw [HK.out] at hv2 ⊢; rw [clearTo, if_pos hv2])
                      rw [hv2] at hcell
                      clear hw HW0
                      go_wp2_with fail
                      go_roundw
                      case rel => exact ⟨K + 1, j + 1, by omega, by omega, by go_num, by rw [HNX.out]; exact HW3.out⟩
                      case measure => simp [intOf]; omega
                    · have HNX := Lib.hid (show clearTo st2 (j + 1) = clearTo st2 j by rw [HK.out] at hv2; rw [clearTo, if_neg hv2])
                      generalize (clearTo st2 j).getD K 0 = x at *
                      have hx : (x == 2) = false := by simpa using hv2
                      clear hw HW3
                      go_wp2_with fail
                      go_roundw
                      case rel => exact ⟨K + 1, j + 1, by omega, by omega, by go_num, by rw [HNX.out]; exact HW0.out⟩
                      case measure => simp [intOf]; omega
                  · have hjN' : j = N := by omega
                    have hkl : ¬ (K : Int) < 2 + (N : Int) := by omega
                    have HW := Lib.hid hw
                    rw [show clearTo st2 N = clearTo st2 j by rw [hjN']] at HAP
                    clear hw hjN'
                    have HOKT := Lib.hid (HAP.out.good.ok (by omega))
                    have HLO := Lib.hid HAP.out.lo
                    have HHI := Lib.hid HAP.out.hi
                    obtain ⟨HFT, HWT, HUT⟩ := all_sums HW.out.al HOKT.out HLO.out HHI.out
                    replace HFT := Lib.hid HFT
                    replace HWT := Lib.hid HWT
                    replace HUT := Lib.hid HUT
                    have hbt := Spans.total_bounds (l := s8.free)
                    have hbw := Spans.total_bounds (l := s8.waits)
                    generalize Spans.totalL s8.free = T at *
                    generalize Spans.totalL s8.waits = W at *
                    obtain ⟨hbt0, hbt1⟩ := hbt
                    obtain ⟨hbw0, hbw1⟩ := hbw
                    obtain ⟨U, hU⟩ : ∃ U, ((2 + N : Nat) : Int) - 2 - T - W = U := ⟨_, rfl⟩
                    rw [hU] at HUT
                    have hU1 : T + W + U = (N : Int) := by omega
                    clear hU
                    go_wp2_with fail
                    refine (HFT.out _ _ _ _ HW.out.al).mono ?_
                    rintro e w91 ⟨rfl, hb⟩
                    replace HW := Lib.hid (HW.out.grow hb)
                    clear hb
                    go_wp2_with fail
                    refine (HWT.out _ _ _ _ HW.out.al).mono ?_
                    rintro e w92 ⟨rfl, hb⟩
                    replace HW := Lib.hid (HW.out.grow hb)
                    clear hb
                    go_wp2_with fail
                    refine (HUT.out _ _ _ _ HW.out.al).mono ?_
                    rintro e w93 ⟨rfl, hb⟩
                    replace HW := Lib.hid (HW.out.grow hb)
                    clear hb HFT HWT HUT
                    go_wp2_with fail
                    go_roundw
                    case rel => exact ⟨i + 1, s8, (clearTo st2 j), [], A2, 0, ch2, by omega, by omega, by go_num, rfl, HW.out, HAP.out, by omega, by omega⟩
                    case measure => simp [intOf]; omega
              · have hd48 : (b48 == 48) = false := by simpa using hb48
                have HOKT := Lib.hid (HAP.out.good.ok (by omega))
                have HLO := Lib.hid HAP.out.lo
                have HHI := Lib.hid HAP.out.hi
                obtain ⟨HFT, HWT, HUT⟩ := all_sums HW.out.al HOKT.out HLO.out HHI.out
                replace HFT := Lib.hid HFT
                replace HWT := Lib.hid HWT
                replace HUT := Lib.hid HUT
                have hbt := Spans.total_bounds (l := s2.free)
                have hbw := Spans.total_bounds (l := s2.waits)
                generalize Spans.totalL s2.free = T at *
                generalize Spans.totalL s2.waits = W at *
                obtain ⟨hbt0, hbt1⟩ := hbt
                obtain ⟨hbw0, hbw1⟩ := hbw
                obtain ⟨U, hU⟩ : ∃ U, ((2 + N : Nat) : Int) - 2 - T - W = U := ⟨_, rfl⟩
                rw [hU] at HUT
                have hU1 : T + W + U = (N : Int) := by omega
                clear hU
                go_wp2_with fail
                refine (HFT.out _ _ _ _ HW.out.al).mono ?_
                rintro e w91 ⟨rfl, hb⟩
                replace HW := Lib.hid (HW.out.grow hb)
                clear hb
                go_wp2_with fail
                refine (HWT.out _ _ _ _ HW.out.al).mono ?_
                rintro e w92 ⟨rfl, hb⟩
                replace HW := Lib.hid (HW.out.grow hb)
                clear hb
                go_wp2_with fail
                refine (HUT.out _ _ _ _ HW.out.al).mono ?_
                rintro e w93 ⟨rfl, hb⟩
                replace HW := Lib.hid (HW.out.grow hb)
                clear hb HFT HWT HUT
                go_wp2_with fail
                go_roundw
                case rel => exact ⟨i + 1, s2, st2, [], A2, 0, ch2, by omega, by omega, by go_num, rfl, HW.out, HAP.out, by omega, by omega⟩
                case measure => simp [intOf]; omega
            | cons t r =>
              obtain ⟨t1, t2⟩ := t
              have hnp : (0 : Int) < (nh2 : Int) := by have := HW.out.q.1; rw [List.length_cons] at this; omega
              have hnp2 : 0 < nh2 := by omega
              have dnp : decide ((0 : Int) < (nh2 : Int)) = true := by simp; omega
              by_cases hb8 : b8 = 0
              · have hb8' : b8 = 0 := hb8
                subst hb8'
                replace HW := Lib.hid (HW.out.more (Nat.le_succ i))
                by_cases hb48 : b48 = 48
                · have hd48 : True := trivial
                  have hb48' : b48 = 48 := hb48
                  subst hb48'
                  have HCM : Hid (Calls Try.prog 8 #[.pointer (some ⟨p, 0, none⟩)] wc fun e w' => e = .returned (.tuple #[]) ∧ AlOth p m wc w' ∧ Al w' p m (i + 1) (alCommitted s2)) := by
                    obtain ⟨F, S, o, h⟩ := HW.out.al
                    exact Lib.hid (commit_any h (HAP.out.good.ok (by omega)))
                  go_wp2_with fail
                  refine HCM.out.mono ?_
                  rintro e w71 ⟨rfl, ho, hA⟩
                  replace HW := Lib.hid (HW.out.call ho hA rfl)
                  have hst := Lib.hid HAP.out.len
                  replace HAP := Lib.hid HAP.out.commit
                  have hep : (alCommitted s2).ep ≤ (i : Int) + 1 := by show s2.ep + 1 ≤ _; omega
                  clear ho hA HCM c0
                  generalize alCommitted s2 = s8 at *
                  have start4 : TabAt w p m G (i + 1) s8 (clearTo st2) ((t1, t2) :: r) A2 nh2 ch2 2 N (.int .i64 2) w71 := ⟨2, 0, rfl, by omega, rfl, HW.out⟩
                  clear HW
                  go_wp2_with fail
                  go_loopw [16] (fun kv wr => TabAt w p m G (i + 1) s8 (clearTo st2) ((t1, t2) :: r) A2 nh2 ch2 2 N kv wr) (fun kv _ => 2 + N - (intOf kv).toNat)
                  case atStart => exact start4
                  case round =>
                    clear start4
                    obtain ⟨K, j, hK, hj, rfl, hw⟩ := hrel
                    have HK := Lib.hid hK
                    have hK1 : K ≤ 2 + j := by omega
                    have hK2 : 2 + j ≤ K := by omega
                    clear hK
                    by_cases hjN : j < N
                    · have hcell := hw.cell K (by rw [clearTo_len, hst.out]; omega)
                      have hfr := hw.free K
                      have HW0 := Lib.hid hw
                      have HW3 := Lib.hid (hw.setTab K 0)
                      have hkl : (K : Int) < 2 + (N : Int) := by omega
                      have hki : K < 2 + N := by omega
                      by_cases hv2 : (clearTo st2 j).getD K 0 = 2
                      · have HNX := Lib.hid (show clearTo st2 (j + 1) = (clearTo st2 j).set K 0 by rw [HK.out] at hv2 ⊢; rw [clearTo, if_pos hv2])
                        rw [hv2] at hcell
                        clear hw HW0
                        go_wp2_with fail
                        go_roundw
                        case rel => exact ⟨K + 1, j + 1, by omega, by omega, by go_num, by rw [HNX.out]; exact HW3.out⟩
                        case measure => simp [intOf]; omega
                      · have HNX := Lib.hid (show clearTo st2 (j + 1) = clearTo st2 j by rw [HK.out] at hv2; rw [clearTo, if_neg hv2])
                        generalize (clearTo st2 j).getD K 0 = x at *
                        have hx : (x == 2) = false := by simpa using hv2
                        clear hw HW3
                        go_wp2_with fail
                        go_roundw
                        case rel => exact ⟨K + 1, j + 1, by omega, by omega, by go_num, by rw [HNX.out]; exact HW0.out⟩
                        case measure => simp [intOf]; omega
                    · have hjN' : j = N := by omega
                      have hkl : ¬ (K : Int) < 2 + (N : Int) := by omega
                      have HW := Lib.hid hw
                      rw [show clearTo st2 N = clearTo st2 j by rw [hjN']] at HAP
                      clear hw hjN'
                      have HOKT := Lib.hid (HAP.out.good.ok (by omega))
                      have HLO := Lib.hid HAP.out.lo
                      have HHI := Lib.hid HAP.out.hi
                      obtain ⟨HFT, HWT, HUT⟩ := all_sums HW.out.al HOKT.out HLO.out HHI.out
                      replace HFT := Lib.hid HFT
                      replace HWT := Lib.hid HWT
                      replace HUT := Lib.hid HUT
                      have hbt := Spans.total_bounds (l := s8.free)
                      have hbw := Spans.total_bounds (l := s8.waits)
                      generalize Spans.totalL s8.free = T at *
                      generalize Spans.totalL s8.waits = W at *
                      obtain ⟨hbt0, hbt1⟩ := hbt
                      obtain ⟨hbw0, hbw1⟩ := hbw
                      obtain ⟨U, hU⟩ : ∃ U, ((2 + N : Nat) : Int) - 2 - T - W = U := ⟨_, rfl⟩
                      rw [hU] at HUT
                      have hU1 : T + W + U = (N : Int) := by omega
                      clear hU
                      go_wp2_with fail
                      refine (HFT.out _ _ _ _ HW.out.al).mono ?_
                      rintro e w91 ⟨rfl, hb⟩
                      replace HW := Lib.hid (HW.out.grow hb)
                      clear hb
                      go_wp2_with fail
                      refine (HWT.out _ _ _ _ HW.out.al).mono ?_
                      rintro e w92 ⟨rfl, hb⟩
                      replace HW := Lib.hid (HW.out.grow hb)
                      clear hb
                      go_wp2_with fail
                      refine (HUT.out _ _ _ _ HW.out.al).mono ?_
                      rintro e w93 ⟨rfl, hb⟩
                      replace HW := Lib.hid (HW.out.grow hb)
                      clear hb HFT HWT HUT
                      go_wp2_with fail
                      go_roundw
                      case rel => exact ⟨i + 1, s8, (clearTo st2 j), ((t1, t2) :: r), A2, nh2, ch2, by omega, by omega, by go_num, rfl, HW.out, HAP.out, by omega, by omega⟩
                      case measure => simp [intOf]; omega
                · have hd48 : (b48 == 48) = false := by simpa using hb48
                  have HOKT := Lib.hid (HAP.out.good.ok (by omega))
                  have HLO := Lib.hid HAP.out.lo
                  have HHI := Lib.hid HAP.out.hi
                  obtain ⟨HFT, HWT, HUT⟩ := all_sums HW.out.al HOKT.out HLO.out HHI.out
                  replace HFT := Lib.hid HFT
                  replace HWT := Lib.hid HWT
                  replace HUT := Lib.hid HUT
                  have hbt := Spans.total_bounds (l := s2.free)
                  have hbw := Spans.total_bounds (l := s2.waits)
                  generalize Spans.totalL s2.free = T at *
                  generalize Spans.totalL s2.waits = W at *
                  obtain ⟨hbt0, hbt1⟩ := hbt
                  obtain ⟨hbw0, hbw1⟩ := hbw
                  obtain ⟨U, hU⟩ : ∃ U, ((2 + N : Nat) : Int) - 2 - T - W = U := ⟨_, rfl⟩
                  rw [hU] at HUT
                  have hU1 : T + W + U = (N : Int) := by omega
                  clear hU
                  go_wp2_with fail
                  refine (HFT.out _ _ _ _ HW.out.al).mono ?_
                  rintro e w91 ⟨rfl, hb⟩
                  replace HW := Lib.hid (HW.out.grow hb)
                  clear hb
                  go_wp2_with fail
                  refine (HWT.out _ _ _ _ HW.out.al).mono ?_
                  rintro e w92 ⟨rfl, hb⟩
                  replace HW := Lib.hid (HW.out.grow hb)
                  clear hb
                  go_wp2_with fail
                  refine (HUT.out _ _ _ _ HW.out.al).mono ?_
                  rintro e w93 ⟨rfl, hb⟩
                  replace HW := Lib.hid (HW.out.grow hb)
                  clear hb HFT HWT HUT
                  go_wp2_with fail
                  go_roundw
                  case rel => exact ⟨i + 1, s2, st2, ((t1, t2) :: r), A2, nh2, ch2, by omega, by omega, by go_num, rfl, HW.out, HAP.out, by omega, by omega⟩
                  case measure => simp [intOf]; omega
              · have hd8 : (b8 != 0) = true := by simpa using hb8
                obtain ⟨gq, oq, hA, hgl, hc0, hc1⟩ := HW.out.q.head
                subst hA
                obtain ⟨ht0, ht1, ht2, _⟩ := HAP.out.held (t1, t2) (by simp)
                obtain ⟨a2, ha2⟩ : ∃ a2 : Nat, t1 = (a2 : Int) := ⟨t1.toNat, by simp only at ht0; omega⟩
                obtain ⟨g2, hg2⟩ : ∃ g2 : Nat, t2 = (a2 : Int) + (g2 : Int) := ⟨(t2 - a2).toNat, by simp only at ht1; omega⟩
                obtain ⟨hE, hla, hlb, hap3⟩ := HAP.out.later (t := (t1, t2)) (r := r) ha2 hg2
                have HAP3 := Lib.hid hap3
                have HA2 := Lib.hid ha2
                have ha2a : t1 ≤ (a2 : Int) := by omega
                have ha2b : (a2 : Int) ≤ t1 := by omega
                have hg2a : t2 ≤ (a2 : Int) + (g2 : Int) := by omega
                have hg2b : (a2 : Int) + (g2 : Int) ≤ t2 := by omega
                have HE := Lib.hid hE
                have HST := Lib.hid HAP.out.len
                have HOKL := Lib.hid (HAP.out.good.ok (by omega))
                simp only at hc0 hc1
                clear hE hap3 ht0 ht1 ht2 HAP ha2 hg2
                have hba : Below wc.heap.size wc (wc.alloc (.cells #[.int .i64 t1, .int .i64 t2] 23)) := (Below.refl _ _).alloc (Nat.le_refl _) _
                have HWG := Lib.hid (HW.out.grow hba)
                have HRS := Lib.hid (Row.new wc 23 #[.int .i64 t1, .int .i64 t2])
                have HPM : Hid (p < wc.heap.size ∧ m < wc.heap.size ∧ G < wc.heap.size) := by
                  obtain ⟨F, S, o, h⟩ := HW.out.al
                  exact Lib.hid ⟨h.ltP, h.ltM, HW.out.tab.lt⟩
                clear hba HW
                go_wp2_with (refine wpList_slice_q Try.spans rfl (.tmp 111) rfl w.heap.size (some ⟨gq, oq, none⟩) nh2 ch2 rfl (t1, t2) r HWG.out.q ?_; intro A3 n3 c3 hq3 hb3; refine heldG ?_)
                have HW3 := Lib.hid (HWG.out.tail hq3 hb3)
                have HLT := Lib.hid (later_al HW3.out.al HOKL.out (by omega) t1 t2)
                have e0 := HRS.out.cell (j := 0) (v := .int .i64 t1) rfl
                have e1 := HRS.out.cell (j := 1) (v := .int .i64 t2) rfl
                clear hq3 hb3 HWG hc0 hc1 c0 hgl
                unfold HeldG
                go_wp2_with fail
                refine HLT.out.mono ?_
                rintro e w61 ⟨rfl, ho, hA⟩
                rw [HE.out]
                have hsame := latered_same s2 (t1, t2)
                replace HW3 := Lib.hid (HW3.out.call ho hA hsame.2.2.2.2)
                have HRS4 : Hid (Row w61 wc.heap.size 23 #[.int .i64 t1, .int .i64 t2]) := Lib.hid ((ho.block wc.heap.size HRS.out.lt (by have := HPM.out; omega) (by have := HPM.out; omega)).trans HRS.out)
                have hep3 : (alLatered s2 (t1, t2)).ep ≤ (i : Int) := by rw [hsame.2.2.2.1]; exact hep2
                have hGne : wc.heap.size ≠ G := by have := HPM.out; omega
                clear ho hA HLT HRS e0 e1 HE hsame HPM HOKL
                generalize alLatered s2 (t1, t2) = s3 at *
                generalize wc.heap.size = gs at *
                have f0 := HRS4.out.cell (j := 0) (v := .int .i64 t1) rfl
                have f1 := HRS4.out.cell (j := 1) (v := .int .i64 t2) rfl
                have start3 : TabAt w p m G (i + 1) s3 (setTo st2 a2 2) r A3 n3 c3 a2 g2 (.int .i64 t1) w61 ∧ Row w61 gs 23 #[.int .i64 t1, .int .i64 t2] := ⟨⟨a2, 0, rfl, by omega, by rw [HA2.out], HW3.out⟩, HRS4.out⟩
                clear HW3 HRS4
                go_wp2_with fail
                go_loopw [15] (fun kv wr => TabAt w p m G (i + 1) s3 (setTo st2 a2 2) r A3 n3 c3 a2 g2 kv wr ∧ Row wr gs 23 #[.int .i64 t1, .int .i64 t2]) (fun kv _ => a2 + g2 - (intOf kv).toNat)
                case atStart => exact start3
                case round =>
                  clear start3 f0 f1
                  obtain ⟨⟨K, j, hK, hj, rfl, hw⟩, hrs⟩ := hrel
                  have HK := Lib.hid hK
                  have hK1 : K ≤ a2 + j := by omega
                  have hK2 : a2 + j ≤ K := by omega
                  clear hK
                  have HWr := Lib.hid hw
                  have HRr := Lib.hid hrs
                  have e1 := hrs.cell (j := 1) (v := .int .i64 t2) rfl
                  by_cases hjg : j < g2
                  · have hcell := hw.cell K (by rw [setTo_len, HST.out]; omega)
                    have hfr := hw.free K
                    have HW3 := Lib.hid (hw.setTab K 2)
                    have HR3 := Lib.hid (hrs.other hGne K (.int .i64 2))
                    have hkt : (K : Int) < t2 := by omega
                    have hki : K < 2 + N := by omega
                    have HNX := Lib.hid (show setTo st2 a2 2 (j + 1) = (setTo st2 a2 2 j).set K 2 by rw [HK.out]; rfl)
                    clear hw hrs HWr HRr
                    generalize (setTo st2 a2 2 j).getD K 0 = x at *
                    go_wp2_with fail
                    go_roundw
                    case rel => exact ⟨⟨K + 1, j + 1, by omega, by omega, by go_num, by rw [HNX.out]; exact HW3.out⟩, HR3.out⟩
                    case measure => simp [intOf]; omega
                  · have hjg' : j = g2 := by omega
                    have hkt : ¬ (K : Int) < t2 := by omega
                    have hkt2 : t2 ≤ (K : Int) := by omega
                    have HW := HWr
                    have HAP := HAP3
                    rw [show setTo st2 a2 2 g2 = setTo st2 a2 2 j by rw [hjg']] at HAP
                    clear hjg'
                    have c0 := HC.out _ HW.out.kept
                    have hll3 : r.length ≤ i + 1 := by rw [List.length_cons] at hll2; omega
                    clear hw hrs HRr HAP3 HWr
                    generalize setTo st2 a2 2 j = st3 at *
                    by_cases hb48 : b48 = 48
                    · have hd48 : True := trivial
                      have hb48' : b48 = 48 := hb48
                      subst hb48'
                      have HCM : Hid (Calls Try.prog 8 #[.pointer (some ⟨p, 0, none⟩)] wr fun e w' => e = .returned (.tuple #[]) ∧ AlOth p m wr w' ∧ Al w' p m (i + 1) (alCommitted s3)) := by
                        obtain ⟨F, S, o, h⟩ := HW.out.al
                        exact Lib.hid (commit_any h (HAP.out.good.ok (by omega)))
                      go_wp2_with fail
                      refine HCM.out.mono ?_
                      rintro e w71 ⟨rfl, ho, hA⟩
                      replace HW := Lib.hid (HW.out.call ho hA rfl)
                      have hst := Lib.hid HAP.out.len
                      replace HAP := Lib.hid HAP.out.commit
                      have hep : (alCommitted s3).ep ≤ (i : Int) + 1 := by show s3.ep + 1 ≤ _; omega
                      clear ho hA HCM c0
                      generalize alCommitted s3 = s8 at *
                      have start4 : TabAt w p m G (i + 1) s8 (clearTo st3) r A3 n3 c3 2 N (.int .i64 2) w71 := ⟨2, 0, rfl, by omega, rfl, HW.out⟩
                      clear HW
                      go_wp2_with fail
                      go_loopw [16] (fun kv wr => TabAt w p m G (i + 1) s8 (clearTo st3) r A3 n3 c3 2 N kv wr) (fun kv _ => 2 + N - (intOf kv).toNat)
                      case atStart => exact start4
                      case round =>
                        clear start4
                        obtain ⟨K, j, hK, hj, rfl, hw⟩ := hrel
                        have HK := Lib.hid hK
                        have hK1 : K ≤ 2 + j := by omega
                        have hK2 : 2 + j ≤ K := by omega
                        clear hK
                        by_cases hjN : j < N
                        · have hcell := hw.cell K (by rw [clearTo_len, hst.out]; omega)
                          have hfr := hw.free K
                          have HW0 := Lib.hid hw
                          have HW3 := Lib.hid (hw.setTab K 0)
                          have hkl : (K : Int) < 2 + (N : Int) := by omega
                          have hki : K < 2 + N := by omega
                          by_cases hv2 : (clearTo st3 j).getD K 0 = 2
                          · have HNX := Lib.hid (show clearTo st3 (j + 1) = (clearTo st3 j).set K 0 by rw [HK.out] at hv2 ⊢; rw [clearTo, if_pos hv2])
                            rw [hv2] at hcell
                            clear hw HW0
                            go_wp2_with fail
                            go_roundw
                            case rel => exact ⟨K + 1, j + 1, by omega, by omega, by go_num, by rw [HNX.out]; exact HW3.out⟩
                            case measure => simp [intOf]; omega
                          · have HNX := Lib.hid (show clearTo st3 (j + 1) = clearTo st3 j by rw [HK.out] at hv2; rw [clearTo, if_neg hv2])
                            generalize (clearTo st3 j).getD K 0 = x at *
                            have hx : (x == 2) = false := by simpa using hv2
                            clear hw HW3
                            go_wp2_with fail
                            go_roundw
                            case rel => exact ⟨K + 1, j + 1, by omega, by omega, by go_num, by rw [HNX.out]; exact HW0.out⟩
                            case measure => simp [intOf]; omega
                        · have hjN' : j = N := by omega
                          have hkl : ¬ (K : Int) < 2 + (N : Int) := by omega
                          have HW := Lib.hid hw
                          rw [show clearTo st3 N = clearTo st3 j by rw [hjN']] at HAP
                          clear hw hjN'
                          have HOKT := Lib.hid (HAP.out.good.ok (by omega))
                          have HLO := Lib.hid HAP.out.lo
                          have HHI := Lib.hid HAP.out.hi
                          obtain ⟨HFT, HWT, HUT⟩ := all_sums HW.out.al HOKT.out HLO.out HHI.out
                          replace HFT := Lib.hid HFT
                          replace HWT := Lib.hid HWT
                          replace HUT := Lib.hid HUT
                          have hbt := Spans.total_bounds (l := s8.free)
                          have hbw := Spans.total_bounds (l := s8.waits)
                          generalize Spans.totalL s8.free = T at *
                          generalize Spans.totalL s8.waits = W at *
                          obtain ⟨hbt0, hbt1⟩ := hbt
                          obtain ⟨hbw0, hbw1⟩ := hbw
                          obtain ⟨U, hU⟩ : ∃ U, ((2 + N : Nat) : Int) - 2 - T - W = U := ⟨_, rfl⟩
                          rw [hU] at HUT
                          have hU1 : T + W + U = (N : Int) := by omega
                          clear hU
                          go_wp2_with fail
                          refine (HFT.out _ _ _ _ HW.out.al).mono ?_
                          rintro e w91 ⟨rfl, hb⟩
                          replace HW := Lib.hid (HW.out.grow hb)
                          clear hb
                          go_wp2_with fail
                          refine (HWT.out _ _ _ _ HW.out.al).mono ?_
                          rintro e w92 ⟨rfl, hb⟩
                          replace HW := Lib.hid (HW.out.grow hb)
                          clear hb
                          go_wp2_with fail
                          refine (HUT.out _ _ _ _ HW.out.al).mono ?_
                          rintro e w93 ⟨rfl, hb⟩
                          replace HW := Lib.hid (HW.out.grow hb)
                          clear hb HFT HWT HUT
                          go_wp2_with fail
                          go_roundw
                          case rel => exact ⟨i + 1, s8, (clearTo st3 j), r, A3, n3, c3, by omega, by omega, by go_num, rfl, HW.out, HAP.out, by omega, by omega⟩
                          case measure => simp [intOf]; omega
                    · have hd48 : (b48 == 48) = false := by simpa using hb48
                      have HOKT := Lib.hid (HAP.out.good.ok (by omega))
                      have HLO := Lib.hid HAP.out.lo
                      have HHI := Lib.hid HAP.out.hi
                      obtain ⟨HFT, HWT, HUT⟩ := all_sums HW.out.al HOKT.out HLO.out HHI.out
                      replace HFT := Lib.hid HFT
                      replace HWT := Lib.hid HWT
                      replace HUT := Lib.hid HUT
                      have hbt := Spans.total_bounds (l := s3.free)
                      have hbw := Spans.total_bounds (l := s3.waits)
                      generalize Spans.totalL s3.free = T at *
                      generalize Spans.totalL s3.waits = W at *
                      obtain ⟨hbt0, hbt1⟩ := hbt
                      obtain ⟨hbw0, hbw1⟩ := hbw
                      obtain ⟨U, hU⟩ : ∃ U, ((2 + N : Nat) : Int) - 2 - T - W = U := ⟨_, rfl⟩
                      rw [hU] at HUT
                      have hU1 : T + W + U = (N : Int) := by omega
                      clear hU
                      go_wp2_with fail
                      refine (HFT.out _ _ _ _ HW.out.al).mono ?_
                      rintro e w91 ⟨rfl, hb⟩
                      replace HW := Lib.hid (HW.out.grow hb)
                      clear hb
                      go_wp2_with fail
                      refine (HWT.out _ _ _ _ HW.out.al).mono ?_
                      rintro e w92 ⟨rfl, hb⟩
                      replace HW := Lib.hid (HW.out.grow hb)
                      clear hb
                      go_wp2_with fail
                      refine (HUT.out _ _ _ _ HW.out.al).mono ?_
                      rintro e w93 ⟨rfl, hb⟩
                      replace HW := Lib.hid (HW.out.grow hb)
                      clear hb HFT HWT HUT
                      go_wp2_with fail
                      go_roundw
                      case rel => exact ⟨i + 1, s3, st3, r, A3, n3, c3, by omega, by omega, by go_num, rfl, HW.out, HAP.out, by omega, by omega⟩
                      case measure => simp [intOf]; omega
      · have HW2 := Lib.hid (HW.out.call ho hA2 rfl)
        clear HW ho hA2 HT c0
        have HW := HW2
        clear HW2
        have hep2 : s.ep ≤ (i : Int) := hep
        have hll2 : hl.length ≤ i + 1 := by omega
        clear hll
        generalize s = s2 at *
        generalize st = st2 at *
        generalize hl = hl2 at *
        generalize A = A2 at *
        generalize nh = nh2 at *
        generalize ch = ch2 at *
        generalize w2 = wc at *
        have c0 := HC.out _ HW.out.kept
        cases hl2 with
        | nil =>
          obtain rfl : nh2 = 0 := HW.out.q.1
          replace HW := Lib.hid (HW.out.more (Nat.le_succ i))
          by_cases hb48 : b48 = 48
          · have hd48 : True := trivial
            have hb48' : b48 = 48 := hb48
            subst hb48'
            have HCM : Hid (Calls Try.prog 8 #[.pointer (some ⟨p, 0, none⟩)] wc fun e w' => e = .returned (.tuple #[]) ∧ AlOth p m wc w' ∧ Al w' p m (i + 1) (alCommitted s2)) := by
              obtain ⟨F, S, o, h⟩ := HW.out.al
              exact Lib.hid (commit_any h (HAP.out.good.ok (by omega)))
            go_wp2_with fail
            refine HCM.out.mono ?_
            rintro e w71 ⟨rfl, ho, hA⟩
            replace HW := Lib.hid (HW.out.call ho hA rfl)
            have hst := Lib.hid HAP.out.len
            replace HAP := Lib.hid HAP.out.commit
            have hep : (alCommitted s2).ep ≤ (i : Int) + 1 := by show s2.ep + 1 ≤ _; omega
            clear ho hA HCM c0
            generalize alCommitted s2 = s8 at *
            have start4 : TabAt w p m G (i + 1) s8 (clearTo st2) [] A2 0 ch2 2 N (.int .i64 2) w71 := ⟨2, 0, rfl, by omega, rfl, HW.out⟩
            clear HW
            go_wp2_with fail
            go_loopw [16] (fun kv wr => TabAt w p m G (i + 1) s8 (clearTo st2) [] A2 0 ch2 2 N kv wr) (fun kv _ => 2 + N - (intOf kv).toNat)
            case atStart => exact start4
            case round =>
              clear start4
              obtain ⟨K, j, hK, hj, rfl, hw⟩ := hrel
              have HK := Lib.hid hK
              have hK1 : K ≤ 2 + j := by omega
              have hK2 : 2 + j ≤ K := by omega
              clear hK
              by_cases hjN : j < N
              · have hcell := hw.cell K (by rw [clearTo_len, hst.out]; omega)
                have hfr := hw.free K
                have HW0 := Lib.hid hw
                have HW3 := Lib.hid (hw.setTab K 0)
                have hkl : (K : Int) < 2 + (N : Int) := by omega
                have hki : K < 2 + N := by omega
                by_cases hv2 : (clearTo st2 j).getD K 0 = 2
                · have HNX := Lib.hid (show clearTo st2 (j + 1) = (clearTo st2 j).set K 0 by rw [HK.out] at hv2 ⊢; rw [clearTo, if_pos hv2])
                  rw [hv2] at hcell
                  clear hw HW0
                  go_wp2_with fail
                  go_roundw
                  case rel => exact ⟨K + 1, j + 1, by omega, by omega, by go_num, by rw [HNX.out]; exact HW3.out⟩
                  case measure => simp [intOf]; omega
                · have HNX := Lib.hid (show clearTo st2 (j + 1) = clearTo st2 j by rw [HK.out] at hv2; rw [clearTo, if_neg hv2])
                  generalize (clearTo st2 j).getD K 0 = x at *
                  have hx : (x == 2) = false := by simpa using hv2
                  clear hw HW3
                  go_wp2_with fail
                  go_roundw
                  case rel => exact ⟨K + 1, j + 1, by omega, by omega, by go_num, by rw [HNX.out]; exact HW0.out⟩
                  case measure => simp [intOf]; omega
              · have hjN' : j = N := by omega
                have hkl : ¬ (K : Int) < 2 + (N : Int) := by omega
                have HW := Lib.hid hw
                rw [show clearTo st2 N = clearTo st2 j by rw [hjN']] at HAP
                clear hw hjN'
                have HOKT := Lib.hid (HAP.out.good.ok (by omega))
                have HLO := Lib.hid HAP.out.lo
                have HHI := Lib.hid HAP.out.hi
                obtain ⟨HFT, HWT, HUT⟩ := all_sums HW.out.al HOKT.out HLO.out HHI.out
                replace HFT := Lib.hid HFT
                replace HWT := Lib.hid HWT
                replace HUT := Lib.hid HUT
                have hbt := Spans.total_bounds (l := s8.free)
                have hbw := Spans.total_bounds (l := s8.waits)
                generalize Spans.totalL s8.free = T at *
                generalize Spans.totalL s8.waits = W at *
                obtain ⟨hbt0, hbt1⟩ := hbt
                obtain ⟨hbw0, hbw1⟩ := hbw
                obtain ⟨U, hU⟩ : ∃ U, ((2 + N : Nat) : Int) - 2 - T - W = U := ⟨_, rfl⟩
                rw [hU] at HUT
                have hU1 : T + W + U = (N : Int) := by omega
                clear hU
                go_wp2_with fail
                refine (HFT.out _ _ _ _ HW.out.al).mono ?_
                rintro e w91 ⟨rfl, hb⟩
                replace HW := Lib.hid (HW.out.grow hb)
                clear hb
                go_wp2_with fail
                refine (HWT.out _ _ _ _ HW.out.al).mono ?_
                rintro e w92 ⟨rfl, hb⟩
                replace HW := Lib.hid (HW.out.grow hb)
                clear hb
                go_wp2_with fail
                refine (HUT.out _ _ _ _ HW.out.al).mono ?_
                rintro e w93 ⟨rfl, hb⟩
                replace HW := Lib.hid (HW.out.grow hb)
                clear hb HFT HWT HUT
                go_wp2_with fail
                go_roundw
                case rel => exact ⟨i + 1, s8, (clearTo st2 j), [], A2, 0, ch2, by omega, by omega, by go_num, rfl, HW.out, HAP.out, by omega, by omega⟩
                case measure => simp [intOf]; omega
          · have hd48 : (b48 == 48) = false := by simpa using hb48
            have HOKT := Lib.hid (HAP.out.good.ok (by omega))
            have HLO := Lib.hid HAP.out.lo
            have HHI := Lib.hid HAP.out.hi
            obtain ⟨HFT, HWT, HUT⟩ := all_sums HW.out.al HOKT.out HLO.out HHI.out
            replace HFT := Lib.hid HFT
            replace HWT := Lib.hid HWT
            replace HUT := Lib.hid HUT
            have hbt := Spans.total_bounds (l := s2.free)
            have hbw := Spans.total_bounds (l := s2.waits)
            generalize Spans.totalL s2.free = T at *
            generalize Spans.totalL s2.waits = W at *
            obtain ⟨hbt0, hbt1⟩ := hbt
            obtain ⟨hbw0, hbw1⟩ := hbw
            obtain ⟨U, hU⟩ : ∃ U, ((2 + N : Nat) : Int) - 2 - T - W = U := ⟨_, rfl⟩
            rw [hU] at HUT
            have hU1 : T + W + U = (N : Int) := by omega
            clear hU
            go_wp2_with fail
            refine (HFT.out _ _ _ _ HW.out.al).mono ?_
            rintro e w91 ⟨rfl, hb⟩
            replace HW := Lib.hid (HW.out.grow hb)
            clear hb
            go_wp2_with fail
            refine (HWT.out _ _ _ _ HW.out.al).mono ?_
            rintro e w92 ⟨rfl, hb⟩
            replace HW := Lib.hid (HW.out.grow hb)
            clear hb
            go_wp2_with fail
            refine (HUT.out _ _ _ _ HW.out.al).mono ?_
            rintro e w93 ⟨rfl, hb⟩
            replace HW := Lib.hid (HW.out.grow hb)
            clear hb HFT HWT HUT
            go_wp2_with fail
            go_roundw
            case rel => exact ⟨i + 1, s2, st2, [], A2, 0, ch2, by omega, by omega, by go_num, rfl, HW.out, HAP.out, by omega, by omega⟩
            case measure => simp [intOf]; omega
        | cons t r =>
          obtain ⟨t1, t2⟩ := t
          have hnp : (0 : Int) < (nh2 : Int) := by have := HW.out.q.1; rw [List.length_cons] at this; omega
          have hnp2 : 0 < nh2 := by omega
          have dnp : decide ((0 : Int) < (nh2 : Int)) = true := by simp; omega
          by_cases hb8 : b8 = 0
          · have hb8' : b8 = 0 := hb8
            subst hb8'
            replace HW := Lib.hid (HW.out.more (Nat.le_succ i))
            by_cases hb48 : b48 = 48
            · have hd48 : True := trivial
              have hb48' : b48 = 48 := hb48
              subst hb48'
              have HCM : Hid (Calls Try.prog 8 #[.pointer (some ⟨p, 0, none⟩)] wc fun e w' => e = .returned (.tuple #[]) ∧ AlOth p m wc w' ∧ Al w' p m (i + 1) (alCommitted s2)) := by
                obtain ⟨F, S, o, h⟩ := HW.out.al
                exact Lib.hid (commit_any h (HAP.out.good.ok (by omega)))
              go_wp2_with fail
              refine HCM.out.mono ?_
              rintro e w71 ⟨rfl, ho, hA⟩
              replace HW := Lib.hid (HW.out.call ho hA rfl)
              have hst := Lib.hid HAP.out.len
              replace HAP := Lib.hid HAP.out.commit
              have hep : (alCommitted s2).ep ≤ (i : Int) + 1 := by show s2.ep + 1 ≤ _; omega
              clear ho hA HCM c0
              generalize alCommitted s2 = s8 at *
              have start4 : TabAt w p m G (i + 1) s8 (clearTo st2) ((t1, t2) :: r) A2 nh2 ch2 2 N (.int .i64 2) w71 := ⟨2, 0, rfl, by omega, rfl, HW.out⟩
              clear HW
              go_wp2_with fail
              go_loopw [16] (fun kv wr => TabAt w p m G (i + 1) s8 (clearTo st2) ((t1, t2) :: r) A2 nh2 ch2 2 N kv wr) (fun kv _ => 2 + N - (intOf kv).toNat)
              case atStart => exact start4
              case round =>
                clear start4
                obtain ⟨K, j, hK, hj, rfl, hw⟩ := hrel
                have HK := Lib.hid hK
                have hK1 : K ≤ 2 + j := by omega
                have hK2 : 2 + j ≤ K := by omega
                clear hK
                by_cases hjN : j < N
                · have hcell := hw.cell K (by rw [clearTo_len, hst.out]; omega)
                  have hfr := hw.free K
                  have HW0 := Lib.hid hw
                  have HW3 := Lib.hid (hw.setTab K 0)
                  have hkl : (K : Int) < 2 + (N : Int) := by omega
                  have hki : K < 2 + N := by omega
                  by_cases hv2 : (clearTo st2 j).getD K 0 = 2
                  · have HNX := Lib.hid (show clearTo st2 (j + 1) = (clearTo st2 j).set K 0 by rw [HK.out] at hv2 ⊢; rw [clearTo, if_pos hv2])
                    rw [hv2] at hcell
                    clear hw HW0
                    go_wp2_with fail
                    go_roundw
                    case rel => exact ⟨K + 1, j + 1, by omega, by omega, by go_num, by rw [HNX.out]; exact HW3.out⟩
                    case measure => simp [intOf]; omega
                  · have HNX := Lib.hid (show clearTo st2 (j + 1) = clearTo st2 j by rw [HK.out] at hv2; rw [clearTo, if_neg hv2])
                    generalize (clearTo st2 j).getD K 0 = x at *
                    have hx : (x == 2) = false := by simpa using hv2
                    clear hw HW3
                    go_wp2_with fail
                    go_roundw
                    case rel => exact ⟨K + 1, j + 1, by omega, by omega, by go_num, by rw [HNX.out]; exact HW0.out⟩
                    case measure => simp [intOf]; omega
                · have hjN' : j = N := by omega
                  have hkl : ¬ (K : Int) < 2 + (N : Int) := by omega
                  have HW := Lib.hid hw
                  rw [show clearTo st2 N = clearTo st2 j by rw [hjN']] at HAP
                  clear hw hjN'
                  have HOKT := Lib.hid (HAP.out.good.ok (by omega))
                  have HLO := Lib.hid HAP.out.lo
                  have HHI := Lib.hid HAP.out.hi
                  obtain ⟨HFT, HWT, HUT⟩ := all_sums HW.out.al HOKT.out HLO.out HHI.out
                  replace HFT := Lib.hid HFT
                  replace HWT := Lib.hid HWT
                  replace HUT := Lib.hid HUT
                  have hbt := Spans.total_bounds (l := s8.free)
                  have hbw := Spans.total_bounds (l := s8.waits)
                  generalize Spans.totalL s8.free = T at *
                  generalize Spans.totalL s8.waits = W at *
                  obtain ⟨hbt0, hbt1⟩ := hbt
                  obtain ⟨hbw0, hbw1⟩ := hbw
                  obtain ⟨U, hU⟩ : ∃ U, ((2 + N : Nat) : Int) - 2 - T - W = U := ⟨_, rfl⟩
                  rw [hU] at HUT
                  have hU1 : T + W + U = (N : Int) := by omega
                  clear hU
                  go_wp2_with fail
                  refine (HFT.out _ _ _ _ HW.out.al).mono ?_
                  rintro e w91 ⟨rfl, hb⟩
                  replace HW := Lib.hid (HW.out.grow hb)
                  clear hb
                  go_wp2_with fail
                  refine (HWT.out _ _ _ _ HW.out.al).mono ?_
                  rintro e w92 ⟨rfl, hb⟩
                  replace HW := Lib.hid (HW.out.grow hb)
                  clear hb
                  go_wp2_with fail
                  refine (HUT.out _ _ _ _ HW.out.al).mono ?_
                  rintro e w93 ⟨rfl, hb⟩
                  replace HW := Lib.hid (HW.out.grow hb)
                  clear hb HFT HWT HUT
                  go_wp2_with fail
                  go_roundw
                  case rel => exact ⟨i + 1, s8, (clearTo st2 j), ((t1, t2) :: r), A2, nh2, ch2, by omega, by omega, by go_num, rfl, HW.out, HAP.out, by omega, by omega⟩
                  case measure => simp [intOf]; omega
            · have hd48 : (b48 == 48) = false := by simpa using hb48
              have HOKT := Lib.hid (HAP.out.good.ok (by omega))
              have HLO := Lib.hid HAP.out.lo
              have HHI := Lib.hid HAP.out.hi
              obtain ⟨HFT, HWT, HUT⟩ := all_sums HW.out.al HOKT.out HLO.out HHI.out
              replace HFT := Lib.hid HFT
              replace HWT := Lib.hid HWT
              replace HUT := Lib.hid HUT
              have hbt := Spans.total_bounds (l := s2.free)
              have hbw := Spans.total_bounds (l := s2.waits)
              generalize Spans.totalL s2.free = T at *
              generalize Spans.totalL s2.waits = W at *
              obtain ⟨hbt0, hbt1⟩ := hbt
              obtain ⟨hbw0, hbw1⟩ := hbw
              obtain ⟨U, hU⟩ : ∃ U, ((2 + N : Nat) : Int) - 2 - T - W = U := ⟨_, rfl⟩
              rw [hU] at HUT
              have hU1 : T + W + U = (N : Int) := by omega
              clear hU
              go_wp2_with fail
              refine (HFT.out _ _ _ _ HW.out.al).mono ?_
              rintro e w91 ⟨rfl, hb⟩
              replace HW := Lib.hid (HW.out.grow hb)
              clear hb
              go_wp2_with fail
              refine (HWT.out _ _ _ _ HW.out.al).mono ?_
              rintro e w92 ⟨rfl, hb⟩
              replace HW := Lib.hid (HW.out.grow hb)
              clear hb
              go_wp2_with fail
              refine (HUT.out _ _ _ _ HW.out.al).mono ?_
              rintro e w93 ⟨rfl, hb⟩
              replace HW := Lib.hid (HW.out.grow hb)
              clear hb HFT HWT HUT
              go_wp2_with fail
              go_roundw
              case rel => exact ⟨i + 1, s2, st2, ((t1, t2) :: r), A2, nh2, ch2, by omega, by omega, by go_num, rfl, HW.out, HAP.out, by omega, by omega⟩
              case measure => simp [intOf]; omega
          · have hd8 : (b8 != 0) = true := by simpa using hb8
            obtain ⟨gq, oq, hA, hgl, hc0, hc1⟩ := HW.out.q.head
            subst hA
            obtain ⟨ht0, ht1, ht2, _⟩ := HAP.out.held (t1, t2) (by simp)
            obtain ⟨a2, ha2⟩ : ∃ a2 : Nat, t1 = (a2 : Int) := ⟨t1.toNat, by simp only at ht0; omega⟩
            obtain ⟨g2, hg2⟩ : ∃ g2 : Nat, t2 = (a2 : Int) + (g2 : Int) := ⟨(t2 - a2).toNat, by simp only at ht1; omega⟩
            obtain ⟨hE, hla, hlb, hap3⟩ := HAP.out.later (t := (t1, t2)) (r := r) ha2 hg2
            have HAP3 := Lib.hid hap3
            have HA2 := Lib.hid ha2
            have ha2a : t1 ≤ (a2 : Int) := by omega
            have ha2b : (a2 : Int) ≤ t1 := by omega
            have hg2a : t2 ≤ (a2 : Int) + (g2 : Int) := by omega
            have hg2b : (a2 : Int) + (g2 : Int) ≤ t2 := by omega
            have HE := Lib.hid hE
            have HST := Lib.hid HAP.out.len
            have HOKL := Lib.hid (HAP.out.good.ok (by omega))
            simp only at hc0 hc1
            clear hE hap3 ht0 ht1 ht2 HAP ha2 hg2
            have hba : Below wc.heap.size wc (wc.alloc (.cells #[.int .i64 t1, .int .i64 t2] 23)) := (Below.refl _ _).alloc (Nat.le_refl _) _
            have HWG := Lib.hid (HW.out.grow hba)
            have HRS := Lib.hid (Row.new wc 23 #[.int .i64 t1, .int .i64 t2])
            have HPM : Hid (p < wc.heap.size ∧ m < wc.heap.size ∧ G < wc.heap.size) := by
              obtain ⟨F, S, o, h⟩ := HW.out.al
              exact Lib.hid ⟨h.ltP, h.ltM, HW.out.tab.lt⟩
            clear hba HW
            go_wp2_with (refine wpList_slice_q Try.spans rfl (.tmp 111) rfl w.heap.size (some ⟨gq, oq, none⟩) nh2 ch2 rfl (t1, t2) r HWG.out.q ?_; intro A3 n3 c3 hq3 hb3; refine heldG ?_)
            have HW3 := Lib.hid (HWG.out.tail hq3 hb3)
            have HLT := Lib.hid (later_al HW3.out.al HOKL.out (by omega) t1 t2)
            have e0 := HRS.out.cell (j := 0) (v := .int .i64 t1) rfl
            have e1 := HRS.out.cell (j := 1) (v := .int .i64 t2) rfl
            clear hq3 hb3 HWG hc0 hc1 c0 hgl
            unfold HeldG
            go_wp2_with fail
            refine HLT.out.mono ?_
            rintro e w61 ⟨rfl, ho, hA⟩
            rw [HE.out]
            have hsame := latered_same s2 (t1, t2)
            replace HW3 := Lib.hid (HW3.out.call ho hA hsame.2.2.2.2)
            have HRS4 : Hid (Row w61 wc.heap.size 23 #[.int .i64 t1, .int .i64 t2]) := Lib.hid ((ho.block wc.heap.size HRS.out.lt (by have := HPM.out; omega) (by have := HPM.out; omega)).trans HRS.out)
            have hep3 : (alLatered s2 (t1, t2)).ep ≤ (i : Int) := by rw [hsame.2.2.2.1]; exact hep2
            have hGne : wc.heap.size ≠ G := by have := HPM.out; omega
            clear ho hA HLT HRS e0 e1 HE hsame HPM HOKL
            generalize alLatered s2 (t1, t2) = s3 at *
            generalize wc.heap.size = gs at *
            have f0 := HRS4.out.cell (j := 0) (v := .int .i64 t1) rfl
            have f1 := HRS4.out.cell (j := 1) (v := .int .i64 t2) rfl
            have start3 : TabAt w p m G (i + 1) s3 (setTo st2 a2 2) r A3 n3 c3 a2 g2 (.int .i64 t1) w61 ∧ Row w61 gs 23 #[.int .i64 t1, .int .i64 t2] := ⟨⟨a2, 0, rfl, by omega, by rw [HA2.out], HW3.out⟩, HRS4.out⟩
            clear HW3 HRS4
            go_wp2_with fail
            go_loopw [15] (fun kv wr => TabAt w p m G (i + 1) s3 (setTo st2 a2 2) r A3 n3 c3 a2 g2 kv wr ∧ Row wr gs 23 #[.int .i64 t1, .int .i64 t2]) (fun kv _ => a2 + g2 - (intOf kv).toNat)
            case atStart => exact start3
            case round =>
              clear start3 f0 f1
              obtain ⟨⟨K, j, hK, hj, rfl, hw⟩, hrs⟩ := hrel
              have HK := Lib.hid hK
              have hK1 : K ≤ a2 + j := by omega
              have hK2 : a2 + j ≤ K := by omega
              clear hK
              have HWr := Lib.hid hw
              have HRr := Lib.hid hrs
              have e1 := hrs.cell (j := 1) (v := .int .i64 t2) rfl
              by_cases hjg : j < g2
              · have hcell := hw.cell K (by rw [setTo_len, HST.out]; omega)
                have hfr := hw.free K
                have HW3 := Lib.hid (hw.setTab K 2)
                have HR3 := Lib.hid (hrs.other hGne K (.int .i64 2))
                have hkt : (K : Int) < t2 := by omega
                have hki : K < 2 + N := by omega
                have HNX := Lib.hid (show setTo st2 a2 2 (j + 1) = (setTo st2 a2 2 j).set K 2 by rw [HK.out]; rfl)
                clear hw hrs HWr HRr
                generalize (setTo st2 a2 2 j).getD K 0 = x at *
                go_wp2_with fail
                go_roundw
                case rel => exact ⟨⟨K + 1, j + 1, by omega, by omega, by go_num, by rw [HNX.out]; exact HW3.out⟩, HR3.out⟩
                case measure => simp [intOf]; omega
              · have hjg' : j = g2 := by omega
                have hkt : ¬ (K : Int) < t2 := by omega
                have hkt2 : t2 ≤ (K : Int) := by omega
                have HW := HWr
                have HAP := HAP3
                rw [show setTo st2 a2 2 g2 = setTo st2 a2 2 j by rw [hjg']] at HAP
                clear hjg'
                have c0 := HC.out _ HW.out.kept
                have hll3 : r.length ≤ i + 1 := by rw [List.length_cons] at hll2; omega
                clear hw hrs HRr HAP3 HWr
                generalize setTo st2 a2 2 j = st3 at *
                by_cases hb48 : b48 = 48
                · have hd48 : True := trivial
                  have hb48' : b48 = 48 := hb48
                  subst hb48'
                  have HCM : Hid (Calls Try.prog 8 #[.pointer (some ⟨p, 0, none⟩)] wr fun e w' => e = .returned (.tuple #[]) ∧ AlOth p m wr w' ∧ Al w' p m (i + 1) (alCommitted s3)) := by
                    obtain ⟨F, S, o, h⟩ := HW.out.al
                    exact Lib.hid (commit_any h (HAP.out.good.ok (by omega)))
                  go_wp2_with fail
                  refine HCM.out.mono ?_
                  rintro e w71 ⟨rfl, ho, hA⟩
                  replace HW := Lib.hid (HW.out.call ho hA rfl)
                  have hst := Lib.hid HAP.out.len
                  replace HAP := Lib.hid HAP.out.commit
                  have hep : (alCommitted s3).ep ≤ (i : Int) + 1 := by show s3.ep + 1 ≤ _; omega
                  clear ho hA HCM c0
                  generalize alCommitted s3 = s8 at *
                  have start4 : TabAt w p m G (i + 1) s8 (clearTo st3) r A3 n3 c3 2 N (.int .i64 2) w71 := ⟨2, 0, rfl, by omega, rfl, HW.out⟩
                  clear HW
                  go_wp2_with fail
                  go_loopw [16] (fun kv wr => TabAt w p m G (i + 1) s8 (clearTo st3) r A3 n3 c3 2 N kv wr) (fun kv _ => 2 + N - (intOf kv).toNat)
                  case atStart => exact start4
                  case round =>
                    clear start4
                    obtain ⟨K, j, hK, hj, rfl, hw⟩ := hrel
                    have HK := Lib.hid hK
                    have hK1 : K ≤ 2 + j := by omega
                    have hK2 : 2 + j ≤ K := by omega
                    clear hK
                    by_cases hjN : j < N
                    · have hcell := hw.cell K (by rw [clearTo_len, hst.out]; omega)
                      have hfr := hw.free K
                      have HW0 := Lib.hid hw
                      have HW3 := Lib.hid (hw.setTab K 0)
                      have hkl : (K : Int) < 2 + (N : Int) := by omega
                      have hki : K < 2 + N := by omega
                      by_cases hv2 : (clearTo st3 j).getD K 0 = 2
                      · have HNX := Lib.hid (show clearTo st3 (j + 1) = (clearTo st3 j).set K 0 by rw [HK.out] at hv2 ⊢; rw [clearTo, if_pos hv2])
                        rw [hv2] at hcell
                        clear hw HW0
                        go_wp2_with fail
                        go_roundw
                        case rel => exact ⟨K + 1, j + 1, by omega, by omega, by go_num, by rw [HNX.out]; exact HW3.out⟩
                        case measure => simp [intOf]; omega
                      · have HNX := Lib.hid (show clearTo st3 (j + 1) = clearTo st3 j by rw [HK.out] at hv2; rw [clearTo, if_neg hv2])
                        generalize (clearTo st3 j).getD K 0 = x at *
                        have hx : (x == 2) = false := by simpa using hv2
                        clear hw HW3
                        go_wp2_with fail
                        go_roundw
                        case rel => exact ⟨K + 1, j + 1, by omega, by omega, by go_num, by rw [HNX.out]; exact HW0.out⟩
                        case measure => simp [intOf]; omega
                    · have hjN' : j = N := by omega
                      have hkl : ¬ (K : Int) < 2 + (N : Int) := by omega
                      have HW := Lib.hid hw
                      rw [show clearTo st3 N = clearTo st3 j by rw [hjN']] at HAP
                      clear hw hjN'
                      have HOKT := Lib.hid (HAP.out.good.ok (by omega))
                      have HLO := Lib.hid HAP.out.lo
                      have HHI := Lib.hid HAP.out.hi
                      obtain ⟨HFT, HWT, HUT⟩ := all_sums HW.out.al HOKT.out HLO.out HHI.out
                      replace HFT := Lib.hid HFT
                      replace HWT := Lib.hid HWT
                      replace HUT := Lib.hid HUT
                      have hbt := Spans.total_bounds (l := s8.free)
                      have hbw := Spans.total_bounds (l := s8.waits)
                      generalize Spans.totalL s8.free = T at *
                      generalize Spans.totalL s8.waits = W at *
                      obtain ⟨hbt0, hbt1⟩ := hbt
                      obtain ⟨hbw0, hbw1⟩ := hbw
                      obtain ⟨U, hU⟩ : ∃ U, ((2 + N : Nat) : Int) - 2 - T - W = U := ⟨_, rfl⟩
                      rw [hU] at HUT
                      have hU1 : T + W + U = (N : Int) := by omega
                      clear hU
                      go_wp2_with fail
                      refine (HFT.out _ _ _ _ HW.out.al).mono ?_
                      rintro e w91 ⟨rfl, hb⟩
                      replace HW := Lib.hid (HW.out.grow hb)
                      clear hb
                      go_wp2_with fail
                      refine (HWT.out _ _ _ _ HW.out.al).mono ?_
                      rintro e w92 ⟨rfl, hb⟩
                      replace HW := Lib.hid (HW.out.grow hb)
                      clear hb
                      go_wp2_with fail
                      refine (HUT.out _ _ _ _ HW.out.al).mono ?_
                      rintro e w93 ⟨rfl, hb⟩
                      replace HW := Lib.hid (HW.out.grow hb)
                      clear hb HFT HWT HUT
                      go_wp2_with fail
                      go_roundw
                      case rel => exact ⟨i + 1, s8, (clearTo st3 j), r, A3, n3, c3, by omega, by omega, by go_num, rfl, HW.out, HAP.out, by omega, by omega⟩
                      case measure => simp [intOf]; omega
                · have hd48 : (b48 == 48) = false := by simpa using hb48
                  have HOKT := Lib.hid (HAP.out.good.ok (by omega))
                  have HLO := Lib.hid HAP.out.lo
                  have HHI := Lib.hid HAP.out.hi
                  obtain ⟨HFT, HWT, HUT⟩ := all_sums HW.out.al HOKT.out HLO.out HHI.out
                  replace HFT := Lib.hid HFT
                  replace HWT := Lib.hid HWT
                  replace HUT := Lib.hid HUT
                  have hbt := Spans.total_bounds (l := s3.free)
                  have hbw := Spans.total_bounds (l := s3.waits)
                  generalize Spans.totalL s3.free = T at *
                  generalize Spans.totalL s3.waits = W at *
                  obtain ⟨hbt0, hbt1⟩ := hbt
                  obtain ⟨hbw0, hbw1⟩ := hbw
                  obtain ⟨U, hU⟩ : ∃ U, ((2 + N : Nat) : Int) - 2 - T - W = U := ⟨_, rfl⟩
                  rw [hU] at HUT
                  have hU1 : T + W + U = (N : Int) := by omega
                  clear hU
                  go_wp2_with fail
                  refine (HFT.out _ _ _ _ HW.out.al).mono ?_
                  rintro e w91 ⟨rfl, hb⟩
                  replace HW := Lib.hid (HW.out.grow hb)
                  clear hb
                  go_wp2_with fail
                  refine (HWT.out _ _ _ _ HW.out.al).mono ?_
                  rintro e w92 ⟨rfl, hb⟩
                  replace HW := Lib.hid (HW.out.grow hb)
                  clear hb
                  go_wp2_with fail
                  refine (HUT.out _ _ _ _ HW.out.al).mono ?_
                  rintro e w93 ⟨rfl, hb⟩
                  replace HW := Lib.hid (HW.out.grow hb)
                  clear hb HFT HWT HUT
                  go_wp2_with fail
                  go_roundw
                  case rel => exact ⟨i + 1, s3, st3, r, A3, n3, c3, by omega, by omega, by go_num, rfl, HW.out, HAP.out, by omega, by omega⟩
                  case measure => simp [intOf]; omega
      · have d60 : decide ((i : Int) < 60) = false := by simp; omega
        have HST := Lib.hid HAP.out.len
        have HCT := Lib.hid HAP.out.counted
        have HOKF := Lib.hid (HAP.out.good.ok (by omega))
        have HLO := Lib.hid HAP.out.lo
        have HHI := Lib.hid HAP.out.hi
        have hcb := cntOne_bounds st
        have start5 : SumAt w p m G i N s st hl A nh ch (.int .i64 0) (.int .i64 2) wr := ⟨2, 0, rfl, by omega, rfl, rfl, HW.out⟩
        clear HAP HW
        go_wp2_with fail
        go_loopw [17, 18] (fun uv kv wr => SumAt w p m G i N s st hl A nh ch uv kv wr) (fun _ kv _ => 2 + N - (intOf kv).toNat)
        case atStart => exact start5
        case round =>
          clear start5
          obtain ⟨K, j, hK, hj, rfl, rfl, hw⟩ := hrel
          have HK := Lib.hid hK
          have hK1 : K ≤ 2 + j := by omega
          have hK2 : 2 + j ≤ K := by omega
          clear hK
          have hcj := hcb j
          obtain ⟨hcj0, hcj1⟩ := hcj
          have HWr := Lib.hid hw
          by_cases hjN : j < N
          · have hcell := hw.cell K (by rw [HST.out]; omega)
            have hkl : (K : Int) < 2 + (N : Int) := by omega
            have hki : K < 2 + N := by omega
            clear hw
            by_cases hv1 : st.getD K 0 = 1
            · have HNX := Lib.hid (show cntOne st (j + 1) = cntOne st j + 1 by rw [HK.out] at hv1; rw [cntOne, if_pos hv1])
              rw [hv1] at hcell
              generalize cntOne st j = cj at *
              go_wp2_with fail
              go_roundw
              case rel => exact ⟨K + 1, j + 1, by omega, by omega, by go_num, by rw [HNX.out], HWr.out⟩
              case measure => simp [intOf]; omega
            · have HNX := Lib.hid (show cntOne st (j + 1) = cntOne st j by rw [HK.out] at hv1; rw [cntOne, if_neg hv1, Int.add_zero])
              generalize st.getD K 0 = x at *
              have hx : (x == 1) = false := by simpa using hv1
              generalize cntOne st j = cj at *
              go_wp2_with fail
              go_roundw
              case rel => exact ⟨K + 1, j + 1, by omega, by omega, by go_num, by rw [HNX.out], HWr.out⟩
              case measure => simp [intOf]; omega
          · have hjN' : j = N := by omega
            have HCT2 : Hid (((2 + N : Nat) : Int) - 2 - Spans.totalL s.free - Spans.totalL s.waits = cntOne st j) := by rw [hjN']; exact HCT
            clear hjN'
            obtain ⟨_, _, HUF⟩ := all_sums hw.al HOKF.out HLO.out HHI.out
            rw [HCT2.out] at HUF
            replace HUF := Lib.hid HUF
            have hkl : ¬ (K : Int) < 2 + (N : Int) := by omega
            clear hw HCT HCT2
            generalize cntOne st j = cj at *
            go_wp2_with fail
            refine (HUF.out _ _ _ _ HWr.out.al).mono ?_
            rintro e w95 ⟨rfl, hb⟩
            have HBF := Lib.hid (HWr.out.grow hb).kept
            clear hb
            go_wp2_with fail
            go_ret
            exact ⟨rfl, HBF.out⟩
    · have hlt' : ¬ (i : Int) < (n1 : Int) := by omega
      have HST := Lib.hid HAP.out.len
      have HCT := Lib.hid HAP.out.counted
      have HOKF := Lib.hid (HAP.out.good.ok (by omega))
      have HLO := Lib.hid HAP.out.lo
      have HHI := Lib.hid HAP.out.hi
      have hcb := cntOne_bounds st
      have start5 : SumAt w p m G i N s st hl A nh ch (.int .i64 0) (.int .i64 2) wr := ⟨2, 0, rfl, by omega, rfl, rfl, HW.out⟩
      clear HAP HW
      go_wp2_with fail
      go_loopw [17, 18] (fun uv kv wr => SumAt w p m G i N s st hl A nh ch uv kv wr) (fun _ kv _ => 2 + N - (intOf kv).toNat)
      case atStart => exact start5
      case round =>
        clear start5
        obtain ⟨K, j, hK, hj, rfl, rfl, hw⟩ := hrel
        have HK := Lib.hid hK
        have hK1 : K ≤ 2 + j := by omega
        have hK2 : 2 + j ≤ K := by omega
        clear hK
        have hcj := hcb j
        obtain ⟨hcj0, hcj1⟩ := hcj
        have HWr := Lib.hid hw
        by_cases hjN : j < N
        · have hcell := hw.cell K (by rw [HST.out]; omega)
          have hkl : (K : Int) < 2 + (N : Int) := by omega
          have hki : K < 2 + N := by omega
          clear hw
          by_cases hv1 : st.getD K 0 = 1
          · have HNX := Lib.hid (show cntOne st (j + 1) = cntOne st j + 1 by rw [HK.out] at hv1; rw [cntOne, if_pos hv1])
            rw [hv1] at hcell
            generalize cntOne st j = cj at *
            go_wp2_with fail
            go_roundw
            case rel => exact ⟨K + 1, j + 1, by omega, by omega, by go_num, by rw [HNX.out], HWr.out⟩
            case measure => simp [intOf]; omega
          · have HNX := Lib.hid (show cntOne st (j + 1) = cntOne st j by rw [HK.out] at hv1; rw [cntOne, if_neg hv1, Int.add_zero])
            generalize st.getD K 0 = x at *
            have hx : (x == 1) = false := by simpa using hv1
            generalize cntOne st j = cj at *
            go_wp2_with fail
            go_roundw
            case rel => exact ⟨K + 1, j + 1, by omega, by omega, by go_num, by rw [HNX.out], HWr.out⟩
            case measure => simp [intOf]; omega
        · have hjN' : j = N := by omega
          have HCT2 : Hid (((2 + N : Nat) : Int) - 2 - Spans.totalL s.free - Spans.totalL s.waits = cntOne st j) := by rw [hjN']; exact HCT
          clear hjN'
          obtain ⟨_, _, HUF⟩ := all_sums hw.al HOKF.out HLO.out HHI.out
          rw [HCT2.out] at HUF
          replace HUF := Lib.hid HUF
          have hkl : ¬ (K : Int) < 2 + (N : Int) := by omega
          clear hw HCT HCT2
          generalize cntOne st j = cj at *
          go_wp2_with fail
          refine (HUF.out _ _ _ _ HWr.out.al).mono ?_
          rintro e w95 ⟨rfl, hb⟩
          have HBF := Lib.hid (HWr.out.grow hb).kept
          clear hb
          go_wp2_with fail
          go_ret
          exact ⟨rfl, HBF.out⟩
end Go.Proofs.Ytnlkljmboifnkaa

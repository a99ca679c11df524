/- PartFull: its walk, for any sizes and any bound. No conditions but those that stand in each lemma. -/
import Derived.Test.YtejcpfplmlpilaaPartRow
namespace Go.Proofs.Ytejcpfplmlpilaa
open Go.RowKit
namespace Part

/-- At a round's head, of the loop over the pieces. -/
def FullAt (w : World) (es : List Nat) (fv kv : Value) (wr : World) : Prop := ∃ k : Nat, k ≤ es.length ∧ kv = .int .i64 (k : Int) ∧ fv = .int .i64 (prev es k : Nat) ∧ w = wr
/-- .. of the loop over a piece. -/
def SegAt (w : World) (L : List Int) (p e : Nat) (sv iv : Value) (wr : World) : Prop :=
  ∃ (i : Nat) (s : Int), p ≤ i ∧ i ≤ e ∧ iv = .int .i64 (i : Int) ∧ sv = .int .i64 s ∧ s = seg L p i ∧ 0 ≤ s ∧ s ≤ 1048576 * (i : Int) ∧ w = wr
set_option maxRecDepth 100000 in
set_option maxHeartbeats 16000000 in
theorem full_law (A : Option Addr) (n c : Nat) (l : List Int) (most : Int) (w : World) (hn : n = l.length) (hs : NumSrc w A l) (hnc : n ≤ c) (hc : c ≤ maxLen) (hm : (Lit.int .i64 most).wf = true) :
    Calls Try.prog 5 #[.slice A n c, .int .i64 most] w fun e w' => e = .returned (.bool true) ∧ Below w.heap.size w w' := by
  have hmb := bounds_i64 hm
  have hN := mask_and most 1048575 (by omega)
  rw [show ((1048575 : Nat) : Int) = 1048575 from rfl] at hN
  obtain ⟨mo, hmo, hmo1, hmo2⟩ : ∃ mo : Int, 1 + bits .and .i64 most 1048575 = mo ∧ 1 ≤ mo ∧ mo ≤ 1048576 := ⟨_, rfl, by omega, by omega⟩
  unfold maxLen at hc
  have Hn := Lib.hid hn
  have Hs := Lib.hid hs
  clear hn hs hm hmb
  have HONE := Lib.hid (fun w1 (h1 : w.heap.size ≤ w1.heap.size) => cut_any (some ⟨w1.heap.size, 0, none⟩) 1 1 [1] 1 _ rfl (row_nums (Row.new w1 3 #[.int .i64 1]) rfl) (by omega))
  by_cases h1 : n > 300
  · have Hs' := Lib.hid (show NumSrc w A (l.take 300) from NumSrc.take Hs.out 300)
    have Hn' := Lib.hid (show 300 = (l.take 300).length by rw [List.length_take]; have := Hn.out; omega)
    have h1i : (300 : Int) < (n : Int) := by omega
    go_enter Try.func5, Try.ntmps5
    go_wp2_with fail
    have hmoE := Lib.hid hmo
    clear hmo hN
    go_loopw [5, 6] (fun lv iv wr => RowAt w 300 mo lv iv wr) (fun _ i _ => 300 - (intOf i).toNat)
    case atStart => exact ⟨0, [], none, 0, Nat.zero_le _, rfl, rfl, IOwn.nil _ _, fun x hx => by (cases hx), Below.refl _ _⟩
    case round =>
      obtain ⟨k, L, A2, c2, hk, rfl, rfl, ho, hL, hbw⟩ := hrel
      have HO := Lib.hid ho
      have HL := Lib.hid hL
      have hszr := hbw.size
      clear ho hL
      by_cases hlt : k < 300
      · obtain ⟨b0, o, rfl, hbl, hcell⟩ := Hs'.out (by have := Hn'.out; omega)
        have c0 : wr.cell? ⟨b0, o + k, none⟩ = some (.int .i64 ((l.take 300).getD k 0)) := (hbw.cell (p := ⟨b0, o + k, none⟩) hbl).trans (hcell k (by have := Hn'.out; omega))
        clear hcell
        generalize (l.take 300).getD k 0 = x at *
        have hx := mask_and x 1048575 (by omega)
        rw [show ((1048575 : Nat) : Int) = 1048575 from rfl] at hx
        have hki : (k : Int) < 300 := by omega
        have hv0 : 0 ≤ bits .and .i64 x 1048575 % (mo + 1) := Int.emod_nonneg _ (by omega)
        have hv1 : bits .and .i64 x 1048575 % (mo + 1) ≤ mo := by have := Int.emod_lt_of_pos (bits .and .i64 x 1048575) (show 0 < mo + 1 by omega); omega
        have HV := Lib.hid (row_more HL.out hv0 hv1)
        go_wp2_with (at_builtin; refine wpList_append_i rfl _ _ rfl w.heap.size A2 k c2 L rfl (HO.out.keep ((Below.refl _ _).alloc (Nat.le_refl _) _)) _ _ _ rfl (Row.new wr _ _) (by omega) (by simp; omega) ?_; rintro A4 cc4 w4 ho4 hb4 hsz4; have HO4 := Lib.hid ho4; have HB4 := Lib.hid ((hbw.alloc hszr _).trans hb4); clear ho4 hb4)
        go_roundw
        case rel => exact ⟨k + 1, _, A4, cc4, by omega, by go_num, rfl, HO4.out, HV.out, HB4.out⟩
        case measure => simp [intOf]; omega
      obtain rfl : k = 300 := by omega
      have HZ := Lib.hid (sized_mem HL.out (by omega))
      go_wp2_with fail
      refine (cut_any A2 300 c2 L mo wr HO.out.1 HO.out.src (by omega)).mono ?_
      rintro e w1 ⟨r, hr, A3, n3, c3, rfl, ho3, hb3⟩
      have HR := Lib.hid hr
      have HP1 := Lib.hid ho3
      have HO1 := Lib.hid (HO.out.keep hb3)
      have HB1 := Lib.hid (hbw.trans (hb3.mono hszr))
      clear hr ho3 hb3
      have hn3x : n3 ≤ 70000 := by rw [HP1.out.1]; have := HR.out.short; omega
      go_wp2_with fail
      refine (great_any A2 300 c2 L A3 n3 c3 r w1 HO1.out.1 HO1.out.src (by omega) HO1.out.2.cap.1 HP1.out.1 HP1.out.src (by omega)).mono ?_
      rintro e w2 ⟨t, ht, rfl, hb2⟩
      have HT2 := Lib.hid ht
      have HO2 := Lib.hid (HO1.out.keep hb2)
      have HP2 := Lib.hid (HP1.out.keep hb2)
      have HB2 := Lib.hid (HB1.out.trans (hb2.mono HB1.out.size))
      clear ht hb2 HO1 HP1 HB1
      have hL := HZ.out
      obtain ⟨m, hm⟩ : ∃ m : Nat, L.length = m + 1 := ⟨L.length - 1, by have := HO.out.1; omega⟩
      have HM := Lib.hid hm
      have HF := Lib.hid (show Fit L mo from ⟨by omega, by have := HO.out.1; omega, hmo1, by omega, HZ.out⟩)
      have HC2 := Lib.hid (show ∃ b, Least L m mo b ∧ r = natI (ends b L m) from by
        rcases HR.out with ⟨h, _⟩ | ⟨_, b, hb, e⟩
        · exact absurd HF.out h
        · rw [hm, Nat.add_sub_cancel] at hb e; exact ⟨b, hb, e⟩)
      obtain ⟨b, hbl, hre⟩ := HC2.out
      have hbm := hbl.le
      have HBL := Lib.hid hbl
      have HRE := Lib.hid hre
      clear HR HC2 hbl hre hL
      have HZ30 := Lib.hid (show Sized L 1073741824 from fun i => by have := HZ.out i; omega)
      have hnm : m + 1 = 300 := by rw [← hm]; exact HO.out.1.symm
      clear hm
      have HG := Lib.hid (top_cut HM.out HZ30.out HBL.out (by rw [← HRE.out]; exact HT2.out))
      rw [HG.out]
      clear HT2
      have hn3 : n3 ≤ 70000 := by have h5 := HP2.out.1; have h6 := ends_le b L m; rw [← HRE.out] at h6; have h8 := HF.out.len; omega
      have HLN := Lib.hid (show n3 = (ends b L m).length by rw [HP2.out.1, HRE.out, natI_length])
      have hn3p : 0 < n3 := by rw [HLN.out, ends_len]; unfold many; omega
      have HPC := Lib.hid (fun j hj => ends_pieces b L HBL.out.each m j hj)
      obtain ⟨b3, o3, rfl, hbl3, hcell3⟩ := HP2.out.src (by rw [← HP2.out.1]; exact hn3p)
      have HC3 := Lib.hid (show ∀ j, j < n3 → w2.cell? ⟨b3, o3 + j, none⟩ = some (.int .i64 ((ends b L m).getD j 0 : Nat)) from fun j hj => by
        rw [hcell3 j (by rw [← HP2.out.1]; exact hj), HRE.out, natI_at])
      obtain ⟨bL, oL, rfl, hblL, hcellL⟩ := HO2.out.src (by have := HM.out; omega)
      have HCL := Lib.hid hcellL
      have ce := HC3.out (n3 - 1) (by omega)
      rw [(HPC.out (n3 - 1) (by have := HLN.out; omega)).2.2.2.2 (by have := HLN.out; omega), hnm, show ((300 : Nat) : Int) = 300 from rfl] at ce
      clear hcell3 hcellL
      have h31 : ¬ (n3 : Int) = 0 := by omega
      have h32 : n3 - 1 < n3 := by omega
      have h33 : (0 : Int) ≤ (n3 : Int) - 1 := by omega
      have h34 : ¬ b > mo := by omega
      have h35 : ((n3 : Int) == 0) = false := beq_false_of_ne h31
      have h36 : decide (mo < b) = false := decide_eq_false h34
      go_wp2_with fail
      go_loopw [9, 10] (fun fv kv wr => FullAt w2 (ends b L m) fv kv wr) (fun _ k _ => n3 - (intOf k).toNat)
      case atStart => exact ⟨0, Nat.zero_le _, rfl, rfl, rfl⟩
      case round =>
        obtain ⟨q, hq, rfl, rfl, rfl⟩ := hrel
        clear ce
        by_cases hlt3 : q < n3
        · have cq := HC3.out q hlt3
          obtain ⟨p1, p2, p3, p4, p5⟩ := HPC.out q (by have := HLN.out; omega)
          have HNX := Lib.hid (prev_next (ends b L m) q)
          obtain ⟨e, he⟩ : ∃ e, (ends b L m).getD q 0 = e := ⟨_, rfl⟩
          obtain ⟨p, hp⟩ : ∃ p, prev (ends b L m) q = p := ⟨_, rfl⟩
          rw [he] at cq p1 p2 p3 p4 HNX
          rw [hp] at p1 p3 p4
          rw [hp]
          have P3 := Lib.hid p3
          have P4 := Lib.hid p4
          clear p3 p4 p5 he hp
          have p2' : (e : Int) ≤ (300 : Int) := by omega
          have p1' : (p : Int) < (e : Int) := by omega
          go_wp2_with fail
          go_loopw [11, 12] (fun sv iv wr => SegAt w2 L p e sv iv wr) (fun _ i _ => e - (intOf i).toNat)
          case atStart => exact ⟨p, 0, Nat.le_refl _, by omega, rfl, rfl, (seg_none L p).symm, by omega, by omega, rfl⟩
          case round =>
            obtain ⟨i, s, hpi, hie, rfl, rfl, hse, hs0, hs1, rfl⟩ := hrel
            have HSE := Lib.hid hse
            clear hse
            by_cases hlt4 : i < e
            · have c0 := HCL.out i (by have := HM.out; omega)
              have hx := HZ.out i
              have HN4 := Lib.hid (seg_next L hpi)
              have hiN : i < 300 := by omega
              obtain ⟨x, hxe⟩ : ∃ x, L.getD i 0 = x := ⟨_, rfl⟩
              rw [hxe] at c0 hx HN4
              clear hxe
              go_wp2_with fail
              go_roundw
              case rel => exact ⟨i + 1, s + x, by omega, by omega, by go_num, rfl, by rw [HN4.out, HSE.out], by omega, by omega, rfl⟩
              case measure => simp [intOf]; omega
            · obtain rfl : i = e := by omega
              have hsb : ¬ s > b := by have := P3.out; rw [← HSE.out] at this; omega
              by_cases hem : i < 300
              · have c0 := HCL.out i (by have := HM.out; omega)
                have hx := HZ.out i
                have hmo5 := P4.out (by omega)
                rw [← HSE.out] at hmo5
                obtain ⟨x, hxe⟩ : ∃ x, L.getD i 0 = x := ⟨_, rfl⟩
                rw [hxe] at c0 hx hmo5
                clear hxe
                have hmo6 : ¬ s + x ≤ b := by omega
                have hemi : (i : Int) < (300 : Int) := by omega
                go_wp2_with fail
                go_roundw
                case rel => exact ⟨q + 1, by have := HLN.out; omega, by go_num, by rw [HNX.out], rfl⟩
                case measure => simp [intOf]; omega
              · have hemi : ¬ (i : Int) < (300 : Int) := by omega
                go_wp2_with fail
                go_roundw
                case rel => exact ⟨q + 1, by have := HLN.out; omega, by go_num, by rw [HNX.out], rfl⟩
                case measure => simp [intOf]; omega
        · obtain rfl : q = n3 := by have := HLN.out; omega
          go_wp2_with fail
          go_ret
          exact ⟨rfl, HB2.out⟩
  · have Hs' := Hs
    have Hn' := Hn
    have h1i : (n : Int) ≤ 300 := by omega
    go_enter Try.func5, Try.ntmps5
    go_wp2_with fail
    have hmoE := Lib.hid hmo
    clear hmo hN
    go_loopw [5, 6] (fun lv iv wr => RowAt w n mo lv iv wr) (fun _ i _ => n - (intOf i).toNat)
    case atStart => exact ⟨0, [], none, 0, Nat.zero_le _, rfl, rfl, IOwn.nil _ _, fun x hx => by (cases hx), Below.refl _ _⟩
    case round =>
      obtain ⟨k, L, A2, c2, hk, rfl, rfl, ho, hL, hbw⟩ := hrel
      have HO := Lib.hid ho
      have HL := Lib.hid hL
      have hszr := hbw.size
      clear ho hL
      by_cases hlt : k < n
      · obtain ⟨b0, o, rfl, hbl, hcell⟩ := Hs'.out (by have := Hn'.out; omega)
        have c0 : wr.cell? ⟨b0, o + k, none⟩ = some (.int .i64 ((l).getD k 0)) := (hbw.cell (p := ⟨b0, o + k, none⟩) hbl).trans (hcell k (by have := Hn'.out; omega))
        clear hcell
        generalize (l).getD k 0 = x at *
        have hx := mask_and x 1048575 (by omega)
        rw [show ((1048575 : Nat) : Int) = 1048575 from rfl] at hx
        have hki : (k : Int) < (n : Int) := by omega
        have hv0 : 0 ≤ bits .and .i64 x 1048575 % (mo + 1) := Int.emod_nonneg _ (by omega)
        have hv1 : bits .and .i64 x 1048575 % (mo + 1) ≤ mo := by have := Int.emod_lt_of_pos (bits .and .i64 x 1048575) (show 0 < mo + 1 by omega); omega
        have HV := Lib.hid (row_more HL.out hv0 hv1)
        go_wp2_with (at_builtin; refine wpList_append_i rfl _ _ rfl w.heap.size A2 k c2 L rfl (HO.out.keep ((Below.refl _ _).alloc (Nat.le_refl _) _)) _ _ _ rfl (Row.new wr _ _) (by omega) (by simp; omega) ?_; rintro A4 cc4 w4 ho4 hb4 hsz4; have HO4 := Lib.hid ho4; have HB4 := Lib.hid ((hbw.alloc hszr _).trans hb4); clear ho4 hb4)
        go_roundw
        case rel => exact ⟨k + 1, _, A4, cc4, by omega, by go_num, rfl, HO4.out, HV.out, HB4.out⟩
        case measure => simp [intOf]; omega
      obtain rfl : k = n := by omega
      have HZ := Lib.hid (sized_mem HL.out (by omega))
      go_wp2_with fail
      refine (cut_any A2 k c2 L mo wr HO.out.1 HO.out.src (by omega)).mono ?_
      rintro e w1 ⟨r, hr, A3, n3, c3, rfl, ho3, hb3⟩
      have HR := Lib.hid hr
      have HP1 := Lib.hid ho3
      have HO1 := Lib.hid (HO.out.keep hb3)
      have HB1 := Lib.hid (hbw.trans (hb3.mono hszr))
      clear hr ho3 hb3
      have hn3x : n3 ≤ 70000 := by rw [HP1.out.1]; have := HR.out.short; omega
      go_wp2_with fail
      refine (great_any A2 k c2 L A3 n3 c3 r w1 HO1.out.1 HO1.out.src (by omega) HO1.out.2.cap.1 HP1.out.1 HP1.out.src (by omega)).mono ?_
      rintro e w2 ⟨t, ht, rfl, hb2⟩
      have HT2 := Lib.hid ht
      have HO2 := Lib.hid (HO1.out.keep hb2)
      have HP2 := Lib.hid (HP1.out.keep hb2)
      have HB2 := Lib.hid (HB1.out.trans (hb2.mono HB1.out.size))
      clear ht hb2 HO1 HP1 HB1
      rcases Nat.eq_zero_or_pos k with h0 | h0
      · subst h0
        have hrn : r = [] := by
          rcases HR.out with ⟨_, h⟩ | ⟨h, _⟩
          · exact h
          · have h5 := h.pos; have h6 := HO.out.1; omega
        have hn3 : n3 = 0 := by rw [HP2.out.1, hrn]; rfl
        subst hn3
        have ht0 : t = 0 := by
          have h5 := HT2.out
          rw [hrn, show L = [] from List.length_eq_zero_iff.1 (by have := HO.out.1; omega)] at h5
          rcases h5 with ⟨_, h⟩ | ⟨_, _, h⟩
          · exact h
          · exact h
        subst ht0
        have HONE1 := Lib.hid (HONE.out w2 HB2.out.size)
        have HB1x := Lib.hid (HB2.out.alloc HB2.out.size (.cells #[.int .i64 1] 3))
        go_wp2_with fail
        refine HONE1.out.mono ?_
        rintro e w5 ⟨r1, hr1, B1, m1, d1, rfl, ho1, hb5⟩
        have hm1 : m1 = 1 := by rw [ho1.1, cut_one hr1]
        subst hm1
        have HB5 := Lib.hid (HB1x.out.trans (hb5.mono HB1x.out.size))
        clear ho1 hb5
        go_wp2_with fail
        go_ret
        exact ⟨rfl, HB5.out⟩
      have hki0 : ¬ (k : Int) = 0 := by omega
      have hL := HZ.out
      obtain ⟨m, hm⟩ : ∃ m : Nat, L.length = m + 1 := ⟨L.length - 1, by have := HO.out.1; omega⟩
      have HM := Lib.hid hm
      have HF := Lib.hid (show Fit L mo from ⟨by omega, by have := HO.out.1; omega, hmo1, by omega, HZ.out⟩)
      have HC2 := Lib.hid (show ∃ b, Least L m mo b ∧ r = natI (ends b L m) from by
        rcases HR.out with ⟨h, _⟩ | ⟨_, b, hb, e⟩
        · exact absurd HF.out h
        · rw [hm, Nat.add_sub_cancel] at hb e; exact ⟨b, hb, e⟩)
      obtain ⟨b, hbl, hre⟩ := HC2.out
      have hbm := hbl.le
      have HBL := Lib.hid hbl
      have HRE := Lib.hid hre
      clear HR HC2 hbl hre hL
      have HZ30 := Lib.hid (show Sized L 1073741824 from fun i => by have := HZ.out i; omega)
      have hnm : m + 1 = k := by rw [← hm]; exact HO.out.1.symm
      clear hm
      have HG := Lib.hid (top_cut HM.out HZ30.out HBL.out (by rw [← HRE.out]; exact HT2.out))
      rw [HG.out]
      clear HT2
      have hn3 : n3 ≤ 70000 := by have h5 := HP2.out.1; have h6 := ends_le b L m; rw [← HRE.out] at h6; have h8 := HF.out.len; omega
      have HLN := Lib.hid (show n3 = (ends b L m).length by rw [HP2.out.1, HRE.out, natI_length])
      have hn3p : 0 < n3 := by rw [HLN.out, ends_len]; unfold many; omega
      have HPC := Lib.hid (fun j hj => ends_pieces b L HBL.out.each m j hj)
      obtain ⟨b3, o3, rfl, hbl3, hcell3⟩ := HP2.out.src (by rw [← HP2.out.1]; exact hn3p)
      have HC3 := Lib.hid (show ∀ j, j < n3 → w2.cell? ⟨b3, o3 + j, none⟩ = some (.int .i64 ((ends b L m).getD j 0 : Nat)) from fun j hj => by
        rw [hcell3 j (by rw [← HP2.out.1]; exact hj), HRE.out, natI_at])
      obtain ⟨bL, oL, rfl, hblL, hcellL⟩ := HO2.out.src (by have := HM.out; omega)
      have HCL := Lib.hid hcellL
      have ce := HC3.out (n3 - 1) (by omega)
      rw [(HPC.out (n3 - 1) (by have := HLN.out; omega)).2.2.2.2 (by have := HLN.out; omega), hnm] at ce
      clear hcell3 hcellL
      have h31 : ¬ (n3 : Int) = 0 := by omega
      have h32 : n3 - 1 < n3 := by omega
      have h33 : (0 : Int) ≤ (n3 : Int) - 1 := by omega
      have h34 : ¬ b > mo := by omega
      have h35 : ((n3 : Int) == 0) = false := beq_false_of_ne h31
      have h36 : decide (mo < b) = false := decide_eq_false h34
      go_wp2_with fail
      go_loopw [9, 10] (fun fv kv wr => FullAt w2 (ends b L m) fv kv wr) (fun _ k _ => n3 - (intOf k).toNat)
      case atStart => exact ⟨0, Nat.zero_le _, rfl, rfl, rfl⟩
      case round =>
        obtain ⟨q, hq, rfl, rfl, rfl⟩ := hrel
        clear ce
        by_cases hlt3 : q < n3
        · have cq := HC3.out q hlt3
          obtain ⟨p1, p2, p3, p4, p5⟩ := HPC.out q (by have := HLN.out; omega)
          have HNX := Lib.hid (prev_next (ends b L m) q)
          obtain ⟨e, he⟩ : ∃ e, (ends b L m).getD q 0 = e := ⟨_, rfl⟩
          obtain ⟨p, hp⟩ : ∃ p, prev (ends b L m) q = p := ⟨_, rfl⟩
          rw [he] at cq p1 p2 p3 p4 HNX
          rw [hp] at p1 p3 p4
          rw [hp]
          have P3 := Lib.hid p3
          have P4 := Lib.hid p4
          clear p3 p4 p5 he hp
          have p2' : (e : Int) ≤ (k : Int) := by omega
          have p1' : (p : Int) < (e : Int) := by omega
          go_wp2_with fail
          go_loopw [11, 12] (fun sv iv wr => SegAt w2 L p e sv iv wr) (fun _ i _ => e - (intOf i).toNat)
          case atStart => exact ⟨p, 0, Nat.le_refl _, by omega, rfl, rfl, (seg_none L p).symm, by omega, by omega, rfl⟩
          case round =>
            obtain ⟨i, s, hpi, hie, rfl, rfl, hse, hs0, hs1, rfl⟩ := hrel
            have HSE := Lib.hid hse
            clear hse
            by_cases hlt4 : i < e
            · have c0 := HCL.out i (by have := HM.out; omega)
              have hx := HZ.out i
              have HN4 := Lib.hid (seg_next L hpi)
              have hiN : i < k := by omega
              obtain ⟨x, hxe⟩ : ∃ x, L.getD i 0 = x := ⟨_, rfl⟩
              rw [hxe] at c0 hx HN4
              clear hxe
              go_wp2_with fail
              go_roundw
              case rel => exact ⟨i + 1, s + x, by omega, by omega, by go_num, rfl, by rw [HN4.out, HSE.out], by omega, by omega, rfl⟩
              case measure => simp [intOf]; omega
            · obtain rfl : i = e := by omega
              have hsb : ¬ s > b := by have := P3.out; rw [← HSE.out] at this; omega
              by_cases hem : i < k
              · have c0 := HCL.out i (by have := HM.out; omega)
                have hx := HZ.out i
                have hmo5 := P4.out (by omega)
                rw [← HSE.out] at hmo5
                obtain ⟨x, hxe⟩ : ∃ x, L.getD i 0 = x := ⟨_, rfl⟩
                rw [hxe] at c0 hx hmo5
                clear hxe
                have hmo6 : ¬ s + x ≤ b := by omega
                have hemi : (i : Int) < (k : Int) := by omega
                go_wp2_with fail
                exact ⟨⟨u4, .int .i64 (i : Int), .int .i64 ((q : Int) + 1), ⟨q + 1, by have := HLN.out; omega, by go_num, by rw [HNX.out], rfl⟩, rfl, rfl, rfl⟩, by simp [intOf]; omega⟩
              · have hemi : ¬ (i : Int) < (k : Int) := by omega
                go_wp2_with fail
                exact ⟨⟨u4, .int .i64 (i : Int), .int .i64 ((q : Int) + 1), ⟨q + 1, by have := HLN.out; omega, by go_num, by rw [HNX.out], rfl⟩, rfl, rfl, rfl⟩, by simp [intOf]; omega⟩
        · obtain rfl : q = n3 := by have := HLN.out; omega
          go_wp2_with fail
          go_ret
          exact ⟨rfl, HB2.out⟩
end Part
end Go.Proofs.Ytejcpfplmlpilaa

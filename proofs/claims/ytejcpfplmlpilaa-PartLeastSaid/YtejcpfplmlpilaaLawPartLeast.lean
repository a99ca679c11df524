/- PartLeast: its walk, for any sizes and any bound. No conditions but those that stand in each lemma. -/
import Derived.Test.YtejcpfplmlpilaaPartRow
namespace Go.Proofs.Ytejcpfplmlpilaa
open Go.RowKit
namespace Part

theorem pow_wrap : ∀ m : Nat, m ≤ 8 → wrap64 ((2 : Int) ^ m) = ((2 ^ m : Nat) : Int) ∧ 2 ^ m ≤ 256 := by
  intro m hm
  have : m = 0 ∨ m = 1 ∨ m = 2 ∨ m = 3 ∨ m = 4 ∨ m = 5 ∨ m = 6 ∨ m = 7 ∨ m = 8 := by omega
  rcases this with rfl | rfl | rfl | rfl | rfl | rfl | rfl | rfl | rfl <;> decide +kernel
theorem bit_mask (c j : Nat) : bits .and .i64 ((c : Int) / 2 ^ j) 1 = ((c / 2 ^ j % 2 : Nat) : Int) := by
  have e : ((c : Int) / 2 ^ j) = ((c / 2 ^ j : Nat) : Int) := by rw [Int.natCast_ediv, Int.natCast_pow]; rfl
  rw [e]
  generalize c / 2 ^ j = k
  have e1 : bits .and .i64 (k : Int) 1 = IntKind.i64.wrap ((BitVec.ofInt 64 (k : Int) &&& BitVec.ofInt 64 ((1 : Nat) : Int)).toNat : Int) := rfl
  rw [e1, BitVec.toNat_and, BitVec.ofInt_natCast, BitVec.ofInt_natCast, BitVec.toNat_ofNat, BitVec.toNat_ofNat, Nat.mod_eq_of_lt (by decide : 1 < 2 ^ 64), Nat.and_one_is_mod, IntKind.wrap_i64]
  omega
theorem bit_yes {c i : Nat} (h : mask c i = true) : bits .and .i64 ((c : Int) / 2 ^ (i - 1)) 1 = 1 := by
  unfold mask at h
  rw [decide_eq_true_eq] at h
  rw [bit_mask, h]; rfl
theorem bit_no {c i : Nat} (h : ¬ mask c i = true) : bits .and .i64 ((c : Int) / 2 ^ (i - 1)) 1 = 0 := by
  unfold mask at h
  rw [decide_eq_true_eq] at h
  rw [bit_mask, show c / 2 ^ (i - 1) % 2 = 0 by omega]; rfl
theorem max_if (a b : Int) : (if a < b then b else a) = max a b := by split <;> omega
/-- At a round's head, of the look through all ways. -/
def LeastAt (w : World) (l : List Int) (m M : Nat) (most : Int) (fv gv cv : Value) (wr : World) : Prop :=
  ∃ (c : Nat) (f g : Int), c ≤ M ∧ cv = .int .i64 (c : Int) ∧ fv = .int .i64 f ∧ gv = .int .i64 g ∧ Look l m most c f g ∧ Below w.heap.size w wr
/-- .. of one way. -/
def WayAt (w : World) (l : List Int) (c : Nat) (nv sv tv iv : Value) (wr : World) : Prop :=
  ∃ (i p : Nat) (s t : Int), 1 ≤ i ∧ i ≤ l.length ∧ iv = .int .i64 (i : Int) ∧ nv = .int .i64 (p : Int) ∧ sv = .int .i64 s ∧ tv = .int .i64 t ∧ stT (mask c) l (i - 1) = (p, s, t) ∧ p ≤ i ∧ 0 ≤ s ∧ s ≤ t ∧ t ≤ 64 * (i : Int) ∧ Below w.heap.size w wr
set_option maxRecDepth 100000 in
set_option maxHeartbeats 8000000 in
theorem least_any (A : Option Addr) (n cp : Nat) (l : List Int) (most : Int) (m : Nat) (w : World) (hn : n = l.length) (hm : l.length = m + 1) (hs : NumSrc w A l) (hl : n ≤ 9) (hz : Sized l 64) :
    Calls Try.prog 11 #[.slice A n cp, .int .i64 most] w fun e w' => ∃ f g : Int, Look l m most (2 ^ m) f g ∧ e = .returned (.tuple #[.int .i64 f, .int .i64 g]) ∧ Below w.heap.size w w' := by
  obtain rfl : n = m + 1 := by omega
  have Hn := Lib.hid hn
  have Hs := Lib.hid hs
  have HZ := Lib.hid hz
  have hm8 : m ≤ 8 := by omega
  obtain ⟨b0, o, rfl, hbl, hcell⟩ := hs (by omega)
  have HC := Lib.hid hcell
  clear hn hs hz hcell hm
  obtain ⟨hpw, hM⟩ := pow_wrap m hm8
  obtain ⟨M, hMe⟩ : ∃ M, 2 ^ m = M := ⟨_, rfl⟩
  rw [hMe] at hpw hM
  have HM := Lib.hid hMe
  rw [hMe]
  clear hMe
  go_enter Try.func11, Try.ntmps11
  go_wp2_with fail
  go_loopw [6, 7, 8] (fun fv gv cv wr => LeastAt w l m M most fv gv cv wr) (fun _ _ c _ => M - (intOf c).toNat)
  case atStart => exact ⟨0, 99, 0, Nat.zero_le _, rfl, rfl, rfl, Look.start l m most, Below.refl _ _⟩
  case round =>
    obtain ⟨c, f, g, hc, rfl, rfl, rfl, hlk, hb⟩ := hrel
    have HLK := Lib.hid hlk
    clear hlk
    by_cases hlt : c < M
    · have cz : wr.cell? ⟨b0, o, none⟩ = some (.int .i64 (l.getD 0 0)) := (hb.cell (p := ⟨b0, o, none⟩) hbl).trans (HC.out 0 (by have := Hn.out; omega))
      have hz0 := HZ.out 0
      have HST := Lib.hid (show stT (mask c) l 0 = (1, l.getD 0 0, l.getD 0 0) from rfl)
      generalize l.getD 0 0 = z at *
      go_wp2_with fail
      go_quiet (fail)
      have hbd := below_drewN hb nq
      generalize wr.drewN nq = wd at *
      clear cz hb
      go_wp2_with fail
      go_loopw [9, 10, 11, 12] (fun nv sv tv iv wr => WayAt w l c nv sv tv iv wr) (fun _ _ _ i _ => m + 1 - (intOf i).toNat)
      case atStart => exact ⟨1, 1, z, z, Nat.le_refl _, by have := Hn.out; omega, rfl, rfl, rfl, rfl, HST.out, Nat.le_refl _, hz0.1, Int.le_refl _, by omega, hbd⟩
      case round =>
        obtain ⟨i, p, s, t, hi1, hi, rfl, rfl, rfl, rfl, hst, hp, hs0, hst0, ht, hbw⟩ := hrel
        have HS := Lib.hid hst
        clear hst
        by_cases hlt2 : i < l.length
        · have c0 : wr.cell? ⟨b0, o + i, none⟩ = some (.int .i64 (l.getD i 0)) := (hbw.cell (p := ⟨b0, o + i, none⟩) hbl).trans (HC.out i hlt2)
          have hin : i < m + 1 := by have := Hn.out; omega
          have hii : (i : Int) < (m : Int) + 1 := by omega
          have hx := HZ.out i
          have HCU := Lib.hid (st_cut (mask c) l (i - 1))
          have HON := Lib.hid (st_on (mask c) l (i - 1))
          rw [show i - 1 + 1 = i by omega, HS.out] at HCU HON
          obtain ⟨x, hxe⟩ : ∃ x, l.getD i 0 = x := ⟨_, rfl⟩
          rw [hxe] at c0 hx HCU HON
          clear hxe
          by_cases hm : mask c i = true
          · have hbit := bit_yes hm
            have HE := Lib.hid (HCU.out hm)
            have HM2 : 0 ≤ max t x ∧ x ≤ max t x ∧ max t x ≤ 64 * (i : Int) + 64 := by omega
            clear hm HCU HON
            go_wp2_with fail
            go_roundw
            case rel => exact ⟨i + 1, p + 1, x, max t x, by omega, by omega, by go_num, by go_num, rfl, by rw [max_if], by rw [show i + 1 - 1 = i by omega]; exact HE.out, by omega, by omega, HM2.2.1, by omega, hbw⟩
            case measure => simp [intOf]; omega
          · have hbit := bit_no hm
            have HE := Lib.hid (HON.out hm)
            have HM2 : 0 ≤ max t (s + x) ∧ s + x ≤ max t (s + x) ∧ max t (s + x) ≤ 64 * (i : Int) + 64 := by omega
            clear hm HCU HON
            go_wp2_with fail
            go_roundw
            case rel => exact ⟨i + 1, p, s + x, max t (s + x), by omega, by omega, by go_num, rfl, rfl, by rw [max_if], by rw [show i + 1 - 1 = i by omega]; exact HE.out, by omega, by omega, HM2.2.1, by omega, hbw⟩
            case measure => simp [intOf]; omega
        · obtain rfl : i = m + 1 := by have := Hn.out; omega
          have hS := HS.out
          rw [Nat.add_sub_cancel] at hS
          have HYES := Lib.hid (show t ≤ most → ((p : Int) < f ∨ ((p : Int) = f ∧ t < g)) → Look l m most (c + 1) (p : Int) t from fun g1 g2 => by
            have h := HLK.out.yes (by rw [hS]; exact g1) (by rw [hS]; exact g2)
            rw [hS] at h
            exact h)
          have HNO := Lib.hid (show ¬ (t ≤ most ∧ ((p : Int) < f ∨ ((p : Int) = f ∧ t < g))) → Look l m most (c + 1) f g from fun g1 => HLK.out.no (by rw [hS]; exact g1) (by rw [hS]; omega))
          clear hS HS HLK
          by_cases g1 : t ≤ most
          · by_cases g2 : (p : Int) < f
            · have HLK := Lib.hid (HYES.out g1 (.inl g2))
              clear HYES HNO
              go_wp2_with fail
              go_roundw
              case rel => exact ⟨c + 1, p, t, by omega, by go_num, rfl, rfl, HLK.out, hbw⟩
              case measure => simp [intOf]; omega
            · by_cases g3 : (p : Int) = f
              · by_cases g4 : t < g
                · have HLK := Lib.hid (HYES.out g1 (.inr ⟨g3, g4⟩))
                  clear HYES HNO
                  subst g3
                  clear g2
                  go_wp2_with fail
                  go_roundw
                  case rel => exact ⟨c + 1, p, t, by omega, by go_num, rfl, rfl, HLK.out, hbw⟩
                  case measure => simp [intOf]; omega
                · have HLK := Lib.hid (HNO.out (by omega))
                  clear HYES HNO
                  subst g3
                  clear g2
                  go_wp2_with fail
                  go_roundw
                  case rel => exact ⟨c + 1, p, g, by omega, by go_num, rfl, rfl, HLK.out, hbw⟩
                  case measure => simp [intOf]; omega
              · have HLK := Lib.hid (HNO.out (by omega))
                clear HYES HNO
                go_wp2_with fail
                go_roundw
                case rel => exact ⟨c + 1, f, g, by omega, by go_num, rfl, rfl, HLK.out, hbw⟩
                case measure => simp [intOf]; omega
          · have HLK := Lib.hid (HNO.out (by omega))
            clear HYES HNO
            go_wp2_with fail
            go_roundw
            case rel => exact ⟨c + 1, f, g, by omega, by go_num, rfl, rfl, HLK.out, hbw⟩
            case measure => simp [intOf]; omega
    · obtain rfl : c = M := by omega
      go_wp2_with fail
      go_ret2
      exact ⟨f, g, HLK.out, rfl, hb⟩

set_option maxRecDepth 100000 in
set_option maxHeartbeats 8000000 in
theorem least_law (A : Option Addr) (n c : Nat) (l : List Int) (most : Int) (w : World) (hn : n = l.length) (hs : NumSrc w A l) (hnc : n ≤ c) (hc : c ≤ maxLen) (hm : (Lit.int .i64 most).wf = true) :
    Calls Try.prog 4 #[.slice A n c, .int .i64 most] w fun e w' => e = .returned (.bool true) ∧ Below w.heap.size w w' := by
  have hmb := bounds_i64 hm
  have hN := mask_and most 63 (by omega)
  rw [show ((63 : Nat) : Int) = 63 from rfl] at hN
  obtain ⟨mo, hmo, hmo1, hmo2⟩ : ∃ mo : Int, 1 + bits .and .i64 most 63 = mo ∧ 1 ≤ mo ∧ mo ≤ 64 := ⟨_, rfl, by omega, by omega⟩
  unfold maxLen at hc
  have Hn := Lib.hid hn
  have Hs := Lib.hid hs
  clear hn hs hm hmb
  have HONE := Lib.hid (fun w1 (h1 : w.heap.size ≤ w1.heap.size) => cut_any (some ⟨w1.heap.size, 0, none⟩) 1 1 [1] 1 _ rfl (row_nums (Row.new w1 3 #[.int .i64 1]) rfl) (by omega))
  by_cases h1 : n > 9
  · have Hs' := Lib.hid (show NumSrc w A (l.take 9) from NumSrc.take Hs.out 9)
    have Hn' := Lib.hid (show 9 = (l.take 9).length by rw [List.length_take]; have := Hn.out; omega)
    have h1i : (9 : Int) < (n : Int) := by omega
    go_enter Try.func4, Try.ntmps4
    go_wp2_with fail
    have hmoE := Lib.hid hmo
    clear hmo hN
    go_loopw [5, 6] (fun lv iv wr => RowAt w 9 mo lv iv wr) (fun _ i _ => 9 - (intOf i).toNat)
    case atStart => exact ⟨0, [], none, 0, Nat.zero_le _, rfl, rfl, IOwn.nil _ _, fun x hx => by (cases hx), Below.refl _ _⟩
    case round =>
      obtain ⟨k, L, A2, c2, hk, rfl, rfl, ho, hL, hbw⟩ := hrel
      have HO := Lib.hid ho
      have HL := Lib.hid hL
      have hszr := hbw.size
      clear ho hL
      by_cases hlt : k < 9
      · obtain ⟨b0, o, rfl, hbl, hcell⟩ := Hs'.out (by have := Hn'.out; omega)
        have c0 : wr.cell? ⟨b0, o + k, none⟩ = some (.int .i64 ((l.take 9).getD k 0)) := (hbw.cell (p := ⟨b0, o + k, none⟩) hbl).trans (hcell k (by have := Hn'.out; omega))
        clear hcell
        generalize (l.take 9).getD k 0 = x at *
        have hx := mask_and x 63 (by omega)
        rw [show ((63 : Nat) : Int) = 63 from rfl] at hx
        have hki : (k : Int) < 9 := by omega
        have hv0 : 0 ≤ bits .and .i64 x 63 % (mo + 1) := Int.emod_nonneg _ (by omega)
        have hv1 : bits .and .i64 x 63 % (mo + 1) ≤ mo := by have := Int.emod_lt_of_pos (bits .and .i64 x 63) (show 0 < mo + 1 by omega); omega
        have HV := Lib.hid (row_more HL.out hv0 hv1)
        go_wp2_with (at_builtin; refine wpList_append_i rfl _ _ rfl w.heap.size A2 k c2 L rfl (HO.out.keep ((Below.refl _ _).alloc (Nat.le_refl _) _)) _ _ _ rfl (Row.new wr _ _) (by omega) (by simp; omega) ?_; rintro A4 cc4 w4 ho4 hb4 hsz4; have HO4 := Lib.hid ho4; have HB4 := Lib.hid ((hbw.alloc hszr _).trans hb4); clear ho4 hb4)
        go_roundw
        case rel => exact ⟨k + 1, _, A4, cc4, by omega, by go_num, rfl, HO4.out, HV.out, HB4.out⟩
        case measure => simp [intOf]; omega
      obtain rfl : k = 9 := by omega
      have HZ := Lib.hid (sized_mem HL.out (by omega))
      go_wp2_with fail
      refine (cut_any A2 9 c2 L mo wr HO.out.1 HO.out.src (by omega)).mono ?_
      rintro e w1 ⟨r, hr, A3, n3, c3, rfl, ho3, hb3⟩
      have HR := Lib.hid hr
      have HP1 := Lib.hid ho3
      have HO1 := Lib.hid (HO.out.keep hb3)
      have HB1 := Lib.hid (hbw.trans (hb3.mono hszr))
      clear hr ho3 hb3
      have hL := HZ.out
      obtain ⟨m, hm⟩ : ∃ m : Nat, L.length = m + 1 := ⟨L.length - 1, by have := HO.out.1; omega⟩
      have HM := Lib.hid hm
      have HF := Lib.hid (show Fit L mo from ⟨by omega, by have := HO.out.1; omega, hmo1, by omega, HZ.out⟩)
      have HC2 := Lib.hid (show ∃ b, Least L m mo b ∧ r = natI (ends b L m) from by
        rcases HR.out with ⟨h, _⟩ | ⟨_, b, hb, e⟩
        · exact absurd HF.out h
        · rw [hm, Nat.add_sub_cancel] at hb e; exact ⟨b, hb, e⟩)
      obtain ⟨b, hbl, hre⟩ := HC2.out
      have HBL := Lib.hid hbl
      have HRE := Lib.hid hre
      clear HR HC2 hbl hre hm hL
      have HZ64 := Lib.hid (show Sized L 64 from fun i => by have := HZ.out i; omega)
      have HZ30 := Lib.hid (show Sized L 1073741824 from fun i => by have := HZ.out i; omega)
      go_wp2_with fail
      refine (least_any A2 9 c2 L mo m w1 HO1.out.1 HM.out HO1.out.src (by omega) HZ64.out).mono ?_
      rintro e w2 ⟨f, g, hlk, rfl, hb2⟩
      obtain ⟨hf, hg⟩ := hlk.all HZ.out.pos HM.out HBL.out
      have HG0 := Lib.hid hg
      clear hg
      have HB2 := Lib.hid (HB1.out.trans (hb2.mono HB1.out.size))
      have HO2 := Lib.hid (HO1.out.keep hb2)
      have HP2 := Lib.hid (HP1.out.keep hb2)
      have HFN := Lib.hid (show f = (n3 : Int) by rw [hf, HP1.out.1, HRE.out, ends_count])
      rw [HFN.out]
      clear hlk hf hb2 HO1 HP1 HFN
      have hn3 : n3 ≤ 70000 := by have h5 := HP2.out.1; have h6 := ends_le b L m; rw [← HRE.out] at h6; have h7 := HM.out; have h8 := HF.out.len; omega
      go_wp2_with fail
      refine (great_any A2 9 c2 L A3 n3 c3 r w2 HO2.out.1 HO2.out.src (by omega) HO2.out.2.cap.1 HP2.out.1 HP2.out.src (by omega)).mono ?_
      rintro e w3 ⟨t, ht, rfl, hb3⟩
      have HG := Lib.hid (show t = g by rw [HG0.out]; exact top_cut HM.out HZ30.out HBL.out (by rw [← HRE.out]; exact ht))
      rw [HG.out]
      have HB3 := Lib.hid (HB2.out.trans (hb3.mono HB2.out.size))
      clear ht hb3
      go_wp2_with fail
      go_ret
      exact ⟨rfl, HB3.out⟩
  · have Hs' := Hs
    have Hn' := Hn
    have h1i : (n : Int) ≤ 9 := by omega
    go_enter Try.func4, Try.ntmps4
    go_wp2_with fail
    have hmoE := Lib.hid hmo
    clear hmo hN
    go_loopw [5, 6] (fun lv iv wr => RowAt w n mo lv iv wr) (fun _ i _ => n - (intOf i).toNat)
    case atStart => exact ⟨0, [], none, 0, Nat.zero_le _, rfl, rfl, IOwn.nil _ _, fun x hx => by (cases hx), Below.refl _ _⟩
    case round =>
      obtain ⟨k, L, A2, c2, hk, rfl, rfl, ho, hL, hbw⟩ := hrel
      have HO := Lib.hid ho
      have HL := Lib.hid hL
      have hszr := hbw.size
      clear ho hL
      by_cases hlt : k < n
      · obtain ⟨b0, o, rfl, hbl, hcell⟩ := Hs'.out (by have := Hn'.out; omega)
        have c0 : wr.cell? ⟨b0, o + k, none⟩ = some (.int .i64 ((l).getD k 0)) := (hbw.cell (p := ⟨b0, o + k, none⟩) hbl).trans (hcell k (by have := Hn'.out; omega))
        clear hcell
        generalize (l).getD k 0 = x at *
        have hx := mask_and x 63 (by omega)
        rw [show ((63 : Nat) : Int) = 63 from rfl] at hx
        have hki : (k : Int) < (n : Int) := by omega
        have hv0 : 0 ≤ bits .and .i64 x 63 % (mo + 1) := Int.emod_nonneg _ (by omega)
        have hv1 : bits .and .i64 x 63 % (mo + 1) ≤ mo := by have := Int.emod_lt_of_pos (bits .and .i64 x 63) (show 0 < mo + 1 by omega); omega
        have HV := Lib.hid (row_more HL.out hv0 hv1)
        go_wp2_with (at_builtin; refine wpList_append_i rfl _ _ rfl w.heap.size A2 k c2 L rfl (HO.out.keep ((Below.refl _ _).alloc (Nat.le_refl _) _)) _ _ _ rfl (Row.new wr _ _) (by omega) (by simp; omega) ?_; rintro A4 cc4 w4 ho4 hb4 hsz4; have HO4 := Lib.hid ho4; have HB4 := Lib.hid ((hbw.alloc hszr _).trans hb4); clear ho4 hb4)
        go_roundw
        case rel => exact ⟨k + 1, _, A4, cc4, by omega, by go_num, rfl, HO4.out, HV.out, HB4.out⟩
        case measure => simp [intOf]; omega
      obtain rfl : k = n := by omega
      have HZ := Lib.hid (sized_mem HL.out (by omega))
      go_wp2_with fail
      refine (cut_any A2 k c2 L mo wr HO.out.1 HO.out.src (by omega)).mono ?_
      rintro e w1 ⟨r, hr, A3, n3, c3, rfl, ho3, hb3⟩
      have HR := Lib.hid hr
      have HP1 := Lib.hid ho3
      have HO1 := Lib.hid (HO.out.keep hb3)
      have HB1 := Lib.hid (hbw.trans (hb3.mono hszr))
      clear hr ho3 hb3
      rcases Nat.eq_zero_or_pos k with h0 | h0
      · subst h0
        have hrn : r = [] := by
          rcases HR.out with ⟨_, h⟩ | ⟨h, _⟩
          · exact h
          · have h5 := h.pos; have h6 := HO.out.1; omega
        have hn3 : n3 = 0 := by rw [HP1.out.1, hrn]; rfl
        subst hn3
        have HONE1 := Lib.hid (HONE.out w1 HB1.out.size)
        have HB1x := Lib.hid (HB1.out.alloc HB1.out.size (.cells #[.int .i64 1] 3))
        go_wp2_with fail
        refine HONE1.out.mono ?_
        rintro e w2 ⟨r1, hr1, B1, m1, d1, rfl, ho1, hb2⟩
        have hm1 : m1 = 1 := by rw [ho1.1, cut_one hr1]
        subst hm1
        have HB2 := Lib.hid (HB1x.out.trans (hb2.mono HB1x.out.size))
        clear ho1 hb2
        go_wp2_with fail
        go_ret
        exact ⟨rfl, HB2.out⟩
      have hki0 : ¬ (k : Int) = 0 := by omega
      have hL := HZ.out
      obtain ⟨m, hm⟩ : ∃ m : Nat, L.length = m + 1 := ⟨L.length - 1, by have := HO.out.1; omega⟩
      have HM := Lib.hid hm
      have HF := Lib.hid (show Fit L mo from ⟨by omega, by have := HO.out.1; omega, hmo1, by omega, HZ.out⟩)
      have HC2 := Lib.hid (show ∃ b, Least L m mo b ∧ r = natI (ends b L m) from by
        rcases HR.out with ⟨h, _⟩ | ⟨_, b, hb, e⟩
        · exact absurd HF.out h
        · rw [hm, Nat.add_sub_cancel] at hb e; exact ⟨b, hb, e⟩)
      obtain ⟨b, hbl, hre⟩ := HC2.out
      have HBL := Lib.hid hbl
      have HRE := Lib.hid hre
      clear HR HC2 hbl hre hm hL
      have HZ64 := Lib.hid (show Sized L 64 from fun i => by have := HZ.out i; omega)
      have HZ30 := Lib.hid (show Sized L 1073741824 from fun i => by have := HZ.out i; omega)
      go_wp2_with fail
      refine (least_any A2 k c2 L mo m w1 HO1.out.1 HM.out HO1.out.src (by omega) HZ64.out).mono ?_
      rintro e w2 ⟨f, g, hlk, rfl, hb2⟩
      obtain ⟨hf, hg⟩ := hlk.all HZ.out.pos HM.out HBL.out
      have HG0 := Lib.hid hg
      clear hg
      have HB2 := Lib.hid (HB1.out.trans (hb2.mono HB1.out.size))
      have HO2 := Lib.hid (HO1.out.keep hb2)
      have HP2 := Lib.hid (HP1.out.keep hb2)
      have HFN := Lib.hid (show f = (n3 : Int) by rw [hf, HP1.out.1, HRE.out, ends_count])
      rw [HFN.out]
      clear hlk hf hb2 HO1 HP1 HFN
      have hn3 : n3 ≤ 70000 := by have h5 := HP2.out.1; have h6 := ends_le b L m; rw [← HRE.out] at h6; have h7 := HM.out; have h8 := HF.out.len; omega
      go_wp2_with fail
      refine (great_any A2 k c2 L A3 n3 c3 r w2 HO2.out.1 HO2.out.src (by omega) HO2.out.2.cap.1 HP2.out.1 HP2.out.src (by omega)).mono ?_
      rintro e w3 ⟨t, ht, rfl, hb3⟩
      have HG := Lib.hid (show t = g by rw [HG0.out]; exact top_cut HM.out HZ30.out HBL.out (by rw [← HRE.out]; exact ht))
      rw [HG.out]
      have HB3 := Lib.hid (HB2.out.trans (hb3.mono HB2.out.size))
      clear ht hb3
      go_wp2_with fail
      go_ret
      exact ⟨rfl, HB3.out⟩
end Part
end Go.Proofs.Ytejcpfplmlpilaa

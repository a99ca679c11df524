/- DiskFuses, for any two numbers: true; nothing that was there is written. -/
import Derived.Test.YtehanjhgjbclhaaNew
namespace Go.Proofs.Ytehanjhgjbclhaa
open Go.RowKit Go.Maps

theorem mask_any (x : Int) (q : Nat) (hq : q < 256) : ∃ m : Nat, m ≤ q ∧ bits .and .i64 x q = m := by
  refine ⟨((BitVec.ofInt 64 x) &&& (BitVec.ofInt 64 q)).toNat, ?_, ?_⟩
  · rw [BitVec.toNat_and]
    refine Nat.le_trans Nat.and_le_right ?_
    rw [BitVec.toNat_ofInt]
    omega
  · have h2 : ((BitVec.ofInt 64 x) &&& (BitVec.ofInt 64 q)).toNat ≤ q := by
      rw [BitVec.toNat_and]
      refine Nat.le_trans Nat.and_le_right ?_
      rw [BitVec.toNat_ofInt]
      omega
    show IntKind.i64.wrap ((((BitVec.ofInt 64 x) &&& (BitVec.ofInt 64 q)).toNat : Nat) : Int) = _
    generalize ((BitVec.ofInt 64 x) &&& (BitVec.ofInt 64 q)).toNat = m at *
    rw [IntKind.wrap_i64]
    omega
theorem mask3 (i : Nat) (hi : i < 256) : bits .and .i64 i 3 = ((i % 4 : Nat) : Int) := by
  have h : ∀ i : Fin 256, bits .and .i64 ((i.val : Nat) : Int) 3 = ((i.val % 4 : Nat) : Int) := by decide +kernel
  exact h ⟨i, hi⟩
/-- How many writes and flushes are told in the first i rounds. -/
def usedI (i : Nat) : Nat := i + i / 3
def bigCells : Array Value := madeCells (Value.cells (.int .u8 0)) 513
theorem make_big (w : World) : (Instr.makeSlice 22 (.int .i64 513) (.int .i64 513)).run Try.prog w = .ok (.slice (some ⟨w.heap.size, 0, none⟩) 513 513) (w.alloc (.cells bigCells 5)) := by
  obtain ⟨i, hi, hz, hz1, hz2⟩ := info_parts Try.info5
  have := run_make (P := Try.prog) w 22 5 i _ Try.underlying22 hi hz .i64 .i64 513 513 (by omega) (by omega) (by rw [hz2]; omega) (by omega)
  rw [hz1] at this
  exact this

/-- At a round's head: i rounds are done, d of them with power. -/
def FusesAt (w : World) (N T p B M : Nat) (dv iv : Value) (wr : World) : Prop :=
  ∃ (i d k : Nat) (ls : List (List Int)) (D : DataW Unit), i ≤ T ∧ dv = .int .i64 d ∧ iv = .int .i64 i ∧ k ≤ i ∧ d + (N - usedI i) ≤ N ∧ (usedI i ≤ N → d = i) ∧
    Disk wr w.heap.size p B M 4 4 k ls D true ((N - usedI i : Nat) : Int) ∧ Below w.heap.size w wr

set_option maxRecDepth 100000 in
theorem fuses_any (x y : Int) (w : World) : Calls Try.prog 5 #[.int .i64 x, .int .i64 y] w fun e w' => e = .returned (.bool true) ∧ Below w.heap.size w w' := by
  obtain ⟨N, hN, e1⟩ := mask_any x 31 (by decide)
  obtain ⟨T, hT, e2⟩ := mask_any y 63 (by decide)
  rw [show ((31 : Nat) : Int) = 31 from rfl] at e1
  rw [show ((63 : Nat) : Int) = 63 from rfl] at e2
  have hn := new_any w 4 (by decide) (by decide)
  rw [show ((4 : Nat) : Int) = 4 from rfl] at hn
  go_enter Try.func5, Try.ntmps5
  go_wp2_with fail
  refine hn.mono ?_
  rintro e w1 ⟨p, B, M, rfl, hb1, hd⟩
  clear hn
  go_wp2_with fail
  refine (disk_fuse hd N (Int.natCast_nonneg _)).mono ?_
  rintro e w2 ⟨⟨v, rfl⟩, hb2, hz2, (⟨hc, _⟩ | ⟨_, hd2⟩)⟩
  · cases hc
  · have start : FusesAt w N T p B M (.int .i64 0) (.int .i64 0) w2 := ⟨0, 0, 0, _, _, by omega, rfl, rfl, by omega, by omega, fun _ => rfl, hd2, hb1.trans hb2⟩
    clear hd hb1 hb2 hz2 hd2 e1 e2
    go_wp2_with fail
    go_loopw [7, 8] (fun dv iv wr => FusesAt w N T p B M dv iv wr) (fun _ iv _ => T - (intOf iv).toNat)
    case atStart => exact start
    case round =>
      clear start
      obtain ⟨i, d, k, ls, D, hi, rfl, rfl, hk, hd, hdi, hD, hb⟩ := hrel
      by_cases hlt : i < T
      · have gT : (i : Int) < T := by omega
        have m3 := mask3 i (by omega)
        obtain ⟨j, hj⟩ : ∃ j, i % 4 = j := ⟨_, rfl⟩
        rw [hj] at m3
        have j4 : (0 : Int) ≤ j ∧ (j : Int) < ((4 : Nat) : Int) := by omega
        have s1 : IntKind.i64.wrap ((i : Int) + 1) = ((i + 1 : Nat) : Int) := by rw [IntWalk.i64_in _ (by omega)]; omega
        obtain ⟨u, hu⟩ : ∃ u, IntKind.u8.wrap (i : Int) = u := ⟨_, rfl⟩
        have hb0 : Below wr.heap.size wr (wr.alloc (.cells #[.int .u8 u] 5)) := (Below.refl _ _).alloc (Nat.le_refl _) _
        have hD0 := Lib.hid (hD.keep hb0)
        have hs0 := Lib.hid (src_new wr u)
        have hB0 := Lib.hid (hb.trans (hb0.mono hb.size))
        have hmb := make_big
        have sd : IntKind.i64.wrap ((d : Int) + 1) = ((d + 1 : Nat) : Int) := by rw [IntWalk.i64_in _ (by omega)]; omega
        obtain ⟨q, hq⟩ : ∃ q : Nat, N - usedI i = q := ⟨_, rfl⟩
        have HN := Lib.hid hN
        have HT := Lib.hid hT
        have Hq := Lib.hid hq
        have Hj := Lib.hid j4
        have Hk := Lib.hid hk
        have Hd := Lib.hid hd
        have Hdi := Lib.hid hdi
        have Hlt := Lib.hid hlt
        rw [hq] at hD0
        clear hq hj hD hb hb0 j4 hk hd hdi hi hN hT hlt
        by_cases h3 : i % 3 = 2
        · have r3 : (i : Int).tmod 3 = 2 := by rw [Int.tmod_eq_emod_of_nonneg (by omega)]; omega
          have h3' := Lib.hid h3
          clear h3
          by_cases hq0 : q = 0
          · have _h := HN.out
            subst hq0
            go_wp2_with fail
            refine (write_cut hD0.out (Int.natCast_nonneg _) (by omega) j Hj.out _ 1 1 (by decide) rfl).mono ?_
            rintro e w3 ⟨rfl, hw3⟩
            have hd3 := Lib.hid hD0.out
            have hb3 := Lib.hid hB0.out
            rw [← hw3] at hd3 hb3
            clear hw3
            go_wp2_with fail
            refine (flush_cut hd3.out (Int.natCast_nonneg _) (by omega) (by simp)).mono ?_
            rintro e w4 ⟨rfl, hw4⟩
            have hd4 := Lib.hid hd3.out
            have hb4 := Lib.hid hb3.out
            rw [← hw4] at hd4 hb4
            clear hw4
            go_wp2_with fail
            refine (write_arg hd4.out 9 (by omega) _).mono ?_
            rintro e w5 ⟨rfl, hw5⟩
            have hd5 := Lib.hid hd4.out
            have hb5 := Lib.hid hb4.out
            rw [← hw5] at hd5 hb5
            clear hw5
            have hb6 := Lib.hid ((Below.refl w5.heap.size w5).alloc (Nat.le_refl _) (.cells bigCells 5))
            have hd6 := Lib.hid (hd5.out.keep hb6.out)
            have hB6 := Lib.hid (hb5.out.trans (hb6.out.mono hb5.out.size))
            go_wp2_with fail
            refine (write_big hd6.out 0 (by omega) _ 513 513 (by decide)).mono ?_
            rintro e w7 ⟨rfl, hw7⟩
            rw [← hw7] at hd6 hB6
            clear hw7 hb6
            go_wp2_with fail
            go_roundw
            case rel =>
              have c1 := Hq.out
              have c2 := Hk.out
              have c3 := Hd.out
              have c4 := Hdi.out
              have c5 := Hlt.out
              have c6 := h3'.out
              have eu : usedI (i + 1) = usedI i + 2 := by unfold usedI; omega
              have el : N - usedI (i + 1) = 0 := by omega
              exact ⟨i + 1, d, k, _, _, by omega, by go_num, by go_num, by omega, by omega, by omega, by rw [el]; exact hd6.out, hB6.out⟩
            case measure =>
              have := Hlt.out
              simp [intOf]; omega
          · by_cases hq1 : q = 1
            · have _h := HN.out
              have hq0 : (true && ((q : Int) == 0)) = false := by simp; omega
              have e3 : spentL true (q : Int) = ((q - 1 : Nat) : Int) := by simp [spentL]; omega
              have Hq0 := Lib.hid hq0
              have E3 := Lib.hid e3
              clear hq0 e3
              go_wp2_with fail
              refine (write_done hD0.out (Int.natCast_nonneg _) (by have := Hq.out; have := HN.out; omega) j Hj.out _ 1 1 [u] rfl hs0.out (by simp) Hq0.out (by have := Hk.out; have := HT.out; have := Hlt.out; omega)).mono ?_
              rintro e w3 ⟨rfl, hb3, hd3⟩
              rw [E3.out] at hd3
              have hd3 := Lib.hid hd3
              have hb3 := Lib.hid (hB0.out.trans hb3)
              go_wp2_with fail
              refine (flush_cut hd3.out (Int.natCast_nonneg _) (by omega) (by simp [hq1])).mono ?_
              rintro e w4 ⟨rfl, hw4⟩
              have hd4 := Lib.hid hd3.out
              have hb4 := Lib.hid hb3.out
              rw [← hw4] at hd4 hb4
              clear hw4
              go_wp2_with fail
              refine (write_arg hd4.out 9 (by omega) _).mono ?_
              rintro e w5 ⟨rfl, hw5⟩
              have hd5 := Lib.hid hd4.out
              have hb5 := Lib.hid hb4.out
              rw [← hw5] at hd5 hb5
              clear hw5
              have hb6 := Lib.hid ((Below.refl w5.heap.size w5).alloc (Nat.le_refl _) (.cells bigCells 5))
              have hd6 := Lib.hid (hd5.out.keep hb6.out)
              have hB6 := Lib.hid (hb5.out.trans (hb6.out.mono hb5.out.size))
              go_wp2_with fail
              refine (write_big hd6.out 0 (by omega) _ 513 513 (by decide)).mono ?_
              rintro e w7 ⟨rfl, hw7⟩
              rw [← hw7] at hd6 hB6
              clear hw7 hb6
              go_wp2_with fail
              go_roundw
              case rel =>
                have c1 := Hq.out
                have c2 := Hk.out
                have c3 := Hd.out
                have c4 := Hdi.out
                have c5 := Hlt.out
                have c6 := h3'.out
                have eu : usedI (i + 1) = usedI i + 2 := by unfold usedI; omega
                have el : N - usedI (i + 1) = q - 1 := by omega
                exact ⟨i + 1, d, k + 1, _, _, by omega, by go_num, by go_num, by omega, by omega, by omega, by rw [el]; exact hd6.out, hB6.out⟩
              case measure =>
                have := Hlt.out
                simp [intOf]; omega
            · have _h := HN.out
              have hq0 : (true && ((q : Int) == 0)) = false := by simp; omega
              have e3 : spentL true (q : Int) = ((q - 1 : Nat) : Int) := by simp [spentL]; omega
              have Hq0 := Lib.hid hq0
              have E3 := Lib.hid e3
              clear hq0 e3
              go_wp2_with fail
              refine (write_done hD0.out (Int.natCast_nonneg _) (by have := Hq.out; have := HN.out; omega) j Hj.out _ 1 1 [u] rfl hs0.out (by simp) Hq0.out (by have := Hk.out; have := HT.out; have := Hlt.out; omega)).mono ?_
              rintro e w3 ⟨rfl, hb3, hd3⟩
              rw [E3.out] at hd3
              have hd3 := Lib.hid hd3
              have hb3 := Lib.hid (hB0.out.trans hb3)
              have hq2 : (true && (((q - 1 : Nat) : Int) == 0)) = false := by simp; omega
              have e4 : spentL true ((q - 1 : Nat) : Int) = ((q - 2 : Nat) : Int) := by simp [spentL]; omega
              have Hq2 := Lib.hid hq2
              have E4 := Lib.hid e4
              clear hq2 e4
              go_wp2_with fail
              refine (flush_done hd3.out (Int.natCast_nonneg _) (by have := Hq.out; have := HN.out; omega) Hq2.out).mono ?_
              rintro e w4 ⟨rfl, hb4, hd4⟩
              rw [E4.out] at hd4
              have hd4 := Lib.hid hd4
              have hb4 := Lib.hid (hb3.out.trans hb4)
              go_wp2_with fail
              refine (write_arg hd4.out 9 (by omega) _).mono ?_
              rintro e w5 ⟨rfl, hw5⟩
              have hd5 := Lib.hid hd4.out
              have hb5 := Lib.hid hb4.out
              rw [← hw5] at hd5 hb5
              clear hw5
              have hb6 := Lib.hid ((Below.refl w5.heap.size w5).alloc (Nat.le_refl _) (.cells bigCells 5))
              have hd6 := Lib.hid (hd5.out.keep hb6.out)
              have hB6 := Lib.hid (hb5.out.trans (hb6.out.mono hb5.out.size))
              go_wp2_with fail
              refine (write_big hd6.out 0 (by omega) _ 513 513 (by decide)).mono ?_
              rintro e w7 ⟨rfl, hw7⟩
              rw [← hw7] at hd6 hB6
              clear hw7 hb6
              go_wp2_with fail
              go_roundw
              case rel =>
                have c1 := Hq.out
                have c2 := Hk.out
                have c3 := Hd.out
                have c4 := Hdi.out
                have c5 := Hlt.out
                have c6 := h3'.out
                have eu : usedI (i + 1) = usedI i + 2 := by unfold usedI; omega
                have el : N - usedI (i + 1) = q - 2 := by omega
                exact ⟨i + 1, d + 1, k + 1, _, _, by omega, by go_num, by go_num, by omega, by omega, by omega, by rw [el]; exact hd6.out, hB6.out⟩
              case measure =>
                have := Hlt.out
                simp [intOf]; omega
        · obtain ⟨r, hr⟩ : ∃ r : Nat, i % 3 = r := ⟨_, rfl⟩
          have r3 : (i : Int).tmod 3 = (r : Int) := by rw [Int.tmod_eq_emod_of_nonneg (by omega)]; omega
          have r2 : ((r : Int) == 2) = false := by simp; omega
          have r2' : ¬ (r = 2) := by omega
          have r2'' : ¬ ((r : Int) = 2) := by omega
          have h3' := Lib.hid h3
          clear h3 hr
          by_cases hq0 : q = 0
          · have _h := HN.out
            subst hq0
            go_wp2_with fail
            refine (write_cut hD0.out (Int.natCast_nonneg _) (by omega) j Hj.out _ 1 1 (by decide) rfl).mono ?_
            rintro e w3 ⟨rfl, hw3⟩
            have hd3 := Lib.hid hD0.out
            have hb3 := Lib.hid hB0.out
            rw [← hw3] at hd3 hb3
            clear hw3
            go_wp2_with fail
            refine (write_arg hd3.out 9 (by omega) _).mono ?_
            rintro e w5 ⟨rfl, hw5⟩
            have hd5 := Lib.hid hd3.out
            have hb5 := Lib.hid hb3.out
            rw [← hw5] at hd5 hb5
            clear hw5
            have hb6 := Lib.hid ((Below.refl w5.heap.size w5).alloc (Nat.le_refl _) (.cells bigCells 5))
            have hd6 := Lib.hid (hd5.out.keep hb6.out)
            have hB6 := Lib.hid (hb5.out.trans (hb6.out.mono hb5.out.size))
            go_wp2_with fail
            refine (write_big hd6.out 0 (by omega) _ 513 513 (by decide)).mono ?_
            rintro e w7 ⟨rfl, hw7⟩
            rw [← hw7] at hd6 hB6
            clear hw7 hb6
            go_wp2_with fail
            go_roundw
            case rel =>
              have c1 := Hq.out
              have c2 := Hk.out
              have c3 := Hd.out
              have c4 := Hdi.out
              have c5 := Hlt.out
              have c6 := h3'.out
              have eu : usedI (i + 1) = usedI i + 1 := by unfold usedI; omega
              have el : N - usedI (i + 1) = 0 := by omega
              exact ⟨i + 1, d, k, _, _, by omega, by go_num, by go_num, by omega, by omega, by omega, by rw [el]; exact hd6.out, hB6.out⟩
            case measure =>
              have := Hlt.out
              simp [intOf]; omega
          · have _h := HN.out
            have hq0 : (true && ((q : Int) == 0)) = false := by simp; omega
            have e3 : spentL true (q : Int) = ((q - 1 : Nat) : Int) := by simp [spentL]; omega
            have Hq0 := Lib.hid hq0
            have E3 := Lib.hid e3
            clear hq0 e3
            go_wp2_with fail
            refine (write_done hD0.out (Int.natCast_nonneg _) (by have := Hq.out; have := HN.out; omega) j Hj.out _ 1 1 [u] rfl hs0.out (by simp) Hq0.out (by have := Hk.out; have := HT.out; have := Hlt.out; omega)).mono ?_
            rintro e w3 ⟨rfl, hb3, hd3⟩
            rw [E3.out] at hd3
            have hd3 := Lib.hid hd3
            have hb3 := Lib.hid (hB0.out.trans hb3)
            go_wp2_with fail
            refine (write_arg hd3.out 9 (by omega) _).mono ?_
            rintro e w5 ⟨rfl, hw5⟩
            have hd5 := Lib.hid hd3.out
            have hb5 := Lib.hid hb3.out
            rw [← hw5] at hd5 hb5
            clear hw5
            have hb6 := Lib.hid ((Below.refl w5.heap.size w5).alloc (Nat.le_refl _) (.cells bigCells 5))
            have hd6 := Lib.hid (hd5.out.keep hb6.out)
            have hB6 := Lib.hid (hb5.out.trans (hb6.out.mono hb5.out.size))
            go_wp2_with fail
            refine (write_big hd6.out 0 (by omega) _ 513 513 (by decide)).mono ?_
            rintro e w7 ⟨rfl, hw7⟩
            rw [← hw7] at hd6 hB6
            clear hw7 hb6
            go_wp2_with fail
            go_roundw
            case rel =>
              have c1 := Hq.out
              have c2 := Hk.out
              have c3 := Hd.out
              have c4 := Hdi.out
              have c5 := Hlt.out
              have c6 := h3'.out
              have eu : usedI (i + 1) = usedI i + 1 := by unfold usedI; omega
              have el : N - usedI (i + 1) = q - 1 := by omega
              exact ⟨i + 1, d + 1, k + 1, _, _, by omega, by go_num, by go_num, by omega, by omega, by omega, by rw [el]; exact hd6.out, hB6.out⟩
            case measure =>
              have := Hlt.out
              simp [intOf]; omega
      · obtain rfl : i = T := by omega
        obtain ⟨q, hq⟩ : ∃ q : Nat, N - usedI i = q := ⟨_, rfl⟩
        rw [hq] at hD hd
        have Hq := Lib.hid hq
        have Hd := Lib.hid hd
        have Hdi := Lib.hid hdi
        have HN := Lib.hid hN
        have HT := Lib.hid hT
        clear hq hd hdi hN hT hk hi hlt
        go_wp2_with fail
        go_loopw [10, 11] (fun uv iv w5 => ∃ m : Nat, m ≤ i ∧ uv = .int .i64 (usedI m) ∧ iv = .int .i64 m ∧ w5 = wr) (fun _ iv _ => i - (intOf iv).toNat)
        case atStart => exact ⟨0, by omega, rfl, rfl, rfl⟩
        case round =>
          obtain ⟨m, hm, rfl, rfl, rfl⟩ := hrel
          by_cases hmi : m < i
          · have gT : (m : Int) < i := by omega
            obtain ⟨u, hu⟩ : ∃ u : Nat, usedI m = u := ⟨_, rfl⟩
            have hu64 : u ≤ 128 := by have := HT.out; unfold usedI at hu; omega
            have b1 : (u : Int) ≤ 128 := by omega
            have b2 : (m : Int) ≤ 63 := by have := HT.out; omega
            have Hu := Lib.hid hu
            have Hmi := Lib.hid hmi
            rw [hu]
            clear hu hmi hm hu64
            by_cases h3 : m % 3 = 2
            · have r3 : (m : Int).tmod 3 = 2 := by rw [Int.tmod_eq_emod_of_nonneg (by omega)]; omega
              have h3' := Lib.hid h3
              clear h3
              go_wp2_with fail
              go_roundw
              case rel => exact ⟨m + 1, by have := Hmi.out; omega, by have eu : usedI (m + 1) = u + 2 := (by have := Hu.out; have := h3'.out; unfold usedI at *; omega); rw [eu]; go_num, by go_num, by trivial⟩
              case measure => have := Hmi.out; simp [intOf]; omega
            · obtain ⟨r, hr⟩ : ∃ r : Nat, m % 3 = r := ⟨_, rfl⟩
              have r3 : (m : Int).tmod 3 = (r : Int) := by rw [Int.tmod_eq_emod_of_nonneg (by omega)]; omega
              have r2 : ((r : Int) == 2) = false := by simp; omega
              have r2' : ¬ (r = 2) := by omega
              have r2'' : ¬ ((r : Int) = 2) := by omega
              have h3' := Lib.hid h3
              clear h3 hr
              go_wp2_with fail
              go_roundw
              case rel => exact ⟨m + 1, by have := Hmi.out; omega, by have eu : usedI (m + 1) = u + 1 := (by have := Hu.out; have := h3'.out; unfold usedI at *; omega); rw [eu]; go_num, by go_num, by trivial⟩
              case measure => have := Hmi.out; simp [intOf]; omega
          · obtain rfl : m = i := by omega
            obtain ⟨u, hu⟩ : ∃ u : Nat, usedI m = u := ⟨_, rfl⟩
            rw [hu] at Hq Hdi ⊢
            clear hu hm hmi
            by_cases hun : N < u
            · have g1 : (N : Int) < u := by omega
              have q0 : q = 0 := by have := Hq.out; omega
              subst q0
              have g2 : (d : Int) ≤ N := by have := Hd.out; omega
              clear hun
              go_wp2_with fail
              refine (disk_fuse hD 5 (by omega)).mono ?_
              rintro e w6 ⟨⟨v6, rfl⟩, hb6, hz6, (⟨_, rfl⟩ | ⟨hc, _⟩)⟩
              · go_wp2_with fail
                refine (flush_cut hD (Int.natCast_nonneg _) (by omega) rfl).mono ?_
                rintro e w7 ⟨rfl, rfl⟩
                go_wp2_with fail
                go_ret
                exact ⟨rfl, hb⟩
              · cases hc
            · have g1 : ¬ ((N : Int) < u) := by omega
              obtain rfl : d = m := Hdi.out (by omega)
              go_wp2_with fail
              go_ret
              exact ⟨by simp, hb⟩
end Go.Proofs.Ytehanjhgjbclhaa

/- AllocKeeps: its walk. No conditions but those that stand in each lemma. -/
import Derived.Test.YtnlkljmboifnkaaAlUndo
import Derived.Test.YtnlkljmboifnkaaAlGood
import Derived.Test.YtnlkljmboifnkaaMask
namespace Go.Proofs.Ytnlkljmboifnkaa
open Go.RowKit Go.Maps

theorem new_good {lo hi res : Int} (h0 : 0 ≤ lo) (h1 : lo ≤ hi) (h2 : hi ≤ 8192) (h3 : 0 ≤ res) (h4 : res ≤ hi - lo) : AlGood (alNew lo hi res) ∧ Spans.totalL (alNew lo hi res).free = hi - lo ∧ ∀ k, Spans.In (alNew lo hi res).free k ↔ lo ≤ k ∧ k < hi := by
  show AlGood (alNew lo hi res) ∧ Spans.totalL (Spans.addL [] (lo, hi)) = hi - lo ∧ ∀ k, Spans.In (Spans.addL [] (lo, hi)) k ↔ lo ≤ k ∧ k < hi
  have key : Spans.Good lo hi (Spans.addL [] (lo, hi)) ∧ Spans.totalL (Spans.addL [] (lo, hi)) = hi - lo ∧ ∀ k, Spans.In (Spans.addL [] (lo, hi)) k ↔ lo ≤ k ∧ k < hi := by
    by_cases h : lo < hi
    · have hs : Spans.R (lo, hi) := by unfold Spans.R; simp only; omega
      refine ⟨Spans.Good.nil.add hs (Int.le_refl _) (Int.le_refl _), ?_, fun k => ?_⟩
      · rw [Spans.total_added Spans.VL.nil hs (by simp [Spans.meetsB])]
        simp [Spans.totalL, Spans.validB, Spans.sum]
      · rw [Spans.addL_in Spans.VL.nil hs]
        simp [Spans.In.nil, Spans.has1]
    · obtain rfl : lo = hi := by omega
      have e : Spans.addL [] (lo, lo) = [] := by unfold Spans.addL Spans.fitB Spans.rightB; simp
      rw [e]
      refine ⟨Spans.Good.nil, by simp [Spans.totalL, Spans.validB, Spans.sum], fun k => ?_⟩
      constructor
      · intro h; exact absurd h (Spans.In.nil k)
      · intro h; omega
  exact ⟨⟨h0, h1, h2, h3, h4, Int.le_refl _, key.1, key.1, .nil⟩, key.2⟩

/-- Take, whether it fits or not. -/
def TakeEnds (w : World) (p m k : Nat) (s : AlS) (n : Int) (spare : Bool) (e : Ending) (w' : World) : Prop :=
  AlOth p m w w' ∧ ((alFits s n spare = true ∧ e = .returned (.tuple #[.int .i64 (Spans.findL s.free n), .int .i64 0]) ∧ Al w' p m k (alTaken s n)) ∨ (alFits s n spare = false ∧ e = .returned (.tuple #[.int .i64 0, .int .i64 15]) ∧ Al w' p m k s))
theorem take_any {w : World} {p m k : Nat} {s : AlS} (h : Al w p m k s) (hok : AlOk s) (n : Int) (h1 : 1 ≤ n) (h2 : n ≤ 1000000000000000000) (spare : Bool) :
    Calls Try.prog 7 #[.pointer (some ⟨p, 0, none⟩), .int .i64 n, .bool spare] w (TakeEnds w p m k s n spare) := by
  obtain ⟨F, S, o, h⟩ := h
  cases hf : alFits s n spare with
  | true => exact (take_yes h hok n h1 h2 spare hf).mono fun e w' ⟨he, ho, hA⟩ => ⟨ho, .inl ⟨hf, he, hA⟩⟩
  | false => exact (take_no h hok n h1 h2 spare hf).mono fun e w' ⟨he, hb⟩ => ⟨.grow hb, .inr ⟨hf, he, _, _, _, h.keep hb⟩⟩

/-- An alloc of N sectors from 0 on, of which r are kept back and T are free; none waits. -/
def KeepS (s : AlS) (N r T : Int) : Prop := AlGood s ∧ s.lo = 0 ∧ s.hi = N ∧ s.res = r ∧ s.ep = 0 ∧ s.waits = [] ∧ Spans.totalL s.free = T
theorem KeepS.fits {s : AlS} {N r T : Int} (h : KeepS s N r T) (spare : Bool) : alFits s 1 spare = (decide (1 ≤ T) && (spare || decide (r ≤ T - 1))) := by
  obtain ⟨hg, _, _, hr, _, _, hT⟩ := h
  unfold alFits
  rw [hr, hT]
  congr 1
  rw [Bool.eq_iff_iff, decide_eq_true_eq, decide_eq_true_eq, ← hT]
  exact ⟨Spans.find_total, Spans.find_one hg.free.1⟩
theorem KeepS.take {s : AlS} {N r T : Int} (h : KeepS s N r T) (h1 : 1 ≤ T) : KeepS (alTaken s 1) N r (T - 1) := by
  obtain ⟨hg, h2, h3, h4, h5, h6, hT⟩ := h
  have hf : 0 ≤ Spans.findL s.free 1 := Spans.find_one hg.free.1 (by omega)
  exact ⟨hg.taken hf, h2, h3, h4, h5, h6, by rw [← hT]; exact Spans.find_removed hf⟩

theorem tmod_in (a : Int) {b : Int} (hb : 0 < b) : -b < a.tmod b ∧ a.tmod b < b := by
  refine ⟨?_, Int.tmod_lt_of_pos a hb⟩
  rcases Int.lt_or_le a 0 with h | h
  · have h1 := Int.tmod_lt_of_pos (-a) hb
    rw [Int.neg_tmod] at h1
    omega
  · have := Int.tmod_nonneg b h
    omega
/-- At a round's head: c were taken in i rounds, of Q that may be. -/
def KeepAt (w : World) (p m : Nat) (N r Q T0 : Int) (cv iv : Value) (wr : World) : Prop :=
  ∃ (i : Nat) (s : AlS), (i : Int) ≤ N + 2 ∧ iv = .int .i64 (i : Int) ∧ cv = .int .i64 (min (i : Int) Q) ∧ KeepS s N r (T0 - min (i : Int) Q) ∧ Al wr p m 0 s ∧ Below w.heap.size w wr

set_option maxRecDepth 100000 in
set_option maxHeartbeats 4000000 in
theorem keeps_any (a b : Int) (w : World) :
    Calls Try.prog 6 #[.int .i64 a, .int .i64 b] w fun e w' => e = .returned (.bool true) ∧ Below w.heap.size w w' := by
  have hN := mask_and a 63 (by omega)
  rw [show ((63 : Nat) : Int) = 63 from rfl] at hN
  obtain ⟨N, hNe⟩ : ∃ N, bits .and .i64 a 63 = N := ⟨_, rfl⟩
  rw [hNe] at hN
  obtain ⟨hN0, hN1⟩ := hN
  obtain ⟨t, ht⟩ : ∃ t, b.tmod (N + 1) = t := ⟨_, rfl⟩
  have ht1 : -(N + 1) < t ∧ t < N + 1 := by rw [← ht]; exact tmod_in b (by omega)
  obtain ⟨r, hr⟩ : ∃ r, (t + N + 1).tmod (N + 1) = r := ⟨_, rfl⟩
  have hr1 : 0 ≤ r ∧ r < N + 1 := by rw [← hr]; exact ⟨Int.tmod_nonneg _ (by omega), (tmod_in _ (by omega)).2⟩
  obtain ⟨ht2, ht3⟩ := ht1
  obtain ⟨hr2, hr3⟩ := hr1
  have hnz : ¬ N + 1 = 0 := by omega
  have HG := Lib.hid (new_good (lo := 0) (hi := N) (res := r) (Int.le_refl 0) hN0 (by omega) hr2 (by omega))
  have HNW := Lib.hid (new_alloc w 0 N r (Int.le_refl 0) hN0 (by omega) hr2 (by omega))
  go_enter Try.func6, Try.ntmps6
  go_wp2_with fail
  refine HNW.out.mono ?_
  rintro e w1 ⟨p, m, rfl, hp, hm, hb1, hA1⟩
  have HA1 := Lib.hid hA1
  clear hA1 HNW
  go_wp2_with fail
  have start : KeepAt w p m N r (N - r) N (.int .i64 0) (.int .i64 0) w1 := ⟨0, _, by omega, rfl, by congr 1; omega, ⟨HG.out.1, rfl, rfl, rfl, rfl, rfl, by rw [HG.out.2.1]; omega⟩, HA1.out, hb1⟩
  clear HG HA1 hb1
  go_loopw [7, 8, 9, 10] (fun c i _ _ wr => KeepAt w p m N r (N - r) N c i wr) (fun _ i _ _ _ => (N + 2).toNat - (intOf i).toNat)
  case atStart => exact start
  case round =>
    obtain ⟨i, s, hi, rfl, rfl, hK, hA, hb⟩ := hrel
    have HK := Lib.hid hK
    have HA := Lib.hid hA
    have HFI := Lib.hid (hK.fits false)
    have HT := Lib.hid (take_any hA (hK.1.ok (by have := hK.2.2.2.2.1; omega)) 1 (by omega) (by omega) false)
    have HB := Lib.hid hb
    have hsz := hb.size
    obtain ⟨c, hc⟩ : ∃ c : Int, min (i : Int) ((N - r)) = c := ⟨_, rfl⟩
    have hc0 : 0 ≤ c ∧ c ≤ 64 ∧ c ≤ (i : Int) := by omega
    obtain ⟨hc1, hc2, hc3⟩ := hc0
    have HC := Lib.hid hc
    rw [hc] at HK HFI
    clear hK hA hb
    by_cases hlt : (i : Int) < N + 2
    · rw [hc]
      clear hc
      go_wp2_with fail
      refine HT.out.mono ?_
      rintro e w2 ⟨ho, ⟨hf, rfl, hA2⟩ | ⟨hf, rfl, hA2⟩⟩
      · rw [HFI.out] at hf
        simp at hf
        have HA2 := Lib.hid hA2
        have HB2 := Lib.hid (HB.out.trans (ho.below hp hm hsz))
        have HK2 := Lib.hid (HK.out.take (by omega))
        have hf1 : c = (i : Int) ∧ (i : Int) < (N - r) := by have := HC.out; omega
        clear HT HA HK HFI hA2 ho HB
        go_wp2_with fail
        go_roundw
        case rel => exact ⟨i + 1, _, by omega, by go_num, by congr 1; omega, by rw [show N - min ((i + 1 : Nat) : Int) ((N - r)) = N - c - 1 by omega]; exact HK2.out, HA2.out, HB2.out⟩
        case measure => simp [intOf]; omega
      · rw [HFI.out] at hf
        simp at hf
        have HA2 := Lib.hid hA2
        have HB2 := Lib.hid (HB.out.trans (ho.below hp hm hsz))
        have hf1 : c = (N - r) ∧ (N - r) ≤ (i : Int) := by have := HC.out; omega
        clear HT HA HFI hA2 ho HB
        go_wp2_with fail
        go_roundw
        case rel => exact ⟨i + 1, _, by omega, by go_num, by congr 1; omega, by rw [show N - min ((i + 1 : Nat) : Int) ((N - r)) = N - c by omega]; exact HK.out, HA2.out, HB2.out⟩
        case measure => simp [intOf]; omega
    · have hie : (i : Int) = N + 2 := by omega
      have hcq : c = (N - r) := by omega
      rw [hc]
      have start2 : KeepAt w p m N r r r (.int .i64 0) (.int .i64 0) wr := ⟨0, s, by omega, rfl, by congr 1; omega, by rw [show r - min ((0 : Nat) : Int) r = N - c by omega]; exact HK.out, HA.out, HB.out⟩
      subst hcq
      clear HT HFI HK HA HB HC hc start
      go_wp2_with fail
      go_loopw [11, 12, 13, 14] (fun c i _ _ wr => KeepAt w p m N r r r c i wr) (fun _ i _ _ _ => (N + 2).toNat - (intOf i).toNat)
      case atStart => exact start2
      case round =>
        obtain ⟨i, s, hi, rfl, rfl, hK, hA, hb⟩ := hrel
        have HK := Lib.hid hK
        have HA := Lib.hid hA
        have HFI := Lib.hid (hK.fits true)
        have HT := Lib.hid (take_any hA (hK.1.ok (by have := hK.2.2.2.2.1; omega)) 1 (by omega) (by omega) true)
        have HB := Lib.hid hb
        have hsz := hb.size
        obtain ⟨c, hc⟩ : ∃ c : Int, min (i : Int) (r) = c := ⟨_, rfl⟩
        have hc0 : 0 ≤ c ∧ c ≤ 64 ∧ c ≤ (i : Int) := by omega
        obtain ⟨hc1, hc2, hc3⟩ := hc0
        have HC := Lib.hid hc
        rw [hc] at HK HFI
        clear hK hA hb
        by_cases hlt : (i : Int) < N + 2
        · rw [hc]
          clear hc
          go_wp2_with fail
          refine HT.out.mono ?_
          rintro e w2 ⟨ho, ⟨hf, rfl, hA2⟩ | ⟨hf, rfl, hA2⟩⟩
          · rw [HFI.out] at hf
            simp at hf
            have HA2 := Lib.hid hA2
            have HB2 := Lib.hid (HB.out.trans (ho.below hp hm hsz))
            have HK2 := Lib.hid (HK.out.take (by omega))
            have hf1 : c = (i : Int) ∧ (i : Int) < r := by have := HC.out; omega
            clear HT HA HK HFI hA2 ho HB
            go_wp2_with fail
            go_roundw
            case rel => exact ⟨i + 1, _, by omega, by go_num, by congr 1; omega, by rw [show r - min ((i + 1 : Nat) : Int) (r) = r - c - 1 by omega]; exact HK2.out, HA2.out, HB2.out⟩
            case measure => simp [intOf]; omega
          · rw [HFI.out] at hf
            simp at hf
            have HA2 := Lib.hid hA2
            have HB2 := Lib.hid (HB.out.trans (ho.below hp hm hsz))
            have hf1 : c = r ∧ r ≤ (i : Int) := by have := HC.out; omega
            clear HT HA HFI hA2 ho HB
            go_wp2_with fail
            go_roundw
            case rel => exact ⟨i + 1, _, by omega, by go_num, by congr 1; omega, by rw [show r - min ((i + 1 : Nat) : Int) (r) = r - c by omega]; exact HK.out, HA2.out, HB2.out⟩
            case measure => simp [intOf]; omega
        · have hie : (i : Int) = N + 2 := by omega
          have hcq : c = r := by omega
          rw [hc]
          have HK3 : Hid (KeepS s N r 0) := Lib.hid (by have := HK.out; rw [show r - c = 0 by omega] at this; exact this)
          have HF3 : Hid (alFits s 1 true = false) := Lib.hid (by rw [HK3.out.fits true]; simp)
          have HHI : Hid (s.hi - s.lo - Spans.totalL s.free - Spans.totalL s.waits = N) := Lib.hid (by
            obtain ⟨_, h1, h2, _, _, h3, h4⟩ := HK3.out
            rw [h1, h2, h3, h4]
            simp [Spans.totalL, Spans.validB, Spans.sum])
          have HOK := Lib.hid (HK3.out.1.ok (by have := HK3.out.2.2.2.2.1; omega))
          have hsub1 : N - (N - r) = r := by omega
          clear HFI HK HC hc start2
          subst hcq
          go_wp2_with fail
          refine HT.out.mono ?_
          rintro e w2 ⟨ho, ⟨hf, _⟩ | ⟨hf, rfl, hA2⟩⟩
          · rw [HF3.out] at hf; cases hf
          have HB2 := Lib.hid (HB.out.trans (ho.below hp hm hsz))
          obtain ⟨F, S, o, hA2⟩ := hA2
          have HU := Lib.hid (alloc_used hA2 HOK.out)
          rw [HHI.out] at HU
          clear HT HA ho hA2 HB
          go_wp2_with fail
          refine HU.out.mono ?_
          rintro e w3 ⟨rfl, hb3⟩
          have HB3 := Lib.hid (HB2.out.trans (hb3.mono HB2.out.size))
          go_wp2_with fail
          go_ret

          exact ⟨rfl, HB3.out⟩
end Go.Proofs.Ytnlkljmboifnkaa

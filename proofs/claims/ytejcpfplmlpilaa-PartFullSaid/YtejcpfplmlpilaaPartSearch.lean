/- slices.Max of a row of ints; sort.Search with a closure that only lets memory grow. No conditions but those that stand in each lemma. -/
import Derived.Test.YtejcpfplmlpilaaPartWords
namespace Go.Proofs.Ytejcpfplmlpilaa
open Go.RowKit
namespace Part

/-- At a round's head. -/
def MaxAt (w : World) (l : List Int) (mv iv : Value) (wr : World) : Prop :=
  ∃ (k : Nat) (t : Int), 1 ≤ k ∧ k ≤ l.length ∧ iv = .int .i64 (k : Int) ∧ mv = .int .i64 t ∧ (∀ j, j < k → l.getD j 0 ≤ t) ∧ (∃ j, j < k ∧ t = l.getD j 0) ∧ Below w.heap.size w wr
set_option maxHeartbeats 2000000 in
theorem max_any (A : Option Addr) (n c : Nat) (l : List Int) (w : World) (hn : n = l.length) (hs : NumSrc w A l) (h0 : 0 < n) (hl : n ≤ 9223372036854775807) :
    Calls Try.prog 15 #[.slice A n c] w fun e w' => ∃ t : Int, e = .returned (.int .i64 t) ∧ (∀ j, j < l.length → l.getD j 0 ≤ t) ∧ (∃ j, j < l.length ∧ t = l.getD j 0) ∧ Below w.heap.size w w' := by
  have Hn := Lib.hid hn
  have Hs := Lib.hid hs
  obtain ⟨b0, o, rfl, hbl, hcell⟩ := hs (by omega)
  have cz : w.cell? ⟨b0, o, none⟩ = some (.int .i64 (l.getD 0 0)) := hcell 0 (by omega)
  have HC := Lib.hid hcell
  clear hn hs hcell
  have HZ : Hid (∃ z, l.getD 0 0 = z) := Lib.hid ⟨_, rfl⟩
  obtain ⟨z, hz⟩ := HZ.out
  rw [hz] at cz
  have HZ2 := Lib.hid hz
  clear hz HZ
  go_enter Try.func15, Try.ntmps15
  go_wp2_with fail
  go_loopw [3, 4] (fun mv iv wr => MaxAt w l mv iv wr) (fun _ i _ => n - (intOf i).toNat)
  case atStart => exact ⟨1, z, Nat.le_refl _, by have := Hn.out; omega, rfl, rfl, fun j hj => by rw [show j = 0 by omega, HZ2.out]; exact Int.le_refl _, ⟨0, by omega, HZ2.out.symm⟩, Below.refl _ _⟩
  case round =>
    obtain ⟨k, t, hk1, hk, rfl, rfl, hge, hin, hb⟩ := hrel
    have HG := Lib.hid hge
    have HI := Lib.hid hin
    clear hge hin
    by_cases hlt : k < l.length
    · have c0 := (hb.cell (p := ⟨b0, o + k, none⟩) hbl).trans (HC.out k hlt)
      have hkn : k < n := by have := Hn.out; omega
      obtain ⟨x, hx⟩ : ∃ x, l.getD k 0 = x := ⟨_, rfl⟩
      rw [hx] at c0
      have HX := Lib.hid hx
      clear hx
      by_cases h : t < x
      · have HM : max t x = x := by omega
        go_wp2_with fail
        go_roundw
        case rel => exact ⟨k + 1, x, by omega, by omega, by go_num, by first | rfl | rw [HM], fun j hj => by
          by_cases e : j = k
          · rw [e, HX.out]; exact Int.le_refl _
          · have := HG.out j (by omega); omega, ⟨k, by omega, HX.out.symm⟩, hb⟩
        case measure => simp [intOf]; omega
      · have HM : max t x = t := by omega
        go_wp2_with fail
        go_roundw
        case rel => exact ⟨k + 1, t, by omega, by omega, by go_num, by first | rfl | rw [HM], fun j hj => by
          by_cases e : j = k
          · rw [e, HX.out]; omega
          · exact HG.out j (by omega), HI.out.elim fun j hj => ⟨j, by omega, hj.2⟩, hb⟩
        case measure => simp [intOf]; omega
    · obtain rfl : k = n := by have := Hn.out; omega
      go_wp2_with fail
      go_ret
      exact ⟨t, rfl, fun j hj => HG.out j (by have := Hn.out; omega), HI.out.elim fun j hj => ⟨j, by have := Hn.out; omega, hj.2⟩, hb⟩

/-- At a round's head. -/
def SeekAt (w : World) (N : Int) (F : Int → Bool) (iv jv : Value) (wr : World) : Prop :=
  ∃ i j : Int, iv = .int .i64 i ∧ jv = .int .i64 j ∧ 0 ≤ i ∧ i ≤ j ∧ j ≤ N ∧ (i = 0 ∨ F (i - 1) = false) ∧ (j = N ∨ F j = true) ∧ Below w.heap.size w wr
set_option maxHeartbeats 2000000 in
theorem search_any (N : Int) (F : Int → Bool) (p1 p2 p3 : Value) (w : World) (h0 : 0 ≤ N) (hN : N ≤ 1073741824)
    (hf : ∀ x, 0 ≤ x → x < N → ∀ w1, Below w.heap.size w w1 → Calls Try.prog 17 #[.int .i64 x, p1, p2, p3] w1 fun e w' => e = .returned (.bool (F x)) ∧ Below w1.heap.size w1 w') :
    Calls Try.prog 16 #[.int .i64 N, .func (.func 17) #[] #[p1, p2, p3]] w fun e w' => ∃ i : Int, e = .returned (.int .i64 i) ∧ 0 ≤ i ∧ i ≤ N ∧ (i = 0 ∨ F (i - 1) = false) ∧ (i = N ∨ F i = true) ∧ Below w.heap.size w w' := by
  have HF := Lib.hid hf
  clear hf
  go_enter Try.func16, Try.ntmps16
  go_wp2_with fail
  go_loopw [5, 6] (fun iv jv wr => SeekAt w N F iv jv wr) (fun i j _ => (intOf j - intOf i).toNat)
  case atStart => exact ⟨0, N, rfl, rfl, by omega, h0, by omega, .inl rfl, .inl rfl, Below.refl _ _⟩
  case round =>
    obtain ⟨i, j, rfl, rfl, hi, hij, hj, hF1, hF2, hb⟩ := hrel
    have HF1 := Lib.hid hF1
    have HF2 := Lib.hid hF2
    clear hF1 hF2
    by_cases hlt : i < j
    · have hh1 : i ≤ (i + j) / 2 := by omega
      have hh2 : (i + j) / 2 < j := by omega
      have HK := Lib.hid (HF.out ((i + j) / 2) (by omega) (by omega))
      obtain ⟨t, ht⟩ : ∃ t, F ((i + j) / 2) = t := ⟨_, rfl⟩
      rw [ht] at HK
      have HT := Lib.hid ht
      clear ht
      go_wp2_with fail
      refine (HK.out _ hb).mono ?_
      rintro e w1 ⟨rfl, hb1⟩
      have hb2 := hb.trans (hb1.mono hb.size)
      clear hb1 HK
      generalize (i + j) / 2 = h at *
      cases t
      · go_wp2_with fail
        go_roundw
        case rel => exact ⟨h + 1, j, rfl, rfl, by omega, by omega, hj, .inr (by rw [show h + 1 - 1 = h by omega]; exact HT.out), HF2.out, hb2⟩
        case measure => simp [intOf]; omega
      · go_wp2_with fail
        go_roundw
        case rel => exact ⟨i, h, rfl, rfl, hi, by omega, by omega, HF1.out, .inr HT.out, hb2⟩
        case measure => simp [intOf]; omega
    · obtain rfl : i = j := by omega
      go_wp2_with fail
      go_ret
      exact ⟨i, rfl, hi, hj, HF1.out, HF2.out, hb⟩
end Part
end Go.Proofs.Ytejcpfplmlpilaa

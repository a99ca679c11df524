/- within: whether all sizes are from 0 to so much (slices.ContainsFunc and IndexFunc with its closure). For any row. No conditions but those that stand in each lemma. -/
import Derived.Test.YtejcpfplmlpilaaPartWords
namespace Go.Proofs.Ytejcpfplmlpilaa
open Go.RowKit
namespace Part

/-- A size that is not from 0 to so much. -/
def outB (m x : Int) : Bool := decide (x < 0) || decide (m < x)
theorem sized_of {l : List Int} {m : Int} (h : l.any (outB m) = false) (hm : 0 ≤ m) : Sized l m := fun i => by
  rw [List.any_eq_false] at h
  rcases Nat.lt_or_ge i l.length with hi | hi
  · have := h (l.getD i 0) (by rw [List.getD_eq_getElem?_getD, List.getElem?_eq_getElem hi]; exact List.getElem_mem hi)
    simp only [outB, Bool.or_eq_true, decide_eq_true_eq] at this
    omega
  · rw [getD_out hi]; omega
theorem out_of {l : List Int} {m : Int} {i : Nat} (hi : i < l.length) (h : outB m (l.getD i 0) = true) : l.any (outB m) = true :=
  List.any_eq_true.2 ⟨_, by rw [List.getD_eq_getElem?_getD, List.getElem?_eq_getElem hi]; exact List.getElem_mem hi, h⟩
theorem in_of {l : List Int} {m : Int} (h : ∀ i, i < l.length → outB m (l.getD i 0) = false) : l.any (outB m) = false := by
  rw [List.any_eq_false]
  intro x hx
  obtain ⟨i, hi, rfl⟩ := List.mem_iff_getElem.1 hx
  have := h i hi
  rw [List.getD_eq_getElem?_getD, List.getElem?_eq_getElem hi] at this
  simp only [Option.getD_some] at this
  rw [this]; simp

set_option maxHeartbeats 1000000 in
theorem out_look (S : Nat) (m x : Int) (w : World) (hr : Row w S 3 #[.int .i64 m]) :
    Calls Try.prog 22 #[.int .i64 x, .pointer (some ⟨S, 0, none⟩)] w fun e w' => e = .returned (.bool (outB m x)) ∧ Below w.heap.size w w' := by
  have c0 : w.cell? ⟨S, 0, none⟩ = some (.int .i64 m) := hr.cell (j := 0) rfl
  have hlt := hr.lt
  clear hr
  by_cases h1 : x < 0 <;> by_cases h2 : m < x
  all_goals
    go_enter Try.func22, Try.ntmps22
    go_wp2
    go_ret
    exact ⟨ret_bool (by unfold outB; simp [h1, h2]), Below.refl _ _⟩

/-- At a round's head. -/
def NoOut (w : World) (m : Int) (l : List Int) (i : Value) (wr : World) : Prop :=
  ∃ k : Nat, k ≤ l.length ∧ i = .int .i64 (k : Int) ∧ (∀ j, j < k → outB m (l.getD j 0) = false) ∧ Below w.heap.size w wr
/-- Where the first one lies, or -1. -/
def FoundOut (m : Int) (l : List Int) (w : World) (e : Ending) (w' : World) : Prop := ∃ i : Int, e = .returned (.int .i64 i) ∧ decide (i ≥ 0) = l.any (outB m) ∧ Below w.heap.size w w'
set_option maxHeartbeats 2000000 in
theorem index_out (S : Nat) (m : Int) (A : Option Addr) (n c : Nat) (l : List Int) (w : World) (hr : Row w S 3 #[.int .i64 m]) (hn : n = l.length) (hs : NumSrc w A l) (hl : n ≤ 9223372036854775807) :
    Calls Try.prog 23 #[.slice A n c, .func (.func 22) #[] #[.pointer (some ⟨S, 0, none⟩)]] w (FoundOut m l w) := by
  have Hn := Lib.hid hn
  have Hs := Lib.hid hs
  have HR := Lib.hid hr
  clear hn hs hr
  go_enter Try.func23, Try.ntmps23
  go_wp2_with fail
  go_loopw [8] (fun i wr => NoOut w m l i wr) (fun i _ => n - (intOf i).toNat)
  case atStart => exact ⟨0, Nat.zero_le _, rfl, (fun z hz => absurd hz (by omega)), Below.refl _ _⟩
  case round =>
    obtain ⟨k, hk, rfl, hno, hb⟩ := hrel
    have HNo := Lib.hid hno
    clear hno
    by_cases hlt : k < l.length
    · obtain ⟨b0, o, rfl, hbl, hcell⟩ := Hs.out (by omega)
      have c0 := (hb.cell (p := ⟨b0, o + k, none⟩) hbl).trans (hcell k hlt)
      have hkn : k < n := by have := Hn.out; omega
      clear hcell
      have HO := Lib.hid (out_of (m := m) hlt)
      have HV := Lib.hid (show ∀ j, j < k + 1 → outB m (l.getD k 0) = false → outB m (l.getD j 0) = false from fun j hj h0 => by
        by_cases e : j = k
        · rw [e]; exact h0
        · exact HNo.out j (by omega))
      generalize hx : l.getD k 0 = x at *
      clear hx
      have HK : ∀ w1, Below w.heap.size w w1 → Calls Try.prog 22 #[.int .i64 x, .pointer (some ⟨S, 0, none⟩)] w1 fun e w' => e = .returned (.bool (outB m x)) ∧ Below w1.heap.size w1 w' :=
        fun w1 h1 => out_look S m x w1 (HR.out.keepB h1 HR.out.lt)
      obtain ⟨t, ht⟩ : ∃ t, outB m x = t := ⟨_, rfl⟩
      rw [ht] at HK
      have HK2 := Lib.hid HK
      have HT2 := Lib.hid ht
      clear HK ht
      go_wp2_with fail
      refine (HK2.out _ hb).mono ?_
      rintro e w1 ⟨rfl, hb1⟩
      have hb2 := hb.trans (hb1.mono hb.size)
      clear hb1 HK2
      cases t
      · go_wp2_with fail
        go_roundw
        case rel => exact ⟨k + 1, by omega, by go_num, fun j hj => HV.out j hj HT2.out, hb2⟩
        case measure => simp [intOf]; omega
      · go_wp2_with fail
        go_ret
        exact ⟨k, rfl, by rw [decide_eq_true (by omega)]; exact (HO.out HT2.out).symm, hb2⟩
    · obtain rfl : k = n := by have := Hn.out; omega
      have HF := Lib.hid (in_of (l := l) (m := m) fun i hi => HNo.out i (by have := Hn.out; omega))
      go_wp2_with fail
      go_ret
      exact ⟨-1, rfl, by rw [HF.out]; rfl, hb⟩
set_option maxHeartbeats 1000000 in
theorem any_out (S : Nat) (m : Int) (A : Option Addr) (n c : Nat) (l : List Int) (w : World) (hr : Row w S 3 #[.int .i64 m]) (hn : n = l.length) (hs : NumSrc w A l) (hl : n ≤ 9223372036854775807) :
    Calls Try.prog 21 #[.slice A n c, .func (.func 22) #[] #[.pointer (some ⟨S, 0, none⟩)]] w fun e w' => e = .returned (.bool (l.any (outB m))) ∧ Below w.heap.size w w' := by
  have HC := Lib.hid (index_out S m A n c l w hr hn hs hl)
  clear hr hn hs
  go_enter Try.func21, Try.ntmps21
  go_wp2_with fail
  refine HC.out.mono ?_
  rintro e w1 ⟨i, rfl, hi3, hb1⟩
  have HI := Lib.hid hi3
  clear hi3
  go_wp2_with fail
  go_ret
  exact ⟨ret_bool HI.out, hb1⟩
set_option maxHeartbeats 1000000 in
theorem within_any (m : Int) (A : Option Addr) (n c : Nat) (l : List Int) (w : World) (hn : n = l.length) (hs : NumSrc w A l) (hl : n ≤ 9223372036854775807) :
    Calls Try.prog 12 #[.slice A n c, .int .i64 m] w fun e w' => e = .returned (.bool (!l.any (outB m))) ∧ Below w.heap.size w w' := by
  have HB := Lib.hid ((Below.refl w.heap.size w).alloc (Nat.le_refl _) (.cells #[.int .i64 m] 3))
  have hC := any_out w.heap.size m A n c l _ (Row.new w _ _) hn (hs.keepB HB.out) hl
  clear hn hs
  obtain ⟨t, ht⟩ : ∃ t, l.any (outB m) = t := ⟨_, rfl⟩
  rw [ht] at hC
  have HC := Lib.hid hC
  have HT := Lib.hid ht
  clear hC ht
  go_enter Try.func12, Try.ntmps12
  go_wp2_with fail
  refine HC.out.mono ?_
  rintro e w1 ⟨rfl, hb1⟩
  have HB2 := Lib.hid (HB.out.trans (hb1.mono (by simp)))
  clear hb1
  cases t
  all_goals
    go_wp2_with fail
    go_ret
    exact ⟨ret_bool (by rw [HT.out]; rfl), HB2.out⟩
end Part
end Go.Proofs.Ytejcpfplmlpilaa

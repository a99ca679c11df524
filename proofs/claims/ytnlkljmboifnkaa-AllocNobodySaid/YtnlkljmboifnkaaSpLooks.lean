/- The looks of package extent at a span, by the captured one; slices.IndexFunc and slices.ContainsFunc with those of Has and Meets. No conditions but those that stand in each lemma. -/
import Derived.Test.YtnlkljmboifnkaaSpTaken
namespace Go.Proofs.Ytnlkljmboifnkaa
open Go.RowKit

set_option maxHeartbeats 1000000 in
theorem ahead_look (S : Nat) (a b x y : Int) (w : World) (hr : Row w S 23 #[.int .i64 a, .int .i64 b]) :
    Calls Try.prog 34 #[.agg #[.int .i64 x, .int .i64 y], .pointer (some ⟨S, 0, none⟩)] w fun e w' => e = .returned (.bool (Spans.ahead (a, b) (x, y))) ∧ Below w.heap.size w w' := by
  have c0 : w.cell? ⟨S, 0, none⟩ = some (.int .i64 a) := hr.cell (j := 0) rfl
  have c1 : w.cell? ⟨S, 1, none⟩ = some (.int .i64 b) := hr.cell (j := 1) rfl
  have hlt := hr.lt
  clear hr
  by_cases h1 : y < a
  all_goals
    go_enter Try.func34, Try.ntmps34
    go_wp2
    go_ret
    exact ⟨ret_bool (by unfold Spans.ahead; simp [h1]), (Below.refl _ _).alloc (Nat.le_refl _) _⟩

set_option maxHeartbeats 1000000 in
theorem behind_look (S : Nat) (a b x y : Int) (w : World) (hr : Row w S 23 #[.int .i64 a, .int .i64 b]) :
    Calls Try.prog 35 #[.agg #[.int .i64 x, .int .i64 y], .pointer (some ⟨S, 0, none⟩)] w fun e w' => e = .returned (.bool (Spans.behind (a, b) (x, y))) ∧ Below w.heap.size w w' := by
  have c0 : w.cell? ⟨S, 0, none⟩ = some (.int .i64 a) := hr.cell (j := 0) rfl
  have c1 : w.cell? ⟨S, 1, none⟩ = some (.int .i64 b) := hr.cell (j := 1) rfl
  have hlt := hr.lt
  clear hr
  by_cases h1 : b < x
  all_goals
    go_enter Try.func35, Try.ntmps35
    go_wp2
    go_ret
    exact ⟨ret_bool (by unfold Spans.behind; simp [h1]), (Below.refl _ _).alloc (Nat.le_refl _) _⟩

set_option maxHeartbeats 1000000 in
theorem has_look (S : Nat) (a b x y : Int) (w : World) (hr : Row w S 23 #[.int .i64 a, .int .i64 b]) :
    Calls Try.prog 37 #[.agg #[.int .i64 x, .int .i64 y], .pointer (some ⟨S, 0, none⟩)] w fun e w' => e = .returned (.bool (Spans.hasP (a, b) (x, y))) ∧ Below w.heap.size w w' := by
  have c0 : w.cell? ⟨S, 0, none⟩ = some (.int .i64 a) := hr.cell (j := 0) rfl
  have c1 : w.cell? ⟨S, 1, none⟩ = some (.int .i64 b) := hr.cell (j := 1) rfl
  have hlt := hr.lt
  clear hr
  by_cases h1 : x ≤ a <;> by_cases h2 : b ≤ y
  all_goals
    go_enter Try.func37, Try.ntmps37
    go_wp2
    go_ret
    exact ⟨ret_bool (by unfold Spans.hasP; simp [h1, h2]), (Below.refl _ _).alloc (Nat.le_refl _) _⟩

set_option maxHeartbeats 1000000 in
theorem meets_look (S : Nat) (a b x y : Int) (w : World) (hr : Row w S 23 #[.int .i64 a, .int .i64 b]) :
    Calls Try.prog 41 #[.agg #[.int .i64 x, .int .i64 y], .pointer (some ⟨S, 0, none⟩)] w fun e w' => e = .returned (.bool (Spans.meetsP (a, b) (x, y))) ∧ Below w.heap.size w w' := by
  have c0 : w.cell? ⟨S, 0, none⟩ = some (.int .i64 a) := hr.cell (j := 0) rfl
  have c1 : w.cell? ⟨S, 1, none⟩ = some (.int .i64 b) := hr.cell (j := 1) rfl
  have hlt := hr.lt
  clear hr
  by_cases h1 : x < b <;> by_cases h2 : a < y
  all_goals
    go_enter Try.func41, Try.ntmps41
    go_wp2
    go_ret
    exact ⟨ret_bool (by unfold Spans.meetsP; simp [h1, h2]), (Below.refl _ _).alloc (Nat.le_refl _) _⟩

/-- At a round's head. -/
def Nohas (w : World) (s : Sp) (l : List Sp) (i : Value) (wr : World) : Prop :=
  ∃ k : Nat, k ≤ l.length ∧ i = .int .i64 (k : Int) ∧ (∀ z ∈ l.take k, Spans.hasP s z = false) ∧ Below w.heap.size w wr
/-- Where the first one lies, or -1. -/
def Foundhas (s : Sp) (l : List Sp) (w : World) (e : Ending) (w' : World) : Prop := ∃ i : Int, e = .returned (.int .i64 i) ∧ -1 ≤ i ∧ i ≤ 100000 ∧ decide (0 ≤ i) = l.any (Spans.hasP s) ∧ Below w.heap.size w w'
set_option maxHeartbeats 2000000 in
theorem index_has (S : Nat) (a b : Int) (A : Option Addr) (n c : Nat) (l : List Sp) (w : World) (hr : Row w S 23 #[.int .i64 a, .int .i64 b]) (hn : n = l.length) (hs : SpSrc w A l) (hl : n ≤ 100000) :
    Calls Try.prog 40 #[.slice A n c, .func (.func 37) #[] #[.pointer (some ⟨S, 0, none⟩)]] w (Foundhas (a, b) l w) := by
  have Hn := Lib.hid hn
  have Hs := Lib.hid hs
  have HR := Lib.hid hr
  clear hn hs hr
  go_enter Try.func40, Try.ntmps40
  go_wp2_with fail
  go_loopw [8] (fun i wr => Nohas w (a, b) l i wr) (fun i _ => n - (intOf i).toNat)
  case atStart => exact ⟨0, Nat.zero_le _, rfl, (fun z hz => by simp at hz), Below.refl _ _⟩
  case round =>
    obtain ⟨k, hk, rfl, hno, hb⟩ := hrel
    have HNo := Lib.hid hno
    clear hno
    by_cases hlt : k < l.length
    · obtain ⟨b0, o, rfl, hbl, hcell⟩ := Hs.out (by omega)
      have c0 := (hb.cell (p := ⟨b0, o + k * 2, none⟩) hbl).trans (hcell k hlt).1
      have c1 := (hb.cell (p := ⟨b0, o + k * 2 + 1, none⟩) hbl).trans (hcell k hlt).2
      have hkn : k < n := by have := Hn.out; omega
      clear hcell
      have HT := Lib.hid (show l.take (k + 1) = l.take k ++ [((l.getD k spZ).1, (l.getD k spZ).2)] by
        rw [List.take_succ_eq_append_getElem hlt, List.getD_eq_getElem?_getD, List.getElem?_eq_getElem hlt]; rfl)
      have HM := Lib.hid (show ((l.getD k spZ).1, (l.getD k spZ).2) ∈ l by rw [List.getD_eq_getElem?_getD, List.getElem?_eq_getElem hlt]; exact List.getElem_mem hlt)
      generalize (l.getD k spZ).1 = x at *
      generalize (l.getD k spZ).2 = y at *
      have HK : ∀ w1, Below w.heap.size w w1 → Calls Try.prog 37 #[.agg #[.int .i64 x, .int .i64 y], .pointer (some ⟨S, 0, none⟩)] w1 fun e w' => e = .returned (.bool (Spans.hasP (a, b) (x, y))) ∧ Below w1.heap.size w1 w' :=
        fun w1 h1 => has_look S a b x y w1 (HR.out.keepB h1 HR.out.lt)
      obtain ⟨t, ht⟩ : ∃ t, Spans.hasP (a, b) (x, y) = t := ⟨_, rfl⟩
      rw [ht] at HK
      have HK2 := Lib.hid HK
      have HT2 := Lib.hid ht
      clear HK ht
      go_wp2_with fail
      refine (HK2.out _ hb).mono ?_
      rintro e w1 ⟨rfl, hb1⟩
      have hb2 := hb.trans (hb1.mono hb.size)
      clear hb1 HK2
      cases t
      · go_wp2_with fail
        go_roundw
        case rel => exact ⟨k + 1, by omega, by go_num, fun z hz => by
          rw [HT.out] at hz
          rcases List.mem_append.1 hz with h | h
          · exact HNo.out z h
          · obtain rfl := List.mem_singleton.1 h
            exact HT2.out, hb2⟩
        case measure => simp [intOf]; omega
      · go_wp2_with fail
        go_ret
        exact ⟨k, rfl, by omega, by omega, by rw [decide_eq_true (by omega)]; exact (List.any_eq_true.2 ⟨_, HM.out, HT2.out⟩).symm, hb2⟩
    · obtain rfl : k = n := by have := Hn.out; omega
      have HF := Lib.hid (show l.any (Spans.hasP (a, b)) = false by
        rw [List.any_eq_false]
        intro z hz
        have := HNo.out z (by rw [List.take_of_length_le (by rw [← Hn.out]; exact Nat.le_refl _)]; exact hz)
        rw [this]; simp)
      go_wp2_with fail
      go_ret
      exact ⟨-1, rfl, by omega, by omega, by rw [HF.out]; rfl, hb⟩
set_option maxHeartbeats 1000000 in
theorem any_has (S : Nat) (a b : Int) (A : Option Addr) (n c : Nat) (l : List Sp) (w : World) (hr : Row w S 23 #[.int .i64 a, .int .i64 b]) (hn : n = l.length) (hs : SpSrc w A l) (hl : n ≤ 100000) :
    Calls Try.prog 36 #[.slice A n c, .func (.func 37) #[] #[.pointer (some ⟨S, 0, none⟩)]] w fun e w' => e = .returned (.bool (l.any (Spans.hasP (a, b)))) ∧ Below w.heap.size w w' := by
  have HC := Lib.hid (index_has S a b A n c l w hr hn hs hl)
  clear hr hn hs
  go_enter Try.func36, Try.ntmps36
  go_wp2_with fail
  refine HC.out.mono ?_
  rintro e w1 ⟨i, rfl, hi1, hi2, hi3, hb1⟩
  have HI := Lib.hid hi3
  clear hi3
  go_wp2_with fail
  go_ret
  exact ⟨ret_bool HI.out, hb1⟩

/-- At a round's head. -/
def Nomeets (w : World) (s : Sp) (l : List Sp) (i : Value) (wr : World) : Prop :=
  ∃ k : Nat, k ≤ l.length ∧ i = .int .i64 (k : Int) ∧ (∀ z ∈ l.take k, Spans.meetsP s z = false) ∧ Below w.heap.size w wr
/-- Where the first one lies, or -1. -/
def Foundmeets (s : Sp) (l : List Sp) (w : World) (e : Ending) (w' : World) : Prop := ∃ i : Int, e = .returned (.int .i64 i) ∧ -1 ≤ i ∧ i ≤ 100000 ∧ decide (0 ≤ i) = l.any (Spans.meetsP s) ∧ Below w.heap.size w w'
set_option maxHeartbeats 2000000 in
theorem index_meets (S : Nat) (a b : Int) (A : Option Addr) (n c : Nat) (l : List Sp) (w : World) (hr : Row w S 23 #[.int .i64 a, .int .i64 b]) (hn : n = l.length) (hs : SpSrc w A l) (hl : n ≤ 100000) :
    Calls Try.prog 40 #[.slice A n c, .func (.func 41) #[] #[.pointer (some ⟨S, 0, none⟩)]] w (Foundmeets (a, b) l w) := by
  have Hn := Lib.hid hn
  have Hs := Lib.hid hs
  have HR := Lib.hid hr
  clear hn hs hr
  go_enter Try.func40, Try.ntmps40
  go_wp2_with fail
  go_loopw [8] (fun i wr => Nomeets w (a, b) l i wr) (fun i _ => n - (intOf i).toNat)
  case atStart => exact ⟨0, Nat.zero_le _, rfl, (fun z hz => by simp at hz), Below.refl _ _⟩
  case round =>
    obtain ⟨k, hk, rfl, hno, hb⟩ := hrel
    have HNo := Lib.hid hno
    clear hno
    by_cases hlt : k < l.length
    · obtain ⟨b0, o, rfl, hbl, hcell⟩ := Hs.out (by omega)
      have c0 := (hb.cell (p := ⟨b0, o + k * 2, none⟩) hbl).trans (hcell k hlt).1
      have c1 := (hb.cell (p := ⟨b0, o + k * 2 + 1, none⟩) hbl).trans (hcell k hlt).2
      have hkn : k < n := by have := Hn.out; omega
      clear hcell
      have HT := Lib.hid (show l.take (k + 1) = l.take k ++ [((l.getD k spZ).1, (l.getD k spZ).2)] by
        rw [List.take_succ_eq_append_getElem hlt, List.getD_eq_getElem?_getD, List.getElem?_eq_getElem hlt]; rfl)
      have HM := Lib.hid (show ((l.getD k spZ).1, (l.getD k spZ).2) ∈ l by rw [List.getD_eq_getElem?_getD, List.getElem?_eq_getElem hlt]; exact List.getElem_mem hlt)
      generalize (l.getD k spZ).1 = x at *
      generalize (l.getD k spZ).2 = y at *
      have HK : ∀ w1, Below w.heap.size w w1 → Calls Try.prog 41 #[.agg #[.int .i64 x, .int .i64 y], .pointer (some ⟨S, 0, none⟩)] w1 fun e w' => e = .returned (.bool (Spans.meetsP (a, b) (x, y))) ∧ Below w1.heap.size w1 w' :=
        fun w1 h1 => meets_look S a b x y w1 (HR.out.keepB h1 HR.out.lt)
      obtain ⟨t, ht⟩ : ∃ t, Spans.meetsP (a, b) (x, y) = t := ⟨_, rfl⟩
      rw [ht] at HK
      have HK2 := Lib.hid HK
      have HT2 := Lib.hid ht
      clear HK ht
      go_wp2_with fail
      refine (HK2.out _ hb).mono ?_
      rintro e w1 ⟨rfl, hb1⟩
      have hb2 := hb.trans (hb1.mono hb.size)
      clear hb1 HK2
      cases t
      · go_wp2_with fail
        go_roundw
        case rel => exact ⟨k + 1, by omega, by go_num, fun z hz => by
          rw [HT.out] at hz
          rcases List.mem_append.1 hz with h | h
          · exact HNo.out z h
          · obtain rfl := List.mem_singleton.1 h
            exact HT2.out, hb2⟩
        case measure => simp [intOf]; omega
      · go_wp2_with fail
        go_ret
        exact ⟨k, rfl, by omega, by omega, by rw [decide_eq_true (by omega)]; exact (List.any_eq_true.2 ⟨_, HM.out, HT2.out⟩).symm, hb2⟩
    · obtain rfl : k = n := by have := Hn.out; omega
      have HF := Lib.hid (show l.any (Spans.meetsP (a, b)) = false by
        rw [List.any_eq_false]
        intro z hz
        have := HNo.out z (by rw [List.take_of_length_le (by rw [← Hn.out]; exact Nat.le_refl _)]; exact hz)
        rw [this]; simp)
      go_wp2_with fail
      go_ret
      exact ⟨-1, rfl, by omega, by omega, by rw [HF.out]; rfl, hb⟩
set_option maxHeartbeats 1000000 in
theorem any_meets (S : Nat) (a b : Int) (A : Option Addr) (n c : Nat) (l : List Sp) (w : World) (hr : Row w S 23 #[.int .i64 a, .int .i64 b]) (hn : n = l.length) (hs : SpSrc w A l) (hl : n ≤ 100000) :
    Calls Try.prog 36 #[.slice A n c, .func (.func 41) #[] #[.pointer (some ⟨S, 0, none⟩)]] w fun e w' => e = .returned (.bool (l.any (Spans.meetsP (a, b)))) ∧ Below w.heap.size w w' := by
  have HC := Lib.hid (index_meets S a b A n c l w hr hn hs hl)
  clear hr hn hs
  go_enter Try.func36, Try.ntmps36
  go_wp2_with fail
  refine HC.out.mono ?_
  rintro e w1 ⟨i, rfl, hi1, hi2, hi3, hb1⟩
  have HI := Lib.hid hi3
  clear hi3
  go_wp2_with fail
  go_ret
  exact ⟨ret_bool HI.out, hb1⟩
end Go.Proofs.Ytnlkljmboifnkaa

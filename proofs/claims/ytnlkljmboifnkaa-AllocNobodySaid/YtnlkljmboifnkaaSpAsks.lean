/- Has, Meets, Total and Find, for any list of at most 100000 spans, valid or not. No conditions but those that stand in each lemma. -/
import Derived.Test.YtnlkljmboifnkaaSpLooks
namespace Go.Proofs.Ytnlkljmboifnkaa
open Go.RowKit

theorem sp_row {w w1 : World} {x y : Int} {T : TypeId} (hb : Below (w.alloc (.cells #[.int .i64 x, .int .i64 y] T)).heap.size (w.alloc (.cells #[.int .i64 x, .int .i64 y] T)) w1) : Row w1 w.heap.size T #[.int .i64 x, .int .i64 y] :=
  (Row.new w T #[.int .i64 x, .int .i64 y]).keep hb

set_option maxHeartbeats 1000000 in
theorem has_any (A : Option Addr) (n c : Nat) (l : List Sp) (x y : Int) (w : World) (hn : n = l.length) (hs : SpSrc w A l) (hl : n ≤ 100000) :
    Calls Try.prog 26 #[.slice A n c, .agg #[.int .i64 x, .int .i64 y]] w fun e w' => e = .returned (.bool (Spans.hasB l (x, y))) ∧ Below w.heap.size w w' := by
  have HF : ∀ w1, Below w.heap.size w w1 → Calls Try.prog 30 #[.slice A n c, .agg #[.int .i64 x, .int .i64 y]] w1 fun e w' => e = .returned (.bool (Spans.fitB l (x, y))) ∧ Below w1.heap.size w1 w' := fun w1 hb => fit_any A n c l x y w1 hn (hs.keep hb) hl
  have HD := Lib.hid (show Spans.hasB l (x, y) = (Spans.fitB l (x, y) && l.any (Spans.hasP (x, y))) from rfl)
  have HS := Lib.hid hs
  have HN := Lib.hid hn
  generalize Spans.fitB l (x, y) = t at *
  generalize Spans.hasB l (x, y) = f at *
  have HF2 := Lib.hid HF
  clear HF hn hs
  cases t
  all_goals
    go_enter Try.func26, Try.ntmps26
    go_wp2_with fail
    refine (HF2.out _ ((Below.refl _ _).alloc (Nat.le_refl _) _)).mono ?_
    rintro e w1 ⟨rfl, hb1⟩
    have HR := Lib.hid (sp_row hb1)
    obtain ⟨d0, d1, hb2⟩ := sp_new hb1
    clear hb1 d0 d1
    go_wp2_with fail
  · go_ret
    exact ⟨ret_bool HD.out.symm, hb2⟩
  · refine (any_has _ x y A n c l _ HR.out HN.out (HS.out.keep hb2) hl).mono ?_
    rintro e w2 ⟨rfl, hb3⟩
    have hb4 := hb2.trans (hb3.mono hb2.size)
    clear hb3
    generalize l.any (Spans.hasP (x, y)) = u at *
    go_wp2_with fail
    go_ret
    exact ⟨ret_bool (by rw [HD.out]; rfl), hb4⟩

set_option maxHeartbeats 1000000 in
theorem meets_any (A : Option Addr) (n c : Nat) (l : List Sp) (x y : Int) (w : World) (hn : n = l.length) (hs : SpSrc w A l) (hl : n ≤ 100000) :
    Calls Try.prog 38 #[.slice A n c, .agg #[.int .i64 x, .int .i64 y]] w fun e w' => e = .returned (.bool (Spans.meetsB l (x, y))) ∧ Below w.heap.size w w' := by
  have HF : ∀ w1, Below w.heap.size w w1 → Calls Try.prog 30 #[.slice A n c, .agg #[.int .i64 x, .int .i64 y]] w1 fun e w' => e = .returned (.bool (Spans.fitB l (x, y))) ∧ Below w1.heap.size w1 w' := fun w1 hb => fit_any A n c l x y w1 hn (hs.keep hb) hl
  have HD := Lib.hid (show Spans.meetsB l (x, y) = (Spans.fitB l (x, y) && l.any (Spans.meetsP (x, y))) from rfl)
  have HS := Lib.hid hs
  have HN := Lib.hid hn
  generalize Spans.fitB l (x, y) = t at *
  generalize Spans.meetsB l (x, y) = f at *
  have HF2 := Lib.hid HF
  clear HF hn hs
  cases t
  all_goals
    go_enter Try.func38, Try.ntmps38
    go_wp2_with fail
    refine (HF2.out _ ((Below.refl _ _).alloc (Nat.le_refl _) _)).mono ?_
    rintro e w1 ⟨rfl, hb1⟩
    have HR := Lib.hid (sp_row hb1)
    obtain ⟨d0, d1, hb2⟩ := sp_new hb1
    clear hb1 d0 d1
    go_wp2_with fail
  · go_ret
    exact ⟨ret_bool HD.out.symm, hb2⟩
  · refine (any_meets _ x y A n c l _ HR.out HN.out (HS.out.keep hb2) hl).mono ?_
    rintro e w2 ⟨rfl, hb3⟩
    have hb4 := hb2.trans (hb3.mono hb2.size)
    clear hb3
    generalize l.any (Spans.meetsP (x, y)) = u at *
    go_wp2_with fail
    go_ret
    exact ⟨ret_bool (by rw [HD.out]; rfl), hb4⟩

/-- At a round's head of Total. -/
def TotalAt (w : World) (l : List Sp) (s i : Value) (wr : World) : Prop :=
  ∃ k : Nat, k ≤ l.length ∧ i = .int .i64 (k : Int) ∧ s = .int .i64 (Spans.sum (l.take k)) ∧ Below w.heap.size w wr
theorem sum_next (l : List Sp) (k : Nat) (h : k < l.length) : Spans.sum (l.take (k + 1)) = Spans.sum (l.take k) + ((l.getD k spZ).2 - (l.getD k spZ).1) := by
  rw [List.take_succ_eq_append_getElem h, Spans.sum_append, List.getD_eq_getElem?_getD, List.getElem?_eq_getElem h]
  simp [Spans.sum]
theorem sum_take (l : List Sp) (k : Nat) (hv : Spans.VL l) : 0 ≤ Spans.sum (l.take k) ∧ Spans.sum (l.take k) ≤ 1099511627776 := by
  have hv' : Spans.VL (l.take k) := ⟨fun s hs => hv.1 s (List.mem_of_mem_take hs), hv.2.sublist (List.take_sublist k l)⟩
  refine ⟨Spans.sum_lo _ hv'.1, ?_⟩
  have := Spans.sum_hi (l.take k) 0 hv' (fun x hx => (hv'.1 x hx).1) (by unfold Spans.top; omega)
  unfold Spans.top at this
  omega
theorem R_at {l : List Sp} (hv : Spans.VL l) {k : Nat} (h : k < l.length) : 0 ≤ (l.getD k spZ).1 ∧ (l.getD k spZ).1 < (l.getD k spZ).2 ∧ (l.getD k spZ).2 ≤ 1099511627776 := hv.1 _ (Spans.getD_mem h)
set_option maxHeartbeats 1000000 in
theorem total_any (A : Option Addr) (n c : Nat) (l : List Sp) (w : World) (hn : n = l.length) (hs : SpSrc w A l) (hl : n ≤ 100000) :
    Calls Try.prog 28 #[.slice A n c] w fun e w' => e = .returned (.int .i64 (Spans.totalL l)) ∧ Below w.heap.size w w' := by
  have HV := valid_any A n c l w hn hs hl
  have Hn := Lib.hid hn
  have Hs := Lib.hid hs
  clear hn hs
  by_cases hv : Spans.validB l = true
  · have HT := Lib.hid (show Spans.totalL l = Spans.sum l by unfold Spans.totalL; rw [if_pos hv])
    have HVL := Lib.hid ((Spans.validB_iff l).1 hv)
    rw [hv] at HV
    have HV2 := Lib.hid HV
    clear HV hv
    go_enter Try.func28, Try.ntmps28
    go_wp2_with fail
    refine HV2.out.mono ?_
    rintro e w1 ⟨rfl, hb1⟩
    go_wp2_with fail
    go_loopw [3, 10] (fun s i wr => TotalAt w l s i wr) (fun _ i _ => n - (intOf i).toNat)
    case atStart => exact ⟨0, Nat.zero_le _, rfl, rfl, hb1⟩
    case round =>
      obtain ⟨k, hk, rfl, rfl, hb⟩ := hrel
      by_cases hlt : k < l.length
      · obtain ⟨b, o, rfl, hbl, hcell⟩ := Hs.out (by omega)
        have c0 := (hb.cell (p := ⟨b, o + k * 2, none⟩) hbl).trans (hcell k hlt).1
        have c1 := (hb.cell (p := ⟨b, o + k * 2 + 1, none⟩) hbl).trans (hcell k hlt).2
        have hkn : k < n := by have := Hn.out; omega
        have HX := Lib.hid (sum_next l k hlt)
        obtain ⟨r0, r1, r2⟩ := R_at HVL.out hlt
        obtain ⟨s0, s1⟩ := sum_take l k HVL.out
        clear hcell
        generalize (l.getD k spZ).1 = x at *
        generalize (l.getD k spZ).2 = y at *
        generalize Spans.sum (l.take k) = s at *
        have hsz := hb.size
        go_wp2_with fail
        go_roundw
        case rel => exact ⟨k + 1, by omega, by go_num, by rw [HX.out], hb.alloc hsz _⟩
        case measure => simp [intOf]; omega
      · obtain rfl : k = n := by have := Hn.out; omega
        have HK := Lib.hid (show Spans.sum (l.take k) = Spans.totalL l by rw [HT.out, List.take_of_length_le (by rw [← Hn.out]; exact Nat.le_refl _)])
        go_wp2_with fail
        go_ret
        exact ⟨ret_i64 HK.out, hb⟩
  · have HT := Lib.hid (show Spans.totalL l = 0 by unfold Spans.totalL; rw [if_neg hv])
    rw [Bool.not_eq_true] at hv
    rw [hv] at HV
    have HV2 := Lib.hid HV
    clear HV hv
    go_enter Try.func28, Try.ntmps28
    go_wp2_with fail
    refine HV2.out.mono ?_
    rintro e w1 ⟨rfl, hb1⟩
    go_wp2_with fail
    go_ret
    exact ⟨ret_i64 HT.out.symm, hb1⟩

/-- At a round's head of Find. -/
def FindAt (w : World) (l : List Sp) (m : Int) (i : Value) (wr : World) : Prop :=
  ∃ k : Nat, k ≤ l.length ∧ i = .int .i64 (k : Int) ∧ Spans.findIn l m = Spans.findIn (l.drop k) m ∧ Below w.heap.size w wr
theorem findIn_at (l : List Sp) (k : Nat) (h : k < l.length) (m : Int) : Spans.findIn (l.drop k) m = if m ≤ (l.getD k spZ).2 - (l.getD k spZ).1 then (l.getD k spZ).1 else Spans.findIn (l.drop (k + 1)) m := by
  rw [List.drop_eq_getElem_cons h, List.getD_eq_getElem?_getD, List.getElem?_eq_getElem h]
  rfl
set_option maxHeartbeats 1000000 in
theorem find_any (A : Option Addr) (n c : Nat) (l : List Sp) (m : Int) (w : World) (hn : n = l.length) (hs : SpSrc w A l) (hl : n ≤ 100000) :
    Calls Try.prog 22 #[.slice A n c, .int .i64 m] w fun e w' => e = .returned (.int .i64 (Spans.findL l m)) ∧ Below w.heap.size w w' := by
  have HV := valid_any A n c l w hn hs hl
  have Hn := Lib.hid hn
  have Hs := Lib.hid hs
  clear hn hs
  by_cases hm : m < 1
  · have HT := Lib.hid (show Spans.findL l m = -1 by unfold Spans.findL; rw [if_pos hm])
    clear HV
    go_enter Try.func22, Try.ntmps22
    go_wp2_with fail
    go_ret
    exact ⟨ret_i64 HT.out.symm, Below.refl _ _⟩
  by_cases hv : Spans.validB l = true
  · have HT := Lib.hid (show Spans.findL l m = Spans.findIn l m by unfold Spans.findL; rw [if_neg hm, if_pos hv])
    have HVL := Lib.hid ((Spans.validB_iff l).1 hv)
    rw [hv] at HV
    have HV2 := Lib.hid HV
    clear HV hv
    go_enter Try.func22, Try.ntmps22
    go_wp2_with fail
    refine HV2.out.mono ?_
    rintro e w1 ⟨rfl, hb1⟩
    go_wp2_with fail
    go_loopw [16] (fun i wr => FindAt w l m i wr) (fun i _ => n - (intOf i).toNat)
    case atStart => exact ⟨0, Nat.zero_le _, rfl, rfl, hb1⟩
    case round =>
      obtain ⟨k, hk, rfl, hf, hb⟩ := hrel
      have HFI := Lib.hid hf
      clear hf
      by_cases hlt : k < l.length
      · obtain ⟨b, o, rfl, hbl, hcell⟩ := Hs.out (by omega)
        have c0 := (hb.cell (p := ⟨b, o + k * 2, none⟩) hbl).trans (hcell k hlt).1
        have c1 := (hb.cell (p := ⟨b, o + k * 2 + 1, none⟩) hbl).trans (hcell k hlt).2
        have hkn : k < n := by have := Hn.out; omega
        have HX := Lib.hid (findIn_at l k hlt m)
        obtain ⟨r0, r1, r2⟩ := R_at HVL.out hlt
        clear hcell
        generalize (l.getD k spZ).1 = x at *
        generalize (l.getD k spZ).2 = y at *
        have hsz := hb.size
        by_cases hd : m ≤ y - x
        · have HY := Lib.hid (show x = Spans.findL l m by rw [HT.out, HFI.out, HX.out, if_pos hd])
          go_wp2_with fail
          go_ret
          exact ⟨ret_i64 HY.out, hb.alloc hsz _⟩
        · have HY := Lib.hid (show Spans.findIn l m = Spans.findIn (l.drop (k + 1)) m by rw [HFI.out, HX.out, if_neg hd])
          go_wp2_with fail
          go_roundw
          case rel => exact ⟨k + 1, by omega, by go_num, HY.out, hb.alloc hsz _⟩
          case measure => simp [intOf]; omega
      · obtain rfl : k = n := by have := Hn.out; omega
        have HK := Lib.hid (show -1 = Spans.findL l m by rw [HT.out, HFI.out, List.drop_of_length_le (by rw [← Hn.out]; exact Nat.le_refl _)]; rfl)
        go_wp2_with fail
        go_ret
        exact ⟨ret_i64 HK.out, hb⟩
  · have HT := Lib.hid (show Spans.findL l m = -1 by unfold Spans.findL; rw [if_neg hm, if_neg hv])
    rw [Bool.not_eq_true] at hv
    rw [hv] at HV
    have HV2 := Lib.hid HV
    clear HV hv
    go_enter Try.func22, Try.ntmps22
    go_wp2_with fail
    refine HV2.out.mono ?_
    rintro e w1 ⟨rfl, hb1⟩
    go_wp2_with fail
    go_ret
    exact ⟨ret_i64 HT.out.symm, hb1⟩
end Go.Proofs.Ytnlkljmboifnkaa

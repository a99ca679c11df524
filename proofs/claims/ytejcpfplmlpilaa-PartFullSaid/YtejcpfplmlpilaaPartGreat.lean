/- Greatest: the greatest piece of a row of ends (the program's). For any ends and any row of at most 65536 sizes. No conditions but those that stand in each lemma. -/
import Derived.Test.YtejcpfplmlpilaaPartLook
import Derived.Test.YtejcpfplmlpilaaPartTop
namespace Go.Proofs.Ytejcpfplmlpilaa
open Go.RowKit
namespace Part

/-- At a round's head. -/
def SumAt (w : World) (l : List Int) (sv iv : Value) (wr : World) : Prop :=
  ∃ (k : Nat) (s : Int), k ≤ l.length ∧ iv = .int .i64 (k : Int) ∧ sv = .int .i64 s ∧ s = (l.take k).sum ∧ 0 ≤ s ∧ s ≤ 1073741824 * (k : Int) ∧ wr = w
set_option maxHeartbeats 2000000 in
theorem total_any (A : Option Addr) (n c : Nat) (l : List Int) (w : World) (hn : n = l.length) (hs : NumSrc w A l) (hl : n ≤ 65536) (hz : Sized l 1073741824) :
    Calls Try.prog 20 #[.slice A n c] w fun e w' => e = .returned (.int .i64 l.sum) ∧ w' = w := by
  have Hn := Lib.hid hn
  have Hs := Lib.hid hs
  have HZ := Lib.hid hz
  clear hn hs hz
  go_enter Try.func20, Try.ntmps20
  go_wp2_with fail
  go_loopw [3, 8] (fun sv iv wr => SumAt w l sv iv wr) (fun _ i _ => n - (intOf i).toNat)
  case atStart => exact ⟨0, 0, Nat.zero_le _, rfl, rfl, by simp, by omega, by omega, rfl⟩
  case round =>
    obtain ⟨k, s, hk, rfl, rfl, hs, hs0, hs1, rfl⟩ := hrel
    have HS := Lib.hid hs
    clear hs
    by_cases hlt : k < l.length
    · obtain ⟨b0, o, rfl, hbl, hcell⟩ := Hs.out (by omega)
      have c0 := hcell k hlt
      have hkn : k < n := by have := Hn.out; omega
      clear hcell
      have hx := HZ.out k
      have HT := Lib.hid (show (l.take (k + 1)).sum = (l.take k).sum + l.getD k 0 by
        rw [List.take_succ_eq_append_getElem hlt, List.sum_append, List.getD_eq_getElem?_getD, List.getElem?_eq_getElem hlt]; simp)
      generalize l.getD k 0 = x at *
      go_wp2_with fail
      go_roundw
      case rel => exact ⟨k + 1, s + x, by omega, by go_num, rfl, by rw [HT.out, HS.out], by omega, by omega, rfl⟩
      case measure => simp [intOf]; omega
    · obtain rfl : k = n := by have := Hn.out; omega
      go_wp2_with fail
      go_ret
      exact ⟨ret_i64 (by rw [HS.out, Hn.out, List.take_length]), rfl⟩

/-- At a round's head. -/
def RiseAt (w : World) (es : List Int) (av iv : Value) (wr : World) : Prop :=
  ∃ k : Nat, k ≤ es.length ∧ iv = .int .i64 (k : Int) ∧ av = .int .i64 (prevE es k) ∧ (∀ i, i < k → prevE es i < es.getD i 0) ∧ wr = w
set_option maxHeartbeats 2000000 in
theorem rising_any (A : Option Addr) (n c : Nat) (es : List Int) (z : Nat) (w : World) (hn : n = es.length) (hs : NumSrc w A es) (hl : n ≤ 9223372036854775807) :
    Calls Try.prog 19 #[.slice A n c, .int .i64 (z : Int)] w fun e w' => ∃ t : Bool, e = .returned (.bool t) ∧ (t = true ↔ RiseP es z) ∧ w' = w := by
  have Hn := Lib.hid hn
  have Hs := Lib.hid hs
  clear hn hs
  go_enter Try.func19, Try.ntmps19
  go_wp2_with fail
  go_loopw [5, 10] (fun av iv wr => RiseAt w es av iv wr) (fun _ i _ => n - (intOf i).toNat)
  case atStart => exact ⟨0, Nat.zero_le _, rfl, rfl, fun i hi => absurd hi (by omega), rfl⟩
  case round =>
    obtain ⟨k, hk, rfl, rfl, hup, rfl⟩ := hrel
    have HU := Lib.hid hup
    clear hup
    by_cases hlt : k < es.length
    · obtain ⟨b0, o, rfl, hbl, hcell⟩ := Hs.out (by omega)
      have c0 := hcell k hlt
      have hkn : k < n := by have := Hn.out; omega
      clear hcell
      have HP := Lib.hid (prevE_next es k)
      have HN := Lib.hid (show ∀ h : RiseP es z, prevE es k < es.getD k 0 from fun h => h.up k hlt)
      have HY := Lib.hid (show prevE es k < es.getD k 0 → ∀ i, i < k + 1 → prevE es i < es.getD i 0 from fun h i hi => by
        by_cases e : i = k
        · rw [e]; exact h
        · exact HU.out i (by omega))
      generalize es.getD k 0 = x at *
      generalize prevE es k = a at *
      by_cases h : x ≤ a
      · go_wp2_with fail
        go_ret
        exact ⟨false, rfl, ⟨fun h' => (by cases h'), fun h' => absurd (HN.out h') (by omega)⟩, rfl⟩
      · go_wp2_with fail
        go_roundw
        case rel => exact ⟨k + 1, by omega, by go_num, by rw [HP.out], HY.out (by omega), rfl⟩
        case measure => simp [intOf]; omega
    · obtain rfl : k = n := by have := Hn.out; omega
      have HL := Lib.hid (show prevE es k = (z : Int) ↔ RiseP es z from ⟨fun h => ⟨fun i hi => HU.out i (by have := Hn.out; omega), by rw [← Hn.out]; exact h⟩, fun h => by rw [Hn.out]; exact h.last⟩)
      generalize prevE es k = a at *
      by_cases h : a = (z : Int)
      all_goals
        have HH := Lib.hid h
        go_wp2_with fail
        go_ret
        exact ⟨decide (a = (z : Int)), ret_bool (by first | (rw [decide_eq_true HH.out]; done) | (rw [decide_eq_false HH.out]; exact beq_false_of_ne HH.out)), by rw [decide_eq_true_eq]; exact HL.out, rfl⟩

theorem NumSrc.cut {w : World} {A : Option Addr} {l : List Int} (h : NumSrc w A l) {p e : Nat} (hp : p < e) (he : e ≤ l.length) : ∃ b o, A = some ⟨b, o, none⟩ ∧ NumSrc w (some ⟨b, o + p, none⟩) ((l.drop p).take (e - p)) := by
  obtain ⟨b, o, hA, hlt, hc⟩ := h (by omega)
  refine ⟨b, o, hA, fun _ => ⟨b, o + p, rfl, hlt, fun i hi => ?_⟩⟩
  rw [List.length_take, List.length_drop] at hi
  rw [Nat.add_assoc, hc (p + i) (by omega), List.getD_eq_getElem?_getD, List.getD_eq_getElem?_getD, List.getElem?_take, if_pos (by omega), List.getElem?_drop]
theorem Sized.cut {l : List Int} {b : Int} (h : Sized l b) (p d : Nat) : Sized ((l.drop p).take d) b := fun i => by
  rw [List.getD_eq_getElem?_getD, List.getElem?_take]
  split
  · rw [List.getElem?_drop, ← List.getD_eq_getElem?_getD]; exact h (p + i)
  · have := h 0
    simp only [Option.getD_none]; omega
/-- At a round's head. -/
def GreatAt (w : World) (l es : List Int) (gv fv iv : Value) (wr : World) : Prop :=
  ∃ (k p : Nat) (g : Int), k ≤ es.length ∧ iv = .int .i64 (k : Int) ∧ fv = .int .i64 (p : Int) ∧ gv = .int .i64 g ∧ (p : Int) = prevE es k ∧ g = (T (cutE es) l p).2 ∧ Below w.heap.size w wr
set_option maxHeartbeats 4000000 in
theorem great_any (A : Option Addr) (n c : Nat) (l : List Int) (A2 : Option Addr) (n2 c2 : Nat) (es : List Int) (w : World) (hn : n = l.length) (hs : NumSrc w A l) (hl : n ≤ 65536) (hnc : n ≤ c) (hn2 : n2 = es.length) (hs2 : NumSrc w A2 es) (hl2 : n2 ≤ 9223372036854775807) :
    Calls Try.prog 9 #[.slice A n c, .slice A2 n2 c2] w fun e w' => ∃ r, TopIs l es r ∧ e = .returned (.int .i64 r) ∧ Below w.heap.size w w' := by
  have HR := Lib.hid (rising_any A2 n2 c2 es n w hn2 hs2 hl2)
  have HW := Lib.hid (fun w1 (h1 : Below w.heap.size w w1) => within_any 1073741824 A n c l w1 hn (hs.keepB h1) (by omega))
  have Hn := Lib.hid hn
  have Hs := Lib.hid hs
  have Hn2 := Lib.hid hn2
  have Hs2 := Lib.hid hs2
  clear hn hs hn2 hs2
  go_enter Try.func9, Try.ntmps9
  go_wp2_with fail
  refine HR.out.mono ?_
  rintro e w1 ⟨t, rfl, ht, rfl⟩
  have HT := Lib.hid ht
  clear ht HR
  cases t
  · go_wp2_with fail
    go_ret
    exact ⟨0, .inl ⟨fun h => (by have := HT.out.2 (by rw [Hn.out]; exact h.1); cases this), rfl⟩, rfl, Below.refl _ _⟩
  have HRise := Lib.hid (show RiseP es l.length by rw [← Hn.out]; exact HT.out.1 rfl)
  clear HT
  obtain ⟨t, ht⟩ : ∃ t, l.any (outB 1073741824) = t := ⟨_, rfl⟩
  rw [ht] at HW
  have HT := Lib.hid ht
  clear ht
  go_wp2_with fail
  refine (HW.out _ (Below.refl _ _)).mono ?_
  rintro e w2 ⟨rfl, hb2⟩
  clear HW
  cases t
  · have HZ := Lib.hid (sized_of HT.out (by omega))
    have Hs' := Lib.hid (Hs.out.keepB hb2)
    have Hs2' := Lib.hid (Hs2.out.keepB hb2)
    go_wp2_with fail
    go_loopw [5, 6, 21] (fun gv fv iv wr => GreatAt w1 l es gv fv iv wr) (fun _ _ i _ => n2 - (intOf i).toNat)
    case atStart => exact ⟨0, 0, 0, Nat.zero_le _, rfl, rfl, rfl, rfl, rfl, hb2⟩
    case round =>
      obtain ⟨k, p, g, hk, rfl, rfl, rfl, hp, hg, hb⟩ := hrel
      have HP := Lib.hid hp
      have HG := Lib.hid hg
      clear hp hg
      by_cases hlt : k < es.length
      · obtain ⟨b2, o2, rfl, hbl2, hcell2⟩ := Hs2.out (by omega)
        have c0 := (hb.cell (p := ⟨b2, o2 + k, none⟩) hbl2).trans (hcell2 k hlt)
        have hkn : k < n2 := by have := Hn2.out; omega
        clear hcell2
        have hup := HRise.out.up k hlt
        have htop := HRise.out.top (k := k + 1) hlt
        rw [prevE_next] at htop
        obtain ⟨e, he⟩ : ∃ e : Nat, es.getD k 0 = (e : Int) := ⟨(es.getD k 0).toNat, by have := HRise.out.pos k hk; omega⟩
        have HE := Lib.hid he
        rw [← HP.out] at hup
        rw [he] at c0 hup htop
        have hpe : p < e := by omega
        have hen : e ≤ n := by have := Hn.out; omega
        have hpc : ¬ c = p := by omega
        clear he htop hup
        obtain ⟨b, o, rfl, hcut⟩ := NumSrc.cut Hs.out hpe (by rw [← Hn.out]; exact hen)
        have HT1 := Lib.hid (total_any (some ⟨b, o + p, none⟩) (e - p) (c - p) _ wr (by rw [List.length_take, List.length_drop, ← Hn.out]; omega) (hcut.keepB hb) (by omega) (HZ.out.cut p (e - p)))
        have HX := Lib.hid (HRise.out.piece HZ.out.pos hlt HP.out HE.out.symm)
        have HB := Lib.hid (T_bound' (cutE es) (i := e) HZ.out (by omega))
        clear hcut
        go_wp2_with fail
        refine HT1.out.mono ?_
        rintro e' w3 ⟨rfl, rfl⟩
        have HX2 := Lib.hid (show (T (cutE es) l e).2 = max g ((l.drop p).take (e - p)).sum by rw [HX.out, HG.out]; rfl)
        have hB := HB.out
        have HN := Lib.hid (show ((e : Nat) : Int) = prevE es (k + 1) by rw [prevE_next]; exact HE.out.symm)
        rw [HX2.out] at hB
        generalize ((l.drop p).take (e - p)).sum = x at *
        clear HT1 HX HB
        by_cases h : g < x
        · have HM : max g x = x := by omega
          rw [HM] at HX2 hB
          go_wp2_with fail
          go_roundw
          case rel => exact ⟨k + 1, e, x, by omega, by go_num, rfl, by first | rfl | rw [HM], HN.out, HX2.out.symm, hb⟩
          case measure => simp [intOf]; omega
        · have HM : max g x = g := by omega
          rw [HM] at HX2 hB
          go_wp2_with fail
          go_roundw
          case rel => exact ⟨k + 1, e, g, by omega, by go_num, rfl, by first | rfl | rw [HM], HN.out, HX2.out.symm, hb⟩
          case measure => simp [intOf]; omega
      · obtain rfl : k = n2 := by have := Hn2.out; omega
        have HE := Lib.hid (show g = (T (cutE es) l l.length).2 by
          have h1 := HRise.out.last
          rw [← Hn2.out, ← HP.out] at h1
          rw [HG.out, show p = l.length by omega])
        go_wp2_with fail
        go_ret
        exact ⟨g, .inr ⟨HRise.out, HZ.out, HE.out⟩, rfl, hb⟩
  · go_wp2_with fail
    go_ret
    exact ⟨0, .inl ⟨fun h => by
      obtain ⟨x, hx, ho⟩ := List.any_eq_true.1 HT.out
      obtain ⟨i, hi, rfl⟩ := List.mem_iff_getElem.1 hx
      have := h.2 i
      rw [List.getD_eq_getElem?_getD, List.getElem?_eq_getElem hi] at this
      simp only [Option.getD_some, outB, Bool.or_eq_true, decide_eq_true_eq] at this ho
      omega, rfl⟩, rfl, hb2⟩
end Part
end Go.Proofs.Ytejcpfplmlpilaa

/- Count, Right and Clean, for any text (at most 200000 bytes): how many characters, or -1; whether it is right; the text, cleaned. Nothing that was there is written. Conditions: the tables lie where they were laid. -/
import Derived.Test.YthifoodhndjmdaaDoorUtfLay
namespace Go.Proofs.YthifoodhndjmdaaDoor
open Go.RowKit
namespace Utf

theorem nums_extract (s : ByteArray) (a b : Nat) : numsOf (s.extract a b) = ((numsOf s).take b).drop a := by
  unfold numsOf
  rw [ByteArray.data_extract, Array.toList_extract, List.extract_eq_take_drop, ← List.map_take, ← List.map_drop, List.drop_take]
theorem nums_from (s : ByteArray) (a : Nat) : numsOf (s.extract a s.size) = (numsOf s).drop a := by
  rw [nums_extract, List.take_of_length_le (by rw [numsOf_length]; exact Nat.le_refl _)]
theorem nums_upto (s : ByteArray) (b : Nat) : numsOf (s.extract 0 b) = (numsOf s).take b := by rw [nums_extract, List.drop_zero]
/-- A text's length; 0 where it is no text. -/
def sizeV : Value → Nat
  | .string s => s.size
  | _ => 0

/-- At a round's head: k characters are counted, the text t is to come. -/
def CtAt (w : World) (xs : List Int) (sv kv : Value) (wr : World) : Prop :=
  ∃ (t : ByteArray) (k : Nat), sv = .string t ∧ kv = .int .i64 (k : Int) ∧ k + t.size ≤ xs.length ∧ countO xs = (countO (numsOf t)).map (· + k) ∧ Below w.heap.size w wr
theorem countV_some {xs : List Int} {k : Nat} (h : countO xs = some k) : countV xs = (k : Int) := by unfold countV; rw [h]
theorem countV_none {xs : List Int} (h : countO xs = none) : countV xs = -1 := by unfold countV; rw [h]
set_option maxRecDepth 100000 in
set_option maxHeartbeats 2000000 in
theorem count_any (s : ByteArray) (w : World) (ht : Tab w) (hl : s.size ≤ 200000) :
    Calls Tryd.prog 11 #[.string s] w fun e w' => e = .returned (.int .i64 (countV (numsOf s))) ∧ Below w.heap.size w w' := by
  have Ht := Lib.hid ht
  have HL := Lib.hid (numsOf_length s)
  have Hl := Lib.hid hl
  clear ht hl
  go_enter Tryd.func11, Tryd.ntmps11
  go_wp2_with fail
  go_loopw [0, 3] (fun sv kv wr => CtAt w (numsOf s) sv kv wr) (fun sv _ _ => sizeV sv)
  case atStart => exact ⟨s, 0, rfl, rfl, by rw [HL.out]; omega, by cases countO (numsOf s) <;> rfl, Below.refl _ _⟩
  case round =>
    obtain ⟨t, k, rfl, rfl, hk, hc, hb⟩ := hrel
    have HC := Lib.hid hc
    clear hc
    have hk' : k + t.size ≤ 200000 := by have := HL.out; have := Hl.out; omega
    have hkk : (k : Int) ≤ 200000 := by omega
    by_cases h0 : t.size = 0
    · obtain rfl := empty_of t h0
      have HE := Lib.hid (show countV (numsOf s) = (k : Int) from countV_some (by rw [HC.out, numsOf_empty, count_nil]; simp))
      go_wp2_with fail
      go_ret
      exact ⟨by rw [HE.out]; rfl, hb⟩
    · have he := toList_some t (by omega)
      have he2 := isEmpty_some t (by omega)
      have HX := Lib.hid (numsOf_bytes t)
      have HTL := Lib.hid (numsOf_length t)
      have HT := Lib.hid (Ht.out.keep hb)
      have HN := Lib.hid (show numsOf t ≠ [] by intro e; have := congrArg List.length e; rw [numsOf_length, List.length_nil] at this; exact h0 this)
      have HNX := Lib.hid (next_any t wr HT.out (by omega))
      have HSP := Lib.hid (next_take (numsOf t) HX.out)
      have HC1 := Lib.hid (count_next HN.out)
      have HC0 := Lib.hid (count_none HN.out)
      obtain ⟨q, eq⟩ : ∃ q, (nextI (numsOf t)).2 = q := ⟨_, rfl⟩
      obtain ⟨c, ec⟩ : ∃ c, (nextI (numsOf t)).1 = c := ⟨_, rfl⟩
      rw [eq, ec] at HNX HSP
      rw [eq] at HC1 HC0
      clear eq ec
      by_cases hq : q = 0
      · subst hq
        have HE := Lib.hid (show countV (numsOf s) = -1 from countV_none (by rw [HC.out, HC0.out rfl]; rfl))
        go_wp2_with fail
        refine HNX.out.mono ?_
        rintro e w1 ⟨rfl, hb1⟩
        go_wp2_with fail
        go_ret
        exact ⟨by rw [HE.out]; rfl, hb.trans (hb1.mono hb.size)⟩
      · have hql : q ≤ t.size := by have := (HSP.out hq).1; rw [HTL.out] at this; exact this
        have HC2 := Lib.hid (HC1.out hq)
        have hq1 : ((q : Int) == 0) = false := by simp; omega
        have HF := Lib.hid (nums_from t q)
        go_wp2_with fail
        refine HNX.out.mono ?_
        rintro e w1 ⟨rfl, hb1⟩
        go_wp2_with fail
        refine ⟨⟨t.extract q t.size, k + 1, rfl, by go_num, ?_, ?_, hb.trans (hb1.mono hb.size)⟩, ?_⟩
        · rw [ByteArray.size_extract]; omega
        · rw [HC.out, HC2.out, HF.out, Option.map_map]
          congr 1
          funext a
          simp only [Function.comp]
          omega
        · show (t.extract q t.size).size < t.size
          rw [ByteArray.size_extract]; omega
set_option maxHeartbeats 1000000 in
theorem right_any (s : ByteArray) (w : World) (ht : Tab w) (hl : s.size ≤ 200000) :
    Calls Tryd.prog 9 #[.string s] w fun e w' => e = .returned (.bool (countO (numsOf s)).isSome) ∧ Below w.heap.size w w' := by
  have HC := Lib.hid (count_any s w ht hl)
  have HE := Lib.hid (countV_right (numsOf s))
  generalize (countO (numsOf s)).isSome = b at *
  obtain ⟨v, ev⟩ : ∃ v, countV (numsOf s) = v := ⟨_, rfl⟩
  rw [ev] at HC HE
  have he := HE.out
  go_enter Tryd.func9, Tryd.ntmps9
  go_wp2_with fail
  refine HC.out.mono ?_
  rintro e w1 ⟨rfl, hb⟩
  go_wp2_with fail
  go_ret
  exact ⟨rfl, hb⟩

/-- At a round's head: what is laid, with what is to come, cleaned, is the whole, cleaned. -/
def ClAt (w : World) (xs : List Int) (sv ov : Value) (wr : World) : Prop :=
  ∃ (t : ByteArray) (pre : List Int) (A : Option Addr) (n d : Nat), sv = .string t ∧ ov = .slice A n d ∧ pre.length + 4 * t.size ≤ 4 * xs.length ∧ cleanI xs = pre ++ cleanI (numsOf t) ∧ n = pre.length ∧ Own wr w.heap.size A d pre ∧ Below w.heap.size w wr
set_option maxRecDepth 100000 in
set_option maxHeartbeats 2000000 in
theorem clean_any (s : ByteArray) (w : World) (ht : Tab w) (hl : s.size ≤ 200000) :
    Calls Tryd.prog 12 #[.string s] w fun e w' => e = .returned (.string (strOfNums (cleanI (numsOf s)))) ∧ Below w.heap.size w w' := by
  have Ht := Lib.hid ht
  have HL := Lib.hid (numsOf_length s)
  have Hl := Lib.hid hl
  obtain ⟨cur, hc0, hm⟩ := make_bytes s.size (by omega)
  have ho := (show Own (w.alloc (.cells cur 5)) w.heap.size (some ⟨w.heap.size, 0, none⟩) s.size [] from World.ownsRow_made w cur s.size (Nat.le_refl _) (by unfold maxLen; omega) (by rw [hc0, Nat.mul_one]))
  have HR := Lib.hid (show ClAt w (numsOf s) (.string s) (.slice (some ⟨w.heap.size, 0, none⟩) 0 s.size) (w.alloc (.cells cur 5)) from
    ⟨s, [], _, 0, s.size, rfl, rfl, by rw [HL.out, List.length_nil]; omega, rfl, rfl, ho, (Below.refl _ _).alloc (Nat.le_refl _) _⟩)
  clear ht hl hc0 ho
  go_enter Tryd.func12, Tryd.ntmps12
  go_wp2_with fail
  clear hm
  go_loopw [0, 3] (fun sv ov wr => ClAt w (numsOf s) sv ov wr) (fun sv _ _ => sizeV sv)
  case atStart => exact HR.out
  case round =>
    clear HR
    obtain ⟨t, pre, A, n, d, rfl, rfl, hk, hc, hn, ho, hb⟩ := hrel
    have HC := Lib.hid hc
    have HNl := Lib.hid hn
    have HO := Lib.hid ho
    clear hc hn ho
    have hk' : n + 4 * t.size ≤ 800000 := by have := HL.out; have := Hl.out; have := HNl.out; omega
    by_cases h0 : t.size = 0
    · obtain rfl := empty_of t h0
      have HE := Lib.hid (show cleanI (numsOf s) = pre by rw [HC.out, numsOf_empty, clean_nil, List.append_nil])
      have htx := run_text wr A n d pre HNl.out HO.out.src
      go_wp2_with fail
      go_ret
      exact ⟨by rw [HE.out]; rfl, hb⟩
    · have he := toList_some t (by omega)
      have he2 := isEmpty_some t (by omega)
      have HX := Lib.hid (numsOf_bytes t)
      have HTL := Lib.hid (numsOf_length t)
      have HT := Lib.hid (Ht.out.keep hb)
      have HN := Lib.hid (show numsOf t ≠ [] by intro e; have := congrArg List.length e; rw [numsOf_length, List.length_nil] at this; exact h0 this)
      have HNX := Lib.hid (next_any t wr HT.out (by omega))
      have HSP := Lib.hid (next_take (numsOf t) HX.out)
      have HC1 := Lib.hid (clean_next HN.out)
      have HC0 := Lib.hid (clean_none HN.out)
      obtain ⟨q, eq⟩ : ∃ q, (nextI (numsOf t)).2 = q := ⟨_, rfl⟩
      obtain ⟨c, ec⟩ : ∃ c, (nextI (numsOf t)).1 = c := ⟨_, rfl⟩
      rw [eq, ec] at HNX HSP
      rw [eq] at HC1 HC0
      clear eq ec
      by_cases hq : q = 0
      · subst hq
        have HE := Lib.hid (HC0.out rfl)
        have HF := Lib.hid (nums_from t 1)
        have ht1 : 1 ≤ t.size := by omega
        go_wp2_with fail
        refine HNX.out.mono ?_
        rintro e w1 ⟨rfl, hb1⟩
        have b1 := hb.trans (hb1.mono hb.size)
        go_wp2_with fail
        refine (lay_any w.heap.size A n d pre 65533 w1 (HT.out.keep hb1) b1.size HNl.out (HO.out.keep hb1) (by omega)).mono ?_
        rintro e w2 ⟨v, rfl, A2, n2, d2, rfl, hn2, ho2, hb2⟩
        rw [gap_form] at hn2 ho2
        have HN2 := Lib.hid hn2
        clear hn2
        go_wp2_with fail
        refine ⟨⟨t.extract 1 t.size, pre ++ gapW, A2, n2, d2, rfl, rfl, ?_, ?_, HN2.out, ho2, b1.trans hb2⟩, ?_⟩
        · rw [ByteArray.size_extract, List.length_append, show gapW.length = 3 from rfl]; omega
        · rw [HC.out, HE.out, HF.out, List.append_assoc]
        · show (t.extract 1 t.size).size < t.size
          rw [ByteArray.size_extract]; omega
      · have hql : q ≤ t.size := by have := (HSP.out hq).1; rw [HTL.out] at this; exact this
        have HE := Lib.hid (HC1.out hq)
        have HFc := Lib.hid (HSP.out hq).2.1
        have hq4 := (HSP.out hq).2.2.2
        have hq1 : ((q : Int) == 0) = false := by simp; omega
        have HF := Lib.hid (nums_from t q)
        go_wp2_with fail
        refine HNX.out.mono ?_
        rintro e w1 ⟨rfl, hb1⟩
        have b1 := hb.trans (hb1.mono hb.size)
        go_wp2_with fail
        refine (lay_any w.heap.size A n d pre c w1 (HT.out.keep hb1) b1.size HNl.out (HO.out.keep hb1) (by omega)).mono ?_
        rintro e w2 ⟨v, rfl, A2, n2, d2, rfl, hn2, ho2, hb2⟩
        rw [HFc.out] at hn2 ho2
        have HN2 := Lib.hid hn2
        clear hn2
        go_wp2_with fail
        refine ⟨⟨t.extract q t.size, pre ++ (numsOf t).take q, A2, n2, d2, rfl, rfl, ?_, ?_, HN2.out, ho2, b1.trans hb2⟩, ?_⟩
        · rw [ByteArray.size_extract, List.length_append, List.length_take, HTL.out]; omega
        · rw [HC.out, HE.out, HF.out, List.append_assoc]
        · show (t.extract q t.size).size < t.size
          rw [ByteArray.size_extract]; omega
end Utf
end Go.Proofs.YthifoodhndjmdaaDoor

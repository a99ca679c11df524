/- UtfBack's walk: what is put is next, whatever stands behind it; its bytes without the last one are none. Conditions: the tables lie where they were laid; the text is at most 2^63 - 1 bytes. -/
import Derived.Test.YthifoodhndjmdaaDoorUtfCount
import Derived.Test.YthifoodhndjmdaaDoorMask
namespace Go.Proofs.YthifoodhndjmdaaDoor
open Go.RowKit
namespace Utf

theorem nums_append (s t : ByteArray) : numsOf (s ++ t) = numsOf s ++ numsOf t := by
  unfold numsOf
  rw [ByteArray.data_append, Array.toList_append, List.map_append]
theorem form_a : formI 97 = [97] := by decide
set_option maxRecDepth 100000 in
set_option maxHeartbeats 4000000 in
theorem back_big (n : Int) (s : ByteArray) (w : World) (hl : 2000 < s.size) : Calls Tryd.prog 5 #[.int .i64 n, .string s] w fun e w' => e = .returned (.bool true) ∧ Below w.heap.size w w' := by
  have t1 : decide ((2000 : Int) < (s.size : Int)) = true := by simp; omega
  go_enter Tryd.func5, Tryd.ntmps5
  go_wp2_with fail
  go_ret
  exact ⟨rfl, Below.refl _ _⟩
set_option maxRecDepth 100000 in
set_option maxHeartbeats 4000000 in
theorem back_small (n : Int) (s : ByteArray) (w : World) (ht : Tab w) (hl : s.size ≤ 2000) : Calls Tryd.prog 5 #[.int .i64 n, .string s] w fun e w' => e = .returned (.bool true) ∧ Below w.heap.size w w' := by
  have t1 : decide ((2000 : Int) < (s.size : Int)) = false := by simp; omega
  have Ht := Lib.hid ht
  have hm := mask_and n 2097151 (by omega)
  rw [show ((2097151 : Nat) : Int) = 2097151 from rfl] at hm
  obtain ⟨a, ea⟩ : ∃ a, bits .and .i64 n 2097151 = a := ⟨_, rfl⟩
  rw [ea] at hm
  obtain ⟨c, ec⟩ : ∃ c, a % 1114112 = c := ⟨_, rfl⟩
  have hc : 0 ≤ c ∧ c < 1114112 := by omega
  have hP := Lib.hid (put_any none 0 0 [] c w ht rfl Src.none_ (by omega))
  clear ht
  have hd1 : (55296 ≤ c ∧ c ≤ 57343) ∨ c < 55296 ∨ 57343 < c := by omega
  rcases hd1 with ⟨g0, g1⟩ | hg
  · have HF := Lib.hid (show formI c = [] by unfold formI; rw [if_pos (by omega)])
    rw [HF.out] at hP
    go_enter Tryd.func5, Tryd.ntmps5
    go_wp2_with fail
    refine hP.out.mono ?_
    rintro e w1 ⟨v1, rfl, A1, n1, c1, rfl, hn1, ho1, b1⟩
    obtain rfl : n1 = 0 := hn1
    have HT1 := Lib.hid (Ht.out.keep b1)
    go_wp2_with fail
    refine (put_any none 0 0 [] 97 w1 HT1.out rfl Src.none_ (by omega)).mono ?_
    rintro e w2 ⟨v2, rfl, A2, n2, c2, rfl, hn2, ho2, hb2⟩
    obtain rfl : n2 = 1 := by rw [form_a] at hn2; exact hn2
    have b2 := b1.trans (hb2.mono b1.size)
    go_wp2_with fail
    go_ret
    exact ⟨rfl, b2⟩
  · have hsz : sizeI c ≠ 0 := by
      rcases form_cases c with ⟨_, _, f⟩ | ⟨e, _⟩ | ⟨e, _⟩ | ⟨e, _⟩ | ⟨e, _⟩ <;> omega
    have h4 := size_le c
    have HLe := form_length c
    have HNs := next_short c hsz
    have HNf := next_form c (numsOf s) (numsOf_bytes s) hsz
    obtain ⟨q, eq⟩ : ∃ q, sizeI c = q := ⟨_, rfl⟩
    rw [eq] at hsz h4 HLe HNs HNf
    have HS := numsOf_strOfNums (formI c) (form_bytes c)
    have HSz : (strOfNums (formI c)).size = q := by rw [← numsOf_length, HS, HLe]
    have HT := nums_append (strOfNums (formI c)) s
    rw [HS] at HT
    have hTz : (strOfNums (formI c) ++ s).size ≤ 3000 := by rw [ByteArray.size_append]; omega
    have HX := Lib.hid (fun w' h => next_any (strOfNums (formI c) ++ s) w' h (by omega))
    rw [HT, HNf] at HX
    have HB := form_bytes c
    obtain ⟨S, eS⟩ : ∃ S, strOfNums (formI c) = S := ⟨_, rfl⟩
    rw [eS] at HSz HX
    have ES := Lib.hid eS
    have hSb : (S.size : Int) ≤ 4 := by omega
    have hsb : (s.size : Int) ≤ 2000 := by omega
    generalize formI c = f at *
    have hq1 : 1 ≤ (q : Int) := by omega
    have hq4 : (q : Int) ≤ 4 := by omega
    have HTk := Lib.hid (IsBytes.take HB (q - 1))
    have HLe' := Lib.hid HLe
    have HNs' := Lib.hid HNs
    clear HT HNf HSz HS eq hTz HLe HNs HB hsz eS
    rcases hg with hg | hg
    all_goals
      go_enter Tryd.func5, Tryd.ntmps5
      go_wp2_with fail
      refine hP.out.mono ?_
      rintro e w1 ⟨v1, rfl, A1, n1, c1, rfl, hn1, ho1, b1⟩
      rw [List.nil_append] at hn1 ho1
      obtain rfl : n1 = q := hn1.trans HLe'.out
      have HO1 := Lib.hid ho1
      have HT1 := Lib.hid (Ht.out.keep b1)
      have ht1 := run_text w1 A1 n1 c1 f hn1 ho1.src
      rw [ES.out] at ht1
      clear hn1 ho1
      go_wp2_with fail
      refine (HX.out _ HT1.out).mono ?_
      rintro e w2 ⟨rfl, hb2⟩
      have b2 := b1.trans (hb2.mono b1.size)
      have HT2 := Lib.hid (Ht.out.keep b2)
      have HCp := HO1.out.cap
      rw [HLe'.out] at HCp
      have hcm := HCp.2
      unfold maxLen at hcm
      have hc1 : (n1 : Int) ≤ (c1 : Int) := by omega
      have hc2 : (c1 : Int) ≤ 9223372036854775807 := by omega
      obtain ⟨m, hm⟩ : ∃ m, n1 = m + 1 := ⟨n1 - 1, by omega⟩
      have hk : n1 - 1 = m := by omega
      have HTk1 := Lib.hid (hk ▸ HTk.out : IsBytes (f.take m))
      have HNs1 := Lib.hid (hk ▸ HNs'.out : nextI (f.take m) = (0, 0))
      have hfl := HLe'.out
      have hx2 := next_any (strOfNums (f.take m)) w2 HT2.out (by rw [← numsOf_length, numsOf_strOfNums _ HTk1.out, List.length_take]; omega)
      rw [numsOf_strOfNums _ HTk1.out, HNs1.out] at hx2
      have HX2 := Lib.hid hx2
      have ht2 := run_text w2 A1 m c1 (f.take m) (by rw [List.length_take, HLe'.out]; omega) ((HO1.out.src.keep hb2).take m)
      clear hk hx2 hfl
      go_wp2_with fail
      refine HX2.out.mono ?_
      rintro e w3 ⟨rfl, hb3⟩
      have b3 := b2.trans (hb3.mono b2.size)
      go_wp2_with fail
      go_ret
      exact ⟨rfl, b3⟩
end Utf
end Go.Proofs.YthifoodhndjmdaaDoor

/- The document's Count and Clean, for any text (at most 200000 bytes): as the program's. Nothing that was there is written. No conditions but those that stand in each lemma. -/
import Derived.Test.YthifoodhndjmdaaDoorUtfRefNext
namespace Go.Proofs.YthifoodhndjmdaaDoor
open Go.RowKit
namespace Utf

/-- append(out, s...) of a text: onto a row of the call's own that may be empty. -/
theorem wpList_append_str {w : World} {ops : Array Oper} {rest : List Oper} {o : Oper} {a : Act} {Q : Exit → Act → World → Prop} (hgd : o.guard = none) (s x : Operand)
    (ho : o.op = .call { callee := .builtin .append, args := #[s, x], argTypes := #[27, 9] })
    (B : Nat) (A : Option Addr) (n c : Nat) (xs : List Int) (ea : a.eval s = .slice A n c) (hn : n = xs.length) (hown : Own w B A c xs)
    (t : ByteArray) (ex : a.eval x = .string t) (hpos : 0 < t.size) (hlen : n + t.size ≤ 1000000) (hB : B ≤ w.heap.size)
    (h : ∀ v' w', Grew w B (xs ++ numsOf t) v' w' → wpList Tryd.prog ops Q rest (a.put o.dst v') w') : wpList Tryd.prog ops Q (o :: rest) a w := by
  subst hn
  obtain ⟨i0, hi, hz0, hz1, hz2⟩ := info_parts Tryd.info5
  refine Lib.wpList_append_own_string w hgd s x 27 9 ho B 5 i0 Tryd.underlying27 Tryd.underlying9 hi hz0 hz1 hz2 _ _ _ ea hown t ex (by unfold maxLen; omega) (by omega) hB ?_
  intro v' w' h2 h3 _
  obtain ⟨g, cap, hv, _, _⟩ := World.ownsRow.form h2 (by omega)
  subst hv
  refine h _ _ ⟨some ⟨g, 0, none⟩, _, cap, rfl, by rw [List.length_append, numsOf_length], ?_, (Below.refl B w).grown h3 hB (fun k hk => hown.row k hk)⟩
  unfold Own
  rw [cellsOf_append, List.length_append, numsOf_length]
  have e : cellsOf .u8 (numsOf t) = Lib.strCells t := by simp [cellsOf, numsOf, Lib.strCells]
  rw [e]
  exact h2
set_option maxRecDepth 100000 in
set_option maxHeartbeats 2000000 in
theorem rcount_any (s : ByteArray) (w : World) (hl : s.size ≤ 200000) :
    Calls Tryd.prog 10 #[.string s] w fun e w' => e = .returned (.int .i64 (countV (numsOf s))) ∧ Below w.heap.size w w' := by
  have HL := Lib.hid (numsOf_length s)
  have Hl := Lib.hid hl
  clear hl
  go_enter Tryd.func10, Tryd.ntmps10
  go_wp2_with fail
  go_loopw [0, 3] (fun sv kv wr => CtAt w (numsOf s) sv kv wr) (fun sv _ _ => sizeV sv)
  case atStart => exact ⟨s, 0, rfl, rfl, by rw [HL.out]; omega, by cases countO (numsOf s) <;> rfl, Below.refl _ _⟩
  case round =>
    obtain ⟨t, k, rfl, rfl, hk, hc, hb⟩ := hrel
    have HC := Lib.hid hc
    clear hc
    have hk' : k + t.size ≤ 200000 := by have := HL.out; have := Hl.out; omega
    have hkk : (k : Int) ≤ 200000 := by omega
    by_cases h0 : t.size = 0
    · obtain rfl := empty_of t h0
      have HE := Lib.hid (show countV (numsOf s) = (k : Int) from countV_some (by rw [HC.out, numsOf_empty, count_nil]; simp))
      go_wp2_with fail
      go_ret
      exact ⟨by rw [HE.out]; rfl, hb⟩
    · have hpos : 0 < t.size := by omega
      have HX := Lib.hid (numsOf_bytes t)
      have HTL := Lib.hid (numsOf_length t)
      have HN := Lib.hid (show numsOf t ≠ [] by intro e; have := congrArg List.length e; rw [numsOf_length, List.length_nil] at this; exact h0 this)
      have HNX := Lib.hid (rnext_any t wr (by omega))
      have HSP := Lib.hid (next_take (numsOf t) HX.out)
      have HC1 := Lib.hid (count_next HN.out)
      have HC0 := Lib.hid (count_none HN.out)
      obtain ⟨q, eq⟩ : ∃ q, (nextI (numsOf t)).2 = q := ⟨_, rfl⟩
      obtain ⟨c, ec⟩ : ∃ c, (nextI (numsOf t)).1 = c := ⟨_, rfl⟩
      rw [eq, ec] at HNX HSP
      rw [eq] at HC1 HC0
      clear eq ec
      by_cases hq : q = 0
      · subst hq
        have HE := Lib.hid (show countV (numsOf s) = -1 from countV_none (by rw [HC.out, HC0.out rfl]; rfl))
        go_wp2_with fail
        refine HNX.out.mono ?_
        rintro e w1 ⟨rfl, hb1⟩
        go_wp2_with fail
        go_ret
        exact ⟨by rw [HE.out]; rfl, hb.trans (hb1.mono hb.size)⟩
      · have hql : q ≤ t.size := by have := (HSP.out hq).1; rw [HTL.out] at this; exact this
        have HC2 := Lib.hid (HC1.out hq)
        have hq1 : ((q : Int) == 0) = false := by simp; omega
        have HF := Lib.hid (nums_from t q)
        go_wp2_with fail
        refine HNX.out.mono ?_
        rintro e w1 ⟨rfl, hb1⟩
        go_wp2_with fail
        refine ⟨⟨t.extract q t.size, k + 1, rfl, by go_num, ?_, ?_, hb.trans (hb1.mono hb.size)⟩, ?_⟩
        · rw [ByteArray.size_extract]; omega
        · rw [HC.out, HC2.out, HF.out, Option.map_map]
          congr 1
          funext a
          simp only [Function.comp]
          omega
        · show (t.extract q t.size).size < t.size
          rw [ByteArray.size_extract]; omega
set_option maxRecDepth 100000 in
set_option maxHeartbeats 2000000 in
theorem rclean_any (s : ByteArray) (w : World) (hl : s.size ≤ 200000) :
    Calls Tryd.prog 13 #[.string s] w fun e w' => e = .returned (.string (strOfNums (cleanI (numsOf s)))) ∧ Below w.heap.size w w' := by
  have HL := Lib.hid (numsOf_length s)
  have Hl := Lib.hid hl
  have HR := Lib.hid (show ClAt w (numsOf s) (.string s) (.slice none 0 0) w from
    ⟨s, [], none, 0, 0, rfl, rfl, by rw [HL.out, List.length_nil]; omega, rfl, rfl, own_nil _ _, Below.refl _ _⟩)
  clear hl
  go_enter Tryd.func13, Tryd.ntmps13
  go_wp2_with fail
  go_loopw [0, 3] (fun sv ov wr => ClAt w (numsOf s) sv ov wr) (fun sv _ _ => sizeV sv)
  case atStart => exact HR.out
  case round =>
    clear HR
    obtain ⟨t, pre, A, n, d, rfl, rfl, hk, hc, hn, ho, hb⟩ := hrel
    have HC := Lib.hid hc
    have HNl := Lib.hid hn
    have HO := Lib.hid ho
    clear hc hn ho
    have hk' : n + 4 * t.size ≤ 800000 := by have := HL.out; have := Hl.out; have := HNl.out; omega
    by_cases h0 : t.size = 0
    · obtain rfl := empty_of t h0
      have HE := Lib.hid (show cleanI (numsOf s) = pre by rw [HC.out, numsOf_empty, clean_nil, List.append_nil])
      have htx := run_text wr A n d pre HNl.out HO.out.src
      go_wp2_with fail
      go_ret
      exact ⟨by rw [HE.out]; rfl, hb⟩
    · have hpos : 0 < t.size := by omega
      have HX := Lib.hid (numsOf_bytes t)
      have HTL := Lib.hid (numsOf_length t)
      have HN := Lib.hid (show numsOf t ≠ [] by intro e; have := congrArg List.length e; rw [numsOf_length, List.length_nil] at this; exact h0 this)
      have HNX := Lib.hid (rnext_any t wr (by omega))
      have HSP := Lib.hid (next_take (numsOf t) HX.out)
      have HC1 := Lib.hid (clean_next HN.out)
      have HC0 := Lib.hid (clean_none HN.out)
      obtain ⟨q, eq⟩ : ∃ q, (nextI (numsOf t)).2 = q := ⟨_, rfl⟩
      obtain ⟨c, ec⟩ : ∃ c, (nextI (numsOf t)).1 = c := ⟨_, rfl⟩
      rw [eq, ec] at HNX HSP
      rw [eq] at HC1 HC0
      clear eq ec
      by_cases hq : q = 0
      · subst hq
        have HE := Lib.hid (HC0.out rfl)
        have HF := Lib.hid (nums_from t 1)
        have ht1 : 1 ≤ t.size := by omega
        go_wp2_with fail
        refine HNX.out.mono ?_
        rintro e w1 ⟨rfl, hb1⟩
        have b1 := hb.trans (hb1.mono hb.size)
        go_wp2_with (first
          | (at_builtin; refine wpList_append_src rfl (.tmp 16) (.tmp 17) rfl w.heap.size A n d pre rfl HNl.out ((HO.out.keep hb1).keep ((Below.refl _ _).alloc (Nat.le_refl _) _)) _ 3 3 gapW rfl rfl (src_of _ _ _ rfl) (by omega) (by have := b1.size; simp; omega) ?_; rintro v w2 ⟨A2, n2, d2, rfl, hn2, ho2, hb2⟩; have HN2 := Lib.hid hn2; have HO2 := Lib.hid ho2; have B2 := Lib.hid ((b1.alloc b1.size _).trans hb2); clear hn2 ho2 hb2)
          | (at_builtin; refine wpList_append_str rfl (.tmp 19) (.tmp 22) rfl w.heap.size A n d pre rfl HNl.out HO.out (t.extract 0 1) rfl (by rw [ByteArray.size_extract]; omega) (by rw [ByteArray.size_extract]; omega) b1.size ?_; rintro v w2 ⟨A2, n2, d2, rfl, hn2, ho2, hb2⟩))
        refine ⟨⟨t.extract 1 t.size, pre ++ gapW, A2, n2, d2, rfl, rfl, ?_, ?_, HN2.out, HO2.out, B2.out⟩, ?_⟩
        · rw [ByteArray.size_extract, List.length_append, show gapW.length = 3 from rfl]; omega
        · rw [HC.out, HE.out, HF.out, List.append_assoc]
        · show (t.extract 1 t.size).size < t.size
          rw [ByteArray.size_extract]; omega
      · have hql : q ≤ t.size := by have := (HSP.out hq).1; rw [HTL.out] at this; exact this
        have HE := Lib.hid (HC1.out hq)
        have hq4 := (HSP.out hq).2.2.2
        have hq1 : ((q : Int) == 0) = false := by simp; omega
        have HF := Lib.hid (nums_from t q)
        go_wp2_with fail
        refine HNX.out.mono ?_
        rintro e w1 ⟨rfl, hb1⟩
        have b1 := hb.trans (hb1.mono hb.size)
        have HU := Lib.hid (nums_upto t q)
        go_wp2_with (at_builtin; refine wpList_append_str rfl (.tmp 19) (.tmp 22) rfl w.heap.size A n d pre rfl HNl.out (HO.out.keep hb1) (t.extract 0 q) rfl (by rw [ByteArray.size_extract]; omega) (by rw [ByteArray.size_extract]; omega) b1.size ?_; rintro v w2 ⟨A2, n2, d2, rfl, hn2, ho2, hb2⟩; rw [HU.out] at hn2 ho2; have HN2 := Lib.hid hn2; clear hn2)
        refine ⟨⟨t.extract q t.size, pre ++ (numsOf t).take q, A2, n2, d2, rfl, rfl, ?_, ?_, HN2.out, ho2, b1.trans hb2⟩, ?_⟩
        · rw [ByteArray.size_extract, List.length_append, List.length_take, HTL.out]; omega
        · rw [HC.out, HE.out, HF.out, List.append_assoc]
        · show (t.extract q t.size).size < t.size
          rw [ByteArray.size_extract]; omega
end Utf
end Go.Proofs.YthifoodhndjmdaaDoor

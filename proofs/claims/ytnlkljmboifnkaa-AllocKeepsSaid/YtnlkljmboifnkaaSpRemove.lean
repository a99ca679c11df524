/- Remove, for any list of at most 100000 spans, valid or not, and any span: a list of the call's own. No conditions but those that stand in each lemma. -/
import Derived.Test.YtnlkljmboifnkaaSpAdd
namespace Go.Proofs.Ytnlkljmboifnkaa
open Go.RowKit

/-- At a round's head: the pieces of the first k. -/
def PiecesAt (w : World) (s : Sp) (l : List Sp) (out i : Value) (wr : World) : Prop :=
  ∃ (k : Nat) (A2 : Option Addr) (n2 c2 : Nat), k ≤ l.length ∧ i = .int .i64 (k : Int) ∧ out = .slice A2 n2 c2 ∧ n2 = ((l.take k).flatMap (Spans.pieces s)).length ∧ SpOwn wr w.heap.size 23 A2 c2 ((l.take k).flatMap (Spans.pieces s)) ∧ Below w.heap.size w wr
theorem pieces_len (s : Sp) (l : List Sp) : (l.flatMap (Spans.pieces s)).length = 2 * l.length := by
  induction l with
  | nil => rfl
  | cons x l ih => rw [List.flatMap_cons, List.length_append, ih, List.length_cons]; simp [Spans.pieces]; omega
theorem pieces_next (s : Sp) (l : List Sp) (k : Nat) (h : k < l.length) : (l.take (k + 1)).flatMap (Spans.pieces s) = (l.take k).flatMap (Spans.pieces s) ++ [((l.getD k spZ).1, if s.1 < (l.getD k spZ).2 then s.1 else (l.getD k spZ).2), (if (l.getD k spZ).1 < s.2 then s.2 else (l.getD k spZ).1, (l.getD k spZ).2)] := by
  rw [List.take_succ_eq_append_getElem h, List.flatMap_append, List.getD_eq_getElem?_getD, List.getElem?_eq_getElem h]
  congr 1
  simp only [List.flatMap_cons, List.flatMap_nil, Spans.pieces, Option.getD_some, List.append_nil]
  have e1 : min l[k].2 s.1 = if s.1 < l[k].2 then s.1 else l[k].2 := by split <;> omega
  have e2 : max l[k].1 s.2 = if l[k].1 < s.2 then s.2 else l[k].1 := by split <;> omega
  rw [e1, e2]

set_option maxHeartbeats 4000000 in
theorem remove_any (A : Option Addr) (n c : Nat) (l : List Sp) (x y : Int) (w : World) (hn : n = l.length) (hs : SpSrc w A l) (hl : n ≤ 100000) :
    Calls Try.prog 23 #[.slice A n c, .agg #[.int .i64 x, .int .i64 y]] w (GivesS w 23 (Spans.remL l (x, y))) := by
  have HF : ∀ w1, Below w.heap.size w w1 → Calls Try.prog 30 #[.slice A n c, .agg #[.int .i64 x, .int .i64 y]] w1 fun e w' => e = .returned (.bool (Spans.fitB l (x, y))) ∧ Below w1.heap.size w1 w' := fun w1 hb => fit_any A n c l x y w1 hn (hs.keep hb) hl
  have HS := Lib.hid hs
  have HN := Lib.hid hn

  by_cases hf : Spans.fitB l (x, y) = true
  · have HD := Lib.hid (show Spans.remL l (x, y) = (l.flatMap (Spans.pieces (x, y))).filter Spans.rightB by unfold Spans.remL Spans.remV; rw [if_pos hf])
    rw [hf] at HF
    have HF2 := Lib.hid HF
    obtain ⟨i0, hi, hz, hz1, hz2⟩ := info_parts Try.spans.info
    have HI := Lib.hid hi
    have HZ := Lib.hid hz
    have HZ1 := Lib.hid hz1
    have HZ2 : Hid (i0.bytes * (2 * n) ≤ 281474976710656) := Lib.hid (by rw [hz2]; omega)
    clear HF hn hs hf hi hz hz1 hz2
    go_enter Try.func23, Try.ntmps23
    go_wp2_with fail
    refine (HF2.out _ ((Below.refl _ _).alloc (Nat.le_refl _) _)).mono ?_
    rintro e w1 ⟨rfl, hb1⟩
    have HR := Lib.hid (sp_row hb1)
    obtain ⟨d0, d1, hb2⟩ := sp_new hb1
    have hsz1 := hb2.size
    clear hb1 d0 d1
    go_wp2_with (at_make; refine wpList_make_own _ rfl _ _ 25 rfl w1.heap.size 23 i0 (.agg #[.int .i64 0, .int .i64 0]) 2 Try.spans.slice HI.out HZ.out HZ1.out .i64 .i64 _ (2 * n) rfl rfl (by omega) HZ2.out (by unfold maxLen; omega) (Nat.le_refl _) ?_; intro w2 hown2 hgrow2; have HO2 := Lib.hid hown2; have hb4 := (Below.refl w1.heap.size w1).grown hgrow2 (Nat.le_refl _) (fun k h => by cases h); clear hown2 hgrow2)
    go_loopw [5, 21] (fun out i wr => PiecesAt w1 (x, y) l out i wr) (fun _ i _ => n - (intOf i).toNat)
    case atStart => exact ⟨0, _, 0, 2 * n, Nat.zero_le _, rfl, rfl, rfl, HO2.out, hb4⟩
    case round =>
      obtain ⟨k, A2, n2, c2, hk, rfl, rfl, hn2, ho2, hb⟩ := hrel
      have HN2 := Lib.hid hn2
      have HO3 := Lib.hid ho2
      clear hn2 ho2 HO2 hb4
      have hszr := hb.size
      by_cases hlt : k < l.length
      · obtain ⟨b, o, hA, hbl, hcell⟩ := (HS.out.keep hb2) (by omega)
        subst hA
        have c0 := (hb.cell (p := ⟨b, o + k * 2, none⟩) hbl).trans (hcell k hlt).1
        have c1 := (hb.cell (p := ⟨b, o + k * 2 + 1, none⟩) hbl).trans (hcell k hlt).2
        have hrr := HR.out.keepB hb HR.out.lt
        have d0 : wr.cell? ⟨w.heap.size, 0, none⟩ = some (.int .i64 x) := hrr.cell (j := 0) rfl
        have d1 : wr.cell? ⟨w.heap.size, 1, none⟩ = some (.int .i64 y) := hrr.cell (j := 1) rfl
        have hlts := hrr.lt
        have hkn : k < n := by have := HN.out; omega
        have hle : n2 ≤ 2 * k := by have := HN2.out; rw [pieces_len, List.length_take] at this; omega
        have HX := Lib.hid (pieces_next (x, y) l k hlt)
        clear hcell hrr
        generalize (l.getD k spZ).1 = u at *
        generalize (l.getD k spZ).2 = v at *
        have HO4 : Hid (SpOwn ((wr.alloc (.cells #[.int .i64 u, .int .i64 v] 23)).alloc (.cells #[.int .i64 u, .int .i64 (if x < v then x else v), .int .i64 (if u < y then y else u), .int .i64 v] 23)) w1.heap.size 23 A2 c2 ((l.take k).flatMap (Spans.pieces (x, y)))) :=
          Lib.hid (HO3.out.keep (((Below.refl _ _).alloc (Nat.le_refl _) _).alloc (by simp) _))
        have hbu : Below w1.heap.size w1 ((wr.alloc (.cells #[.int .i64 u, .int .i64 v] 23)).alloc (.cells #[.int .i64 u, .int .i64 (if x < v then x else v), .int .i64 (if u < y then y else u), .int .i64 v] 23)) := (hb.alloc hszr _).alloc (by simp; omega) _
        go_wp2_with (at_builtin; refine wpList_append_sp Try.spans rfl _ _ rfl w1.heap.size A2 n2 c2 ((l.take k).flatMap (Spans.pieces (x, y))) rfl HN2.out HO4.out _ _ _ [(u, if x < v then x else v), (if u < y then y else u, v)] rfl rfl (spsrc_two _ _ (by simp) u (if x < v then x else v) (if u < y then y else u) v _) (by omega) (by simp; omega) ?_; rintro v' w4 ⟨A4, n4, c4, rfl, hn4, ho4, hb4⟩; have HN4 := Lib.hid hn4; have HO5 := Lib.hid ho4; clear hn4 ho4)
        have hb5 := hbu.trans hb4
        go_roundw
        case rel => exact ⟨k + 1, A4, n4, c4, by omega, by go_num, rfl, by rw [HX.out]; exact HN4.out, by rw [HX.out]; exact HO5.out, hb5⟩
        case measure => simp [intOf]; omega
      · obtain rfl : k = n := by have := HN.out; omega
        have HT := Lib.hid (show l.take k = l from List.take_of_length_le (by rw [← HN.out]; exact Nat.le_refl _))
        have hle : n2 = 2 * k := by rw [HN2.out, HT.out, pieces_len, ← HN.out]
        have HS5 := Lib.hid HO3.out.src
        have hbw := (hb2.mono (Nat.le_refl _)).trans (hb.mono hsz1)
        have hle2 : n2 ≤ 200000 := by omega
        clear hle
        go_wp2_with fail
        refine (taken_right Spans.rightB A2 n2 c2 _ wr HN2.out HS5.out hle2 (fun u v w3 _ => right_any u v w3)).mono ?_
        rintro e w5 ⟨v, rfl, A5, n5, c5, rfl, hn5, ho5, hb8⟩
        have HN5 := Lib.hid hn5
        have HO5 := Lib.hid ho5
        have hb9 := hbw.trans (hb8.mono hbw.size)
        clear hn5 ho5 hb8
        go_wp2_with fail
        go_ret
        have e := HD.out
        refine ⟨_, rfl, A5, n5, c5, rfl, ?_, ?_, hb9⟩
        · rw [HN5.out, e, HT.out]
        · have h := HO5.out
          rw [HT.out] at h
          rw [e]
          exact h.more (by omega)
  · have HD := Lib.hid (show Spans.remL l (x, y) = l by unfold Spans.remL; rw [if_neg hf])
    rw [Bool.not_eq_true] at hf
    rw [hf] at HF
    have HF2 := Lib.hid HF
    clear HF hn hs hf
    go_enter Try.func23, Try.ntmps23
    go_wp2_with fail
    refine (HF2.out _ ((Below.refl _ _).alloc (Nat.le_refl _) _)).mono ?_
    rintro e w1 ⟨rfl, hb1⟩
    obtain ⟨d0, d1, hb2⟩ := sp_new hb1
    clear hb1 d0 d1
    go_wp2_with fail
    refine (sp_concat_any _ 1 1 [⟨A, n, c, l⟩] _ rfl (by omega) (sp_parts_one HN.out (HS.out.keep hb2)) (by simp [spJoined]; have := HN.out; omega)).mono ?_
    rintro e w2 ⟨v, rfl, A2, n2, c2, rfl, hn2, ho2, hb3⟩
    have HO2 := Lib.hid ho2
    have HN2 := Lib.hid hn2
    have hb4 := hb2.trans ((((Below.refl w1.heap.size w1).alloc (Nat.le_refl _) _).trans (hb3.mono (by simp))).mono hb2.size)
    have hsz := hb2.size
    clear hn2 ho2 hb3 hb2
    go_wp2_with fail
    go_ret
    have ej : spJoined [⟨A, n, c, l⟩] = l := by simp [spJoined]
    refine ⟨_, rfl, A2, n2, c2, rfl, ?_, ?_, hb4⟩
    · rw [HN2.out, ej, HD.out]
    · have := HO2.out
      rw [ej] at this
      rw [HD.out]
      exact this.more (by simp; omega)
end Go.Proofs.Ytnlkljmboifnkaa

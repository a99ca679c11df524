/- A reader of package leaf: what is left of the bytes, and whether a part was none; pass, number, text, kid: what each takes, and what it leaves. No conditions but those that stand in each lemma. -/
import Derived.Test.YtnoofmdhhlcbkaaElsB
import Derived.Test.YtnoofmdhhlcbkaaLfForm
import Derived.Test.YtnoofmdhhlcbkaaText
import Derived.Test.YtnoofmdhhlcbkaaCut
import Derived.Test.YtnoofmdhhlcbkaaPtrReadAny
import Derived.Test.YtnoofmdhhlcbkaaPtrVar
import Derived.Lib.ConvBytes
namespace Go.Proofs.Ytnoofmdhhlcbkaa
open Go.RowKit
namespace Lf
open Els

/-- A reader at block g: these bytes are left; x: a part was none. Its bytes lie below g. -/
structure Rd (w : World) (g : Nat) (A : Option Addr) (m c : Nat) (xs : List Int) (x : Bool) : Prop where
  row : Row w g 57 #[.slice A m c, .bool x]
  len : m = xs.length
  src : Src .u8 w A xs
  cap : m ≤ c
  max : c ≤ 9223372036854775807
  bytes : IsBytes xs
  few : m ≤ 10000
  low : 0 < xs.length → ∀ a, A = some a → a.block < g
section
variable {w w' : World} {g : Nat} {A : Option Addr} {m c : Nat} {xs : List Int} {x : Bool}
theorem Rd.c0 (h : Rd w g A m c xs x) : w.cell? ⟨g, 0, none⟩ = some (.slice A m c) := h.row.cell rfl
theorem Rd.c1 (h : Rd w g A m c xs x) : w.cell? ⟨g, 1, none⟩ = some (.bool x) := h.row.cell rfl
theorem Rd.keep (h : Rd w g A m c xs x) (hb : Below w.heap.size w w') : Rd w' g A m c xs x := ⟨h.row.keep hb, h.len, h.src.keep hb, h.cap, h.max, h.bytes, h.few, h.low⟩
end
/-- A reader, whatever it stands at. -/
def RdX (w : World) (g : Nat) (xs : List Int) (x : Bool) : Prop := ∃ A m c, Rd w g A m c xs x
/-- What a reader is behind a part of k bytes, or none (e is not 0). -/
def RdTo (w : World) (g : Nat) (xs : List Int) (x : Bool) (k : Nat) (e : Int) : Prop := if e = 0 then RdX w g (xs.drop k) x else RdX w g xs true
theorem RdTo.yes {w : World} {g : Nat} {xs : List Int} {x : Bool} {k : Nat} {e : Int} (h : RdTo w g xs x k e) (he : e = 0) : RdX w g (xs.drop k) x := by unfold RdTo at h; rwa [if_pos he] at h
theorem RdTo.no {w : World} {g : Nat} {xs : List Int} {x : Bool} {k : Nat} {e : Int} (h : RdTo w g xs x k e) (he : e ≠ 0) : RdX w g xs true := by unfold RdTo at h; rwa [if_neg he] at h
set_option maxHeartbeats 1000000 in
theorem pass_any {w : World} {g : Nat} {A : Option Addr} {m c : Nat} {xs : List Int} {x : Bool} (h : Rd w g A m c xs x) (k : Nat) (e : Int) (hk : e = 0 → k ≤ m) :
    Calls Try.prog 41 #[.pointer (some ⟨g, 0, none⟩), .int .i64 (k : Int), .int .i64 e] w fun r w' => r = .returned (.tuple #[]) ∧ But g w w' ∧ RdTo w' g xs x k e := by
  have c0 := h.c0
  have c1 := h.c1
  have f0 := h.row.free 0
  have f1 := h.row.free 1
  have HR := Lib.hid h.row
  have hg := h.row.lt
  by_cases he : e = 0
  · subst he
    have hk' := hk rfl
    have hc' := h.cap
    have hm' := h.max
    have H := Lib.hid h
    clear hk h
    go_enter Try.func41, Try.ntmps41
    go_wp2_with (refine Cut.wpList_run rfl _ (Cut.exec_low Try.underlying22 Cut.size8 rfl (j := k) rfl rfl hk' _) ?_)
    go_end0
    refine ⟨rfl, But.set 0 _, ?_⟩
    unfold RdTo
    rw [if_pos rfl]
    refine ⟨Cut.cutA A c k, m - k, c - k, HR.out.set 0 _, by rw [List.length_drop, H.out.len], ?_, by omega, by omega, H.out.bytes.drop k, by have := H.out.few; omega, ?_⟩
    · have hsrc := Cut.src_cut H.out.src (j := k) (c := c) (by rw [← H.out.len]; exact hk') (by rw [← H.out.len]; exact hc')
      refine (But.set 0 _).src hsrc fun hl a ha => ?_
      rw [List.length_drop] at hl
      unfold Cut.cutA at ha
      split at ha
      · have := H.out.low (by omega) a ha; omega
      · rw [Option.map_eq_some_iff] at ha
        obtain ⟨a0, h0, rfl⟩ := ha
        have := H.out.low (by omega) a0 h0
        have e : (a0.add k).block = a0.block := by unfold Addr.add; split <;> rfl
        omega
    · intro hl a ha
      rw [List.length_drop] at hl
      unfold Cut.cutA at ha
      split at ha
      · exact H.out.low (by omega) a ha
      · rw [Option.map_eq_some_iff] at ha
        obtain ⟨a0, h0, rfl⟩ := ha
        have := H.out.low (by omega) a0 h0
        have e : (a0.add k).block = a0.block := by unfold Addr.add; split <;> rfl
        omega
  · have H := Lib.hid h
    have HE := Lib.hid he
    have ne1 : (e == 0) = false := beq_eq_false_iff_ne.2 he
    have ne2 : (e != 0) = true := by rw [bne_iff_ne]; exact he
    clear he hk h
    go_enter Try.func41, Try.ntmps41
    go_wp2_with fail
    refine bodyPost_ret (results_none rfl _ _ _) rfl ?_
    refine ⟨rfl, But.set 1 _, ?_⟩
    unfold RdTo
    rw [if_neg HE.out]
    exact ⟨A, m, c, HR.out.set 1 _, H.out.len, (But.set 1 _).src H.out.src (fun hl a ha => by have := H.out.low hl a ha; omega), H.out.cap, H.out.max, H.out.bytes, H.out.few, H.out.low⟩
theorem read_used {xs : List Int} (hx : IsBytes xs) : ((readOf xs).2.2 = 0 → (readOf xs).2.1 ≤ xs.length ∧ 1 ≤ (readOf xs).2.1) ∧ (readOf xs).2.1 ≤ xs.length ∧ (readOf xs).1 < 18446744073709551616 := by
  rcases read_cases xs hx with ⟨e, he, h0⟩ | ⟨k, k1, k2, hr, hv, _, _⟩
  · rw [he]; exact ⟨fun h => absurd h h0, Nat.zero_le _, by show 0 < _; omega⟩
  · rw [hr]; exact ⟨fun _ => ⟨k2, k1⟩, k2, hv⟩
set_option maxHeartbeats 1000000 in
theorem number_any {w : World} {g : Nat} {A : Option Addr} {m c : Nat} {xs : List Int} {x : Bool} (h : Rd w g A m c xs x) :
    Calls Try.prog 23 #[.pointer (some ⟨g, 0, none⟩)] w fun r w' => r = .returned (.int .u64 ((readOf xs).1 : Int)) ∧ But g w w' ∧ RdTo w' g xs x (readOf xs).2.1 ((readOf xs).2.2 : Int) := by
  obtain ⟨h1, h2, h3⟩ := read_used h.bytes
  have c0 := h.c0
  obtain ⟨a, ha⟩ : ∃ a : Int, Hid (a = ((readOf xs).1 : Int)) := ⟨_, rfl⟩
  obtain ⟨k, hk⟩ : ∃ k : Nat, Hid (k = (readOf xs).2.1) := ⟨_, rfl⟩
  obtain ⟨e, he⟩ : ∃ e : Int, Hid (e = ((readOf xs).2.2 : Int)) := ⟨_, rfl⟩
  have HE : Hid (((readOf xs).1 : Int) = a ∧ ((readOf xs).2.1 : Int) = (k : Int) ∧ ((readOf xs).2.2 : Int) = e) := by rw [ha.out, hk.out, he.out]; exact ⟨rfl, rfl, rfl⟩
  have HK : Hid (e = 0 → k ≤ m) := fun h0 => by rw [hk.out, h.len]; exact h2
  rw [← hk.out, ← he.out, ← ha.out]
  rw [← hk.out] at h2
  have a0 : 0 ≤ a := by rw [ha.out]; omega
  have a1 : a < 18446744073709551616 := by rw [ha.out]; omega
  have k1 : k ≤ 10000 := by have := h.len; have := h.few; omega
  have hg := h.row.lt
  have H := Lib.hid h
  clear h h1 h2 h3 hk he ha
  go_enter Try.func23, Try.ntmps23
  go_wp2_with fail
  refine (reads_p A m c xs a k e _ H.out.len H.out.src H.out.bytes (by have := H.out.few; omega) HE.out).mono ?_
  rintro r w1 ⟨rfl, rfl⟩
  go_wp2_with fail
  refine (pass_any H.out k e HK.out).mono ?_
  rintro r w2 ⟨rfl, hb, hto⟩
  have HB := Lib.hid hb
  have HT := Lib.hid hto
  clear hb hto c0
  go_wp2_with fail
  go_ret
  exact ⟨rfl, HB.out, HT.out⟩
/-- A text as bytes of their own. -/
theorem wpList_bytesT {ops : Array Oper} {rest : List Oper} {o : Oper} {a : Act} {w : World} {Q : Exit → Act → World → Prop} (hg : o.guard = none) (y : Operand) (ho : o.op = .convert 9 22 y) (s : ByteArray) (l : List Int) (hl : numsOf s = l) (hy : a.eval y = .string s) (hs : l.length ≤ 1000000)
    (h : ∀ w' B d, BT w' 5 (.slice B l.length d) l → Src .u8 w' B l → l.length ≤ d → d ≤ 9223372036854775807 → (∀ b, B = some b → b.block = w.heap.size) → Below w.heap.size w w' → wpList Try.prog ops Q rest (a.put o.dst (.slice B l.length d)) w') : wpList Try.prog ops Q (o :: rest) a w := by
  have hsz : s.size = l.length := by rw [← numsOf_length, hl]
  refine wpList_plain hg fun K hK => ?_
  unfold Oper.wp execOp
  simp only [ho, hy, Sem.run_bind, Lib.run_convert_string_bytes (P := Try.prog) w 9 22 5 s Try.underlying9 Try.underlying22 Try.underlying5, Result.andThen_ok, Sem.run_pure]
  have hm := grownCap_le_maxLen w s.size 0 5 (by unfold maxLen; omega)
  have hge := grownCap_ge w s.size 0 5
  have hsrc : Src .u8 (Lib.bytesWorld w 5 s) (some ⟨w.heap.size, 0, none⟩) l := fun _ => ⟨w.heap.size, 0, rfl, by rw [Lib.bytesWorld_size]; omega, fun i hi => by
    rw [Nat.zero_add, Lib.bytesWorld_cell w 5 s i (by omega)]
    have hd : i < s.data.toList.length := by show i < s.size; omega
    rw [← hl]
    unfold numsOf
    rw [List.getD_eq_getElem?_getD, List.getD_eq_getElem?_getD, List.getElem?_map, List.getElem?_eq_getElem hd]
    rfl⟩
  rw [hsz] at hm hge ⊢
  refine hK _ _ (h _ (some ⟨w.heap.size, 0, none⟩) _ ⟨_, _, rfl, hsrc, hge, hm, fun _ b hb => ?_⟩ hsrc hge (by unfold maxLen at hm; exact hm) (fun b hb => by injection hb with hb; rw [← hb]) ⟨rfl, rfl, rfl, by rw [Lib.bytesWorld_size]; omega, fun i hi => Lib.bytesWorld_at_old w 5 s i hi⟩)
  injection hb with hb
  rw [← hb]
  exact ⟨_, _, Lib.bytesWorld_at_new w 5 s⟩
theorem text_used {xs : List Int} (hx : IsBytes xs) (most : Int) : (readText xs most).2.1 ≤ xs.length ∧ (readText xs most).1.length ≤ xs.length ∧ IsBytes (readText xs most).1 ∧ ((readText xs most).2.2 = 0 → ((readText xs most).1.length : Int) ≤ most) := by
  have hu := (read_used hx).2.1
  unfold readText
  split
  · exact ⟨Nat.zero_le _, Nat.zero_le _, IsBytes.nil, fun h => absurd h ‹_›⟩
  · split
    · exact ⟨Nat.zero_le _, Nat.zero_le _, IsBytes.nil, fun h => by cases h⟩
    · split
      · exact ⟨Nat.zero_le _, Nat.zero_le _, IsBytes.nil, fun h => by cases h⟩
      · refine ⟨by show _ + _ ≤ _; omega, ?_, (hx.drop _).take _, fun _ => ?_⟩ <;> · rw [List.length_take, List.length_drop]; omega
set_option maxHeartbeats 1000000 in
theorem rtext_any {w : World} {g : Nat} {A : Option Addr} {m c : Nat} {xs : List Int} {x : Bool} (h : Rd w g A m c xs x) (most : Int) (m1 : -9223372036854775808 ≤ most) (m2 : most ≤ 9223372036854775807) :
    Calls Try.prog 26 #[.pointer (some ⟨g, 0, none⟩), .int .i64 most] w fun r w' => (∃ B d, r = .returned (.slice B (readText xs most).1.length d) ∧ BT w' 5 (.slice B (readText xs most).1.length d) (readText xs most).1 ∧ (∀ b, B = some b → w.heap.size ≤ b.block)) ∧ But g w w' ∧ RdTo w' g xs x (readText xs most).2.1 ((readText xs most).2.2 : Int) := by
  obtain ⟨h1, h2, h3, h4⟩ := text_used h.bytes most
  have c0 := h.c0
  obtain ⟨l, hl⟩ : ∃ l : List Int, Hid (l = (readText xs most).1) := ⟨_, rfl⟩
  obtain ⟨k, hk⟩ : ∃ k : Nat, Hid (k = (readText xs most).2.1) := ⟨_, rfl⟩
  obtain ⟨e, he⟩ : ∃ e : Int, Hid (e = ((readText xs most).2.2 : Int)) := ⟨_, rfl⟩
  rw [← hk.out, ← he.out, ← hl.out]
  rw [← hk.out] at h1
  rw [← hl.out] at h2 h3
  have HK : Hid (e = 0 → k ≤ m) := fun h0 => by rw [h.len]; exact h1
  have hlen : l.length ≤ 10000 := by have := h.len; have := h.few; omega
  have hkm : k ≤ 10000 := by have := h.len; have := h.few; omega
  have HN := Lib.hid (numsOf_strOfNums l h3)
  have hg := h.row.lt
  have H := Lib.hid h
  have HX : Hid (TextEnds xs most = fun (w : World) (r : Ending) w' => r = .returned (.tuple #[.string (strOfNums l), .int .i64 (k : Int), .int .i64 e]) ∧ Ext w w') := by show _ = _; unfold TextEnds; rw [← hl.out, ← hk.out, ← he.out]
  clear h h1 h2 h3 h4 hk he hl
  generalize strOfNums l = s at *
  go_enter Try.func26, Try.ntmps26
  go_wp2_with fail
  refine (goReadText_any A m c xs most _ H.out.len H.out.src H.out.bytes H.out.few H.out.cap H.out.max m1 m2).mono ?_
  rw [HX.out]
  rintro r w1 ⟨rfl, hb1⟩
  have H1 := Lib.hid (H.out.keep hb1)
  have HB1 := Lib.hid hb1
  clear hb1 c0
  go_wp2_with fail
  refine (pass_any H1.out k e HK.out).mono ?_
  rintro r w2 ⟨rfl, hb, hto⟩
  have HB := Lib.hid ((But.grow HB1.out).trans hb)
  have HT := Lib.hid hto
  have hs2 := HB.out.size
  clear hb hto
  go_wp2_with (refine wpList_bytesT rfl _ rfl s l HN.out rfl (by omega) ?_; intro w3 B d hBT hsrc hd1 hd2 hblk hb3; have HBT := Lib.hid hBT; have HBL := Lib.hid hblk; have HB3 := Lib.hid hb3; clear hBT hsrc hblk hb3)
  go_ret
  refine ⟨⟨B, d, rfl, HBT.out, fun b hb => by rw [HBL.out b hb]; exact hs2⟩, HB.out.then HB3.out, ?_⟩
  have HT' := HT.out
  unfold RdTo at HT' ⊢
  split <;> rename_i h0
  · rw [if_pos h0] at HT'
    obtain ⟨A', m', c', h'⟩ := HT'
    exact ⟨A', m', c', h'.keep HB3.out⟩
  · rw [if_neg h0] at HT'
    obtain ⟨A', m', c', h'⟩ := HT'
    exact ⟨A', m', c', h'.keep HB3.out⟩
theorem RdTo.keep {w w' : World} {g : Nat} {xs : List Int} {x : Bool} {k : Nat} {e : Int} (h : RdTo w g xs x k e) (hb : Below w.heap.size w w') : RdTo w' g xs x k e := by
  unfold RdTo at h ⊢
  split <;> rename_i h0
  · rw [if_pos h0] at h
    obtain ⟨A', m', c', h'⟩ := h
    exact ⟨A', m', c', h'.keep hb⟩
  · rw [if_neg h0] at h
    obtain ⟨A', m', c', h'⟩ := h
    exact ⟨A', m', c', h'.keep hb⟩
end Lf
end Go.Proofs.Ytnoofmdhhlcbkaa

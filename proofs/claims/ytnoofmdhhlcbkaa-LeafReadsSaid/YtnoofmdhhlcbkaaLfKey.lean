/- A reader of package leaf: what is left of the bytes, and whether a part was none; pass, number, text, kid: what each takes, and what it leaves. No conditions but those that stand in each lemma. | A reader's kid and key: what each takes, and what it leaves. No conditions but those that stand in each lemma. -/
import Derived.Test.YtnoofmdhhlcbkaaElsB
import Derived.Test.YtnoofmdhhlcbkaaLfForm
import Derived.Test.YtnoofmdhhlcbkaaText
import Derived.Test.YtnoofmdhhlcbkaaCut
import Derived.Test.YtnoofmdhhlcbkaaPtrReadAny
import Derived.Test.YtnoofmdhhlcbkaaPtrVar
import Derived.Lib.ConvBytes
import Derived.Test.YtnoofmdhhlcbkaaMakeB
import Derived.Laws.CopyOwn

namespace Go.Proofs.Ytnoofmdhhlcbkaa
open Go.RowKit
namespace Lf
open Els

/-- A reader at block g: these bytes are left; x: a part was none. Its bytes lie below g. -/
structure Rd (w : World) (g : Nat) (A : Option Addr) (m c : Nat) (xs : List Int) (x : Bool) : Prop where
  row : Row w g 57 #[.slice A m c, .bool x]
  len : m = xs.length
  src : Src .u8 w A xs
  cap : m ≤ c
  max : c ≤ 9223372036854775807
  bytes : IsBytes xs
  few : m ≤ 10000
  low : 0 < xs.length → ∀ a, A = some a → a.block < g
section
variable {w w' : World} {g : Nat} {A : Option Addr} {m c : Nat} {xs : List Int} {x : Bool}
theorem Rd.c0 (h : Rd w g A m c xs x) : w.cell? ⟨g, 0, none⟩ = some (.slice A m c) := h.row.cell rfl
theorem Rd.c1 (h : Rd w g A m c xs x) : w.cell? ⟨g, 1, none⟩ = some (.bool x) := h.row.cell rfl
theorem Rd.keep (h : Rd w g A m c xs x) (hb : Below w.heap.size w w') : Rd w' g A m c xs x := ⟨h.row.keep hb, h.len, h.src.keep hb, h.cap, h.max, h.bytes, h.few, h.low⟩
end
/-- A reader, whatever it stands at. -/
def RdX (w : World) (g : Nat) (xs : List Int) (x : Bool) : Prop := ∃ A m c, Rd w g A m c xs x
/-- What a reader is behind a part of k bytes, or none (e is not 0). -/
def RdTo (w : World) (g : Nat) (xs : List Int) (x : Bool) (k : Nat) (e : Int) : Prop := if e = 0 then RdX w g (xs.drop k) x else RdX w g xs true
theorem RdTo.yes {w : World} {g : Nat} {xs : List Int} {x : Bool} {k : Nat} {e : Int} (h : RdTo w g xs x k e) (he : e = 0) : RdX w g (xs.drop k) x := by unfold RdTo at h; rwa [if_pos he] at h
theorem RdTo.no {w : World} {g : Nat} {xs : List Int} {x : Bool} {k : Nat} {e : Int} (h : RdTo w g xs x k e) (he : e ≠ 0) : RdX w g xs true := by unfold RdTo at h; rwa [if_neg he] at h
set_option maxHeartbeats 1000000 in
theorem pass_any {w : World} {g : Nat} {A : Option Addr} {m c : Nat} {xs : List Int} {x : Bool} (h : Rd w g A m c xs x) (k : Nat) (e : Int) (hk : e = 0 → k ≤ m) :
    Calls Try.prog 41 #[.pointer (some ⟨g, 0, none⟩), .int .i64 (k : Int), .int .i64 e] w fun r w' => r = .returned (.tuple #[]) ∧ But g w w' ∧ RdTo w' g xs x k e := by
  have c0 := h.c0
  have c1 := h.c1
  have f0 := h.row.free 0
  have f1 := h.row.free 1
  have HR := Lib.hid h.row
  have hg := h.row.lt
  by_cases he : e = 0
  · subst he
    have hk' := hk rfl
    have hc' := h.cap
    have hm' := h.max
    have H := Lib.hid h
    clear hk h
    go_enter Try.func41, Try.ntmps41
    go_wp2_with (refine Cut.wpList_run rfl _ (Cut.exec_low Try.underlying22 Cut.size8 rfl (j := k) rfl rfl hk' _) ?_)
    go_end0
    refine ⟨rfl, But.set 0 _, ?_⟩
    unfold RdTo
    rw [if_pos rfl]
    refine ⟨Cut.cutA A c k, m - k, c - k, HR.out.set 0 _, by rw [List.length_drop, H.out.len], ?_, by omega, by omega, H.out.bytes.drop k, by have := H.out.few; omega, ?_⟩
    · have hsrc := Cut.src_cut H.out.src (j := k) (c := c) (by rw [← H.out.len]; exact hk') (by rw [← H.out.len]; exact hc')
      refine (But.set 0 _).src hsrc fun hl a ha => ?_
      rw [List.length_drop] at hl
      unfold Cut.cutA at ha
      split at ha
      · have := H.out.low (by omega) a ha; omega
      · rw [Option.map_eq_some_iff] at ha
        obtain ⟨a0, h0, rfl⟩ := ha
        have := H.out.low (by omega) a0 h0
        have e : (a0.add k).block = a0.block := by unfold Addr.add; split <;> rfl
        omega
    · intro hl a ha
      rw [List.length_drop] at hl
      unfold Cut.cutA at ha
      split at ha
      · exact H.out.low (by omega) a ha
      · rw [Option.map_eq_some_iff] at ha
        obtain ⟨a0, h0, rfl⟩ := ha
        have := H.out.low (by omega) a0 h0
        have e : (a0.add k).block = a0.block := by unfold Addr.add; split <;> rfl
        omega
  · have H := Lib.hid h
    have HE := Lib.hid he
    have ne1 : (e == 0) = false := beq_eq_false_iff_ne.2 he
    have ne2 : (e != 0) = true := by rw [bne_iff_ne]; exact he
    clear he hk h
    go_enter Try.func41, Try.ntmps41
    go_wp2_with fail
    refine bodyPost_ret (results_none rfl _ _ _) rfl ?_
    refine ⟨rfl, But.set 1 _, ?_⟩
    unfold RdTo
    rw [if_neg HE.out]
    exact ⟨A, m, c, HR.out.set 1 _, H.out.len, (But.set 1 _).src H.out.src (fun hl a ha => by have := H.out.low hl a ha; omega), H.out.cap, H.out.max, H.out.bytes, H.out.few, H.out.low⟩
theorem read_used {xs : List Int} (hx : IsBytes xs) : ((readOf xs).2.2 = 0 → (readOf xs).2.1 ≤ xs.length ∧ 1 ≤ (readOf xs).2.1) ∧ (readOf xs).2.1 ≤ xs.length ∧ (readOf xs).1 < 18446744073709551616 := by
  rcases read_cases xs hx with ⟨e, he, h0⟩ | ⟨k, k1, k2, hr, hv, _, _⟩
  · rw [he]; exact ⟨fun h => absurd h h0, Nat.zero_le _, by show 0 < _; omega⟩
  · rw [hr]; exact ⟨fun _ => ⟨k2, k1⟩, k2, hv⟩
set_option maxHeartbeats 1000000 in
theorem number_any {w : World} {g : Nat} {A : Option Addr} {m c : Nat} {xs : List Int} {x : Bool} (h : Rd w g A m c xs x) :
    Calls Try.prog 23 #[.pointer (some ⟨g, 0, none⟩)] w fun r w' => r = .returned (.int .u64 ((readOf xs).1 : Int)) ∧ But g w w' ∧ RdTo w' g xs x (readOf xs).2.1 ((readOf xs).2.2 : Int) := by
  obtain ⟨h1, h2, h3⟩ := read_used h.bytes
  have c0 := h.c0
  obtain ⟨a, ha⟩ : ∃ a : Int, Hid (a = ((readOf xs).1 : Int)) := ⟨_, rfl⟩
  obtain ⟨k, hk⟩ : ∃ k : Nat, Hid (k = (readOf xs).2.1) := ⟨_, rfl⟩
  obtain ⟨e, he⟩ : ∃ e : Int, Hid (e = ((readOf xs).2.2 : Int)) := ⟨_, rfl⟩
  have HE : Hid (((readOf xs).1 : Int) = a ∧ ((readOf xs).2.1 : Int) = (k : Int) ∧ ((readOf xs).2.2 : Int) = e) := by rw [ha.out, hk.out, he.out]; exact ⟨rfl, rfl, rfl⟩
  have HK : Hid (e = 0 → k ≤ m) := fun h0 => by rw [hk.out, h.len]; exact h2
  rw [← hk.out, ← he.out, ← ha.out]
  rw [← hk.out] at h2
  have a0 : 0 ≤ a := by rw [ha.out]; omega
  have a1 : a < 18446744073709551616 := by rw [ha.out]; omega
  have k1 : k ≤ 10000 := by have := h.len; have := h.few; omega
  have hg := h.row.lt
  have H := Lib.hid h
  clear h h1 h2 h3 hk he ha
  go_enter Try.func23, Try.ntmps23
  go_wp2_with fail
  refine (reads_p A m c xs a k e _ H.out.len H.out.src H.out.bytes (by have := H.out.few; omega) HE.out).mono ?_
  rintro r w1 ⟨rfl, rfl⟩
  go_wp2_with fail
  refine (pass_any H.out k e HK.out).mono ?_
  rintro r w2 ⟨rfl, hb, hto⟩
  have HB := Lib.hid hb
  have HT := Lib.hid hto
  clear hb hto c0
  go_wp2_with fail
  go_ret
  exact ⟨rfl, HB.out, HT.out⟩
/-- A text as bytes of their own. -/
theorem wpList_bytesT {ops : Array Oper} {rest : List Oper} {o : Oper} {a : Act} {w : World} {Q : Exit → Act → World → Prop} (hg : o.guard = none) (y : Operand) (ho : o.op = .convert 9 22 y) (s : ByteArray) (l : List Int) (hl : numsOf s = l) (hy : a.eval y = .string s) (hs : l.length ≤ 1000000)
    (h : ∀ w' B d, BT w' 5 (.slice B l.length d) l → Src .u8 w' B l → l.length ≤ d → d ≤ 9223372036854775807 → (∀ b, B = some b → b.block = w.heap.size) → Below w.heap.size w w' → wpList Try.prog ops Q rest (a.put o.dst (.slice B l.length d)) w') : wpList Try.prog ops Q (o :: rest) a w := by
  have hsz : s.size = l.length := by rw [← numsOf_length, hl]
  refine wpList_plain hg fun K hK => ?_
  unfold Oper.wp execOp
  simp only [ho, hy, Sem.run_bind, Lib.run_convert_string_bytes (P := Try.prog) w 9 22 5 s Try.underlying9 Try.underlying22 Try.underlying5, Result.andThen_ok, Sem.run_pure]
  have hm := grownCap_le_maxLen w s.size 0 5 (by unfold maxLen; omega)
  have hge := grownCap_ge w s.size 0 5
  have hsrc : Src .u8 (Lib.bytesWorld w 5 s) (some ⟨w.heap.size, 0, none⟩) l := fun _ => ⟨w.heap.size, 0, rfl, by rw [Lib.bytesWorld_size]; omega, fun i hi => by
    rw [Nat.zero_add, Lib.bytesWorld_cell w 5 s i (by omega)]
    have hd : i < s.data.toList.length := by show i < s.size; omega
    rw [← hl]
    unfold numsOf
    rw [List.getD_eq_getElem?_getD, List.getD_eq_getElem?_getD, List.getElem?_map, List.getElem?_eq_getElem hd]
    rfl⟩
  rw [hsz] at hm hge ⊢
  refine hK _ _ (h _ (some ⟨w.heap.size, 0, none⟩) _ ⟨_, _, rfl, hsrc, hge, hm, fun _ b hb => ?_⟩ hsrc hge (by unfold maxLen at hm; exact hm) (fun b hb => by injection hb with hb; rw [← hb]) ⟨rfl, rfl, rfl, by rw [Lib.bytesWorld_size]; omega, fun i hi => Lib.bytesWorld_at_old w 5 s i hi⟩)
  injection hb with hb
  rw [← hb]
  exact ⟨_, _, Lib.bytesWorld_at_new w 5 s⟩
theorem text_used {xs : List Int} (hx : IsBytes xs) (most : Int) : (readText xs most).2.1 ≤ xs.length ∧ (readText xs most).1.length ≤ xs.length ∧ IsBytes (readText xs most).1 ∧ ((readText xs most).2.2 = 0 → ((readText xs most).1.length : Int) ≤ most) := by
  have hu := (read_used hx).2.1
  unfold readText
  split
  · exact ⟨Nat.zero_le _, Nat.zero_le _, IsBytes.nil, fun h => absurd h ‹_›⟩
  · split
    · exact ⟨Nat.zero_le _, Nat.zero_le _, IsBytes.nil, fun h => by cases h⟩
    · split
      · exact ⟨Nat.zero_le _, Nat.zero_le _, IsBytes.nil, fun h => by cases h⟩
      · refine ⟨by show _ + _ ≤ _; omega, ?_, (hx.drop _).take _, fun _ => ?_⟩ <;> · rw [List.length_take, List.length_drop]; omega
set_option maxHeartbeats 1000000 in
theorem rtext_any {w : World} {g : Nat} {A : Option Addr} {m c : Nat} {xs : List Int} {x : Bool} (h : Rd w g A m c xs x) (most : Int) (m1 : -9223372036854775808 ≤ most) (m2 : most ≤ 9223372036854775807) :
    Calls Try.prog 26 #[.pointer (some ⟨g, 0, none⟩), .int .i64 most] w fun r w' => (∃ B d, r = .returned (.slice B (readText xs most).1.length d) ∧ BT w' 5 (.slice B (readText xs most).1.length d) (readText xs most).1 ∧ (∀ b, B = some b → w.heap.size ≤ b.block)) ∧ But g w w' ∧ RdTo w' g xs x (readText xs most).2.1 ((readText xs most).2.2 : Int) := by
  obtain ⟨h1, h2, h3, h4⟩ := text_used h.bytes most
  have c0 := h.c0
  obtain ⟨l, hl⟩ : ∃ l : List Int, Hid (l = (readText xs most).1) := ⟨_, rfl⟩
  obtain ⟨k, hk⟩ : ∃ k : Nat, Hid (k = (readText xs most).2.1) := ⟨_, rfl⟩
  obtain ⟨e, he⟩ : ∃ e : Int, Hid (e = ((readText xs most).2.2 : Int)) := ⟨_, rfl⟩
  rw [← hk.out, ← he.out, ← hl.out]
  rw [← hk.out] at h1
  rw [← hl.out] at h2 h3
  have HK : Hid (e = 0 → k ≤ m) := fun h0 => by rw [h.len]; exact h1
  have hlen : l.length ≤ 10000 := by have := h.len; have := h.few; omega
  have hkm : k ≤ 10000 := by have := h.len; have := h.few; omega
  have HN := Lib.hid (numsOf_strOfNums l h3)
  have hg := h.row.lt
  have H := Lib.hid h
  have HX : Hid (TextEnds xs most = fun (w : World) (r : Ending) w' => r = .returned (.tuple #[.string (strOfNums l), .int .i64 (k : Int), .int .i64 e]) ∧ Ext w w') := by show _ = _; unfold TextEnds; rw [← hl.out, ← hk.out, ← he.out]
  clear h h1 h2 h3 h4 hk he hl
  generalize strOfNums l = s at *
  go_enter Try.func26, Try.ntmps26
  go_wp2_with fail
  refine (goReadText_any A m c xs most _ H.out.len H.out.src H.out.bytes H.out.few H.out.cap H.out.max m1 m2).mono ?_
  rw [HX.out]
  rintro r w1 ⟨rfl, hb1⟩
  have H1 := Lib.hid (H.out.keep hb1)
  have HB1 := Lib.hid hb1
  clear hb1 c0
  go_wp2_with fail
  refine (pass_any H1.out k e HK.out).mono ?_
  rintro r w2 ⟨rfl, hb, hto⟩
  have HB := Lib.hid ((But.grow HB1.out).trans hb)
  have HT := Lib.hid hto
  have hs2 := HB.out.size
  clear hb hto
  go_wp2_with (refine wpList_bytesT rfl _ rfl s l HN.out rfl (by omega) ?_; intro w3 B d hBT hsrc hd1 hd2 hblk hb3; have HBT := Lib.hid hBT; have HBL := Lib.hid hblk; have HB3 := Lib.hid hb3; clear hBT hsrc hblk hb3)
  go_ret
  refine ⟨⟨B, d, rfl, HBT.out, fun b hb => by rw [HBL.out b hb]; exact hs2⟩, HB.out.then HB3.out, ?_⟩
  have HT' := HT.out
  unfold RdTo at HT' ⊢
  split <;> rename_i h0
  · rw [if_pos h0] at HT'
    obtain ⟨A', m', c', h'⟩ := HT'
    exact ⟨A', m', c', h'.keep HB3.out⟩
  · rw [if_neg h0] at HT'
    obtain ⟨A', m', c', h'⟩ := HT'
    exact ⟨A', m', c', h'.keep HB3.out⟩
theorem RdTo.keep {w w' : World} {g : Nat} {xs : List Int} {x : Bool} {k : Nat} {e : Int} (h : RdTo w g xs x k e) (hb : Below w.heap.size w w') : RdTo w' g xs x k e := by
  unfold RdTo at h ⊢
  split <;> rename_i h0
  · rw [if_pos h0] at h
    obtain ⟨A', m', c', h'⟩ := h
    exact ⟨A', m', c', h'.keep hb⟩
  · rw [if_neg h0] at h
    obtain ⟨A', m', c', h'⟩ := h
    exact ⟨A', m', c', h'.keep hb⟩
end Lf
end Go.Proofs.Ytnoofmdhhlcbkaa

namespace Go.Proofs.Ytnoofmdhhlcbkaa
open Go.RowKit
namespace Lf
open Els

theorem readErr_len {xs : List Int} (h : readErr xs = 0) : 52 ≤ xs.length := by
  unfold readErr at h
  split at h
  · cases h
  · omega
theorem readErr_range (xs : List Int) : 0 ≤ readErr xs ∧ readErr xs ≤ 11 := by
  unfold readErr
  split
  · omega
  · split <;> omega
theorem Rd.only {w w' : World} {g b : Nat} {A : Option Addr} {m c : Nat} {xs : List Int} {x : Bool} (h : Rd w g A m c xs x) (o : Only b w w') (hb : g < b) : Rd w' g A m c xs x :=
  ⟨o.row h.row (by omega), h.len, (fun hn => o.src h.src (fun a ha => by have := h.low hn a ha; omega) hn), h.cap, h.max, h.bytes, h.few, h.low⟩
theorem RdTo.only {w w' : World} {g b : Nat} {xs : List Int} {x : Bool} {k : Nat} {e : Int} (h : RdTo w g xs x k e) (o : Only b w w') (hb : g < b) : RdTo w' g xs x k e := by
  unfold RdTo at h ⊢
  split <;> rename_i h0
  · rw [if_pos h0] at h
    obtain ⟨A', m', c', h'⟩ := h
    exact ⟨A', m', c', h'.only o hb⟩
  · rw [if_neg h0] at h
    obtain ⟨A', m', c', h'⟩ := h
    exact ⟨A', m', c', h'.only o hb⟩
set_option maxHeartbeats 2000000 in
theorem kid_any {w : World} {g : Nat} {A : Option Addr} {m c : Nat} {xs : List Int} {x : Bool} (h : Rd w g A m c xs x) :
    Calls Try.prog 25 #[.pointer (some ⟨g, 0, none⟩)] w fun r w' => r = .returned (.agg (pcells (readPt xs))) ∧ But g w w' ∧ RdTo w' g xs x 52 (readErr xs) := by
  have HP := Lib.hid (readPt_ok xs h.bytes).shaL
  have HK : Hid (readErr xs = 0 → 52 ≤ m) := fun h0 => by rw [h.len]; exact readErr_len h0
  obtain ⟨e, he⟩ : ∃ e : Int, Hid (e = readErr xs) := ⟨_, rfl⟩
  obtain ⟨p, hp⟩ : ∃ p : Pt, Hid (p = readPt xs) := ⟨_, rfl⟩
  have HX : Hid (∀ (A : Option Addr) (n c : Nat) (w : World), n = xs.length → Src .u8 w A xs → IsBytes xs → n ≤ c → c ≤ 9223372036854775807 → Calls Try.prog 42 #[.slice A n c] w fun r w' => r = .returned (.tuple #[.agg (pcells p), .int .i64 e]) ∧ Below w.heap.size w w') := by
    rw [hp.out, he.out]; exact fun A n c w => pread_any A n c xs w
  rw [← he.out] at HK
  rw [← hp.out] at HP
  rw [← he.out, ← hp.out]
  have hg := h.row.lt
  have H := Lib.hid h
  clear h he hp
  go_enter Try.func25, Try.ntmps25
  go_wp2_with (refine wpList_allocP _ rfl rfl rfl ?_; intro w1 r1 b1 s1; have H1 := Lib.hid (H.out.keep b1); have c0 := H1.out.c0; have R1 := Lib.hid r1; have B1 := Lib.hid b1; clear r1 b1)
  refine (HX.out A m c _ H1.out.len H1.out.src H1.out.bytes H1.out.cap H1.out.max).mono ?_
  rintro r w2 ⟨rfl, hb2⟩
  have H2 := Lib.hid (H1.out.keep hb2)
  have R2 := Lib.hid (R1.out.keep hb2)
  have B2 := Lib.hid (B1.out.trans (hb2.mono B1.out.size))
  clear c0 hb2 H1 R1 B1 s1
  go_wp2_with (first
    | (refine wpList_allocP _ rfl rfl rfl ?_; intro w3 r3 b3 s3; have H3 := Lib.hid (H2.out.keep b3); have R3 := Lib.hid (R2.out.keep b3); have B3 := Lib.hid (B2.out.trans (b3.mono B2.out.size)))
    | (refine wpList_storeP rfl _ _ rfl _ rfl p rfl HP.out Pt.zero rfl r3 ?_; intro w4 r4 o4; have hgs := B2.out.size; have hne : w2.heap.size ≠ g := (by have := H2.out.row.lt; omega); have hne2 : w2.heap.size ≠ w.heap.size := (by have := R2.out.lt; omega); have H4 : Hid (Rd w4 g A m c xs x) := ⟨(o4.block g (Ne.symm hne)).trans H3.out.row, H3.out.len, (fun hn => o4.src H3.out.src (fun a ha => by have := H3.out.low hn a ha; omega) hn), H3.out.cap, H3.out.max, H3.out.bytes, H3.out.few, H3.out.low⟩; have R4 := Lib.hid (o4.row R3.out (Ne.symm hne2)); have S4 := Lib.hid r4; have B4 := Lib.hid (B3.out.trans (o4.below.mono (by omega))); clear r3 b3 s3 r4 o4 H3 R3 B3 H2 R2 B2))
  refine (pass_any (k := 52) H4.out e HK.out).mono ?_
  rintro r w5 ⟨rfl, hb5, hto⟩
  have R5 := Lib.hid (hb5.row R4.out (by omega))
  have S5 := Lib.hid (hb5.row S4.out hne)
  have B5 := Lib.hid ((But.grow B4.out).trans hb5)
  have T5 := Lib.hid hto
  clear hb5 hto R4 S4 B4 H4
  go_wp2_with (first
    | (refine wpList_loadP _ rfl rfl _ rfl p HP.out S5.out ?_)
    | (refine wpList_storeP rfl _ _ rfl _ rfl p rfl HP.out Pt.zero rfl R5.out ?_; intro w6 r6 o6))
  refine bodyPost_ret (results_cell_row rfl _ _ w.heap.size _ (pcells p) _ _ rfl r6 Try.underlying43 rfl (pt_size HP.out)) rfl ?_
  refine ⟨rfl, ⟨o6.below.os.trans B5.out.os, o6.below.tape.trans B5.out.tape, o6.below.output.trans B5.out.output, by rw [o6.size]; exact B5.out.size, fun k hk hkg => (o6.block k (by omega)).trans (B5.out.block k hk hkg)⟩, T5.out.only o6 hg⟩
/-- A row of zeros, laid over by two rows one behind the other. -/
theorem splice_two (xs ys : List Int) (L : Nat) (hL : L = xs.length + ys.length) : splice (splice (cellsOf .u8 (zerosL L)) 0 (cellsOf .u8 xs)) xs.length (cellsOf .u8 ys) = cellsOf .u8 (xs ++ ys) := by
  have h1 : splice (cellsOf .u8 (zerosL L)) 0 (cellsOf .u8 xs) = cellsOf .u8 xs ++ (cellsOf .u8 (zerosL L)).drop xs.length := by
    unfold splice
    rw [List.take_zero, List.nil_append, Nat.zero_add, cellsOf_length]
  rw [h1]
  unfold splice
  have e1 : (cellsOf .u8 xs ++ (cellsOf .u8 (zerosL L)).drop xs.length).take xs.length = cellsOf .u8 xs := by
    rw [List.take_append_of_le_length (by rw [cellsOf_length]; exact Nat.le_refl _), List.take_of_length_le (by rw [cellsOf_length]; exact Nat.le_refl _)]
  have e2 : (cellsOf .u8 xs ++ (cellsOf .u8 (zerosL L)).drop xs.length).drop (xs.length + (cellsOf .u8 ys).length) = [] := by
    refine List.drop_of_length_le ?_
    rw [List.length_append, List.length_drop, cellsOf_length, cellsOf_length, cellsOf_length, zerosL_length]
    omega
  rw [e1, e2, List.append_nil, cellsOf_append]
theorem src_ad {w : World} {A : Option Addr} {xs : List Int} (h : Src .u8 w A xs) (hp : 0 < (cellsOf .u8 xs).length) : ∃ ad, A = some ad ∧ ∀ j v, (cellsOf .u8 xs)[j]? = some v → w.cell? (ad.add j) = some v := by
  rw [cellsOf_length] at hp
  obtain ⟨b, o, rfl, _, hc⟩ := h hp
  refine ⟨_, rfl, fun j v hv => ?_⟩
  obtain ⟨hj, rfl⟩ := cellsOf_inv .u8 xs j v hv
  rw [add_addr]
  exact hc j hj
theorem Rd.wrong {w : World} {g : Nat} {A : Option Addr} {m c : Nat} {xs : List Int} {x : Bool} (h : Rd w g A m c xs x) : Rd (w.setCell ⟨g, 1, none⟩ (.bool true)) g A m c xs true :=
  ⟨h.row.set 1 _, h.len, (But.set 1 _).src h.src (fun hl a ha => by have := h.low hl a ha; omega), h.cap, h.max, h.bytes, h.few, h.low⟩
theorem min_left {a b : Nat} (h : a ≤ b) : a = Nat.min a b := (Nat.min_eq_left h).symm
/-- Is a key there? -/
def KeyGood (xs ys : List Int) : Prop := (readOf xs).2.2 = 0 ∧ (readText (xs.drop (readOf xs).2.1) 160).2.2 = 0 ∧ (readOf xs).1 ≤ ys.length
/-- What is left behind a key, and what the key is. -/
def keyRest (xs : List Int) : List Int := (xs.drop (readOf xs).2.1).drop (readText (xs.drop (readOf xs).2.1) 160).2.1
def keyOf (xs ys : List Int) : List Int := ys.take (readOf xs).1 ++ (readText (xs.drop (readOf xs).2.1) 160).1
def KeyEnds (g : Nat) (xs ys : List Int) (x : Bool) (w : World) (r : Ending) (w' : World) : Prop :=
  ∃ (B : Option Addr) (d : Nat) (l rest : List Int) (x' : Bool), r = .returned (.slice B l.length d) ∧ BT w' 5 (.slice B l.length d) l ∧ IsBytes l ∧ l.length ≤ ys.length + 160 ∧ But g w w' ∧ RdX w' g rest x' ∧ rest.length ≤ xs.length ∧
    ((KeyGood xs ys ∧ l = keyOf xs ys ∧ rest = keyRest xs ∧ x' = x) ∨ (¬ KeyGood xs ys ∧ x' = true))
theorem BT.nil {w : World} {U : TypeId} : BT w U (.slice none 0 0) [] := ⟨none, 0, rfl, Src.none_, Nat.le_refl _, by unfold maxLen; omega, fun h => absurd h (by simp)⟩
set_option maxRecDepth 100000 in
set_option maxHeartbeats 8000000 in
theorem key_any {w : World} {g : Nat} {A : Option Addr} {m c : Nat} {xs : List Int} {x : Bool} (h : Rd w g A m c xs x) (S : Option Addr) (d : Nat) (ys : List Int) (hy : BT w 5 (.slice S ys.length d) ys) (hyb : IsBytes ys) (hyl : ys.length ≤ 800000) :
    Calls Try.prog 24 #[.pointer (some ⟨g, 0, none⟩), .slice S ys.length d] w (KeyEnds g xs ys x w) := by
  have hg := h.row.lt
  have H := Lib.hid h
  have HY := Lib.hid hy
  have HYB := Lib.hid hyb
  have HU := Lib.hid (read_used h.bytes)
  obtain ⟨t, ht⟩ : ∃ t : Nat, Hid (t = (readOf xs).1) := ⟨_, rfl⟩
  obtain ⟨k, hk⟩ : ∃ k : Nat, Hid (k = (readOf xs).2.1) := ⟨_, rfl⟩
  obtain ⟨e, he⟩ : ∃ e : Nat, Hid (e = (readOf xs).2.2) := ⟨_, rfl⟩
  have t0 : t < 18446744073709551616 := by rw [ht.out]; exact HU.out.2.2
  clear h hy hyb
  go_enter Try.func24, Try.ntmps24
  go_wp2_with fail
  refine (number_any H.out).mono ?_
  rw [← ht.out, ← hk.out, ← he.out]
  rintro r w1 ⟨rfl, hb1, hto1⟩
  obtain ⟨xs1, x1, ⟨A1, m1, c1, hrd1⟩, hinfo1⟩ : ∃ xs1 x1, RdX w1 g xs1 x1 ∧ ((e = 0 ∧ xs1 = xs.drop k ∧ x1 = x) ∨ (e ≠ 0 ∧ xs1 = xs ∧ x1 = true)) := by
    by_cases h0 : e = 0
    · exact ⟨_, _, hto1.yes (by omega), .inl ⟨h0, rfl, rfl⟩⟩
    · exact ⟨_, _, hto1.no (by omega), .inr ⟨h0, rfl, rfl⟩⟩
  have B1 := Lib.hid hb1
  have H1 := Lib.hid hrd1
  have I1 := Lib.hid hinfo1
  have hg1 := hrd1.row.lt
  clear hb1 hto1 hrd1 hinfo1
  go_wp2_with fail
  refine (rtext_any H1.out 160 (by omega) (by omega)).mono ?_
  obtain ⟨l2, hl2⟩ : ∃ l : List Int, Hid (l = (readText xs1 160).1) := ⟨_, rfl⟩
  obtain ⟨k2, hk2⟩ : ∃ k : Nat, Hid (k = (readText xs1 160).2.1) := ⟨_, rfl⟩
  obtain ⟨e2, he2⟩ : ∃ k : Nat, Hid (k = (readText xs1 160).2.2) := ⟨_, rfl⟩
  rw [← hl2.out, ← hk2.out, ← he2.out]
  rintro r w2 ⟨⟨B2', d2, rfl, hbt2, hbl2⟩, hb2, hto2⟩
  obtain ⟨xs2, x2, ⟨A2, m2, c2, hrd2⟩, hinfo2⟩ : ∃ xs2 x2, RdX w2 g xs2 x2 ∧ ((e2 = 0 ∧ xs2 = xs1.drop k2 ∧ x2 = x1) ∨ (e2 ≠ 0 ∧ xs2 = xs1 ∧ x2 = true)) := by
    by_cases h0 : e2 = 0
    · exact ⟨_, _, hto2.yes (by omega), .inl ⟨h0, rfl, rfl⟩⟩
    · exact ⟨_, _, hto2.no (by omega), .inr ⟨h0, rfl, rfl⟩⟩
  have hu2 := text_used H1.out.bytes 160
  rw [← hl2.out] at hu2
  have hl2n : l2.length ≤ 160 := by
    have := hu2.2.1
    by_cases h0 : (readText xs1 160).2.2 = 0
    · have := hu2.2.2.2 h0; omega
    · rw [hl2.out]
      unfold readText
      split
      · simp
      · split
        · simp
        · split
          · simp
          · rename_i h1 h2 h3
            exact absurd (by unfold readText; rw [if_neg h1, if_neg h2, if_neg h3]) h0
  have HL2 := Lib.hid hu2.2.2.1
  have HBT2 := Lib.hid hbt2
  have HBL2 := Lib.hid hbl2
  have B2 := Lib.hid (B1.out.trans hb2)
  have HY2 := Lib.hid (HY.out.keep (B2.out.keepT H.out.row (by decide)))
  have H2 := Lib.hid hrd2
  have I2 := Lib.hid hinfo2
  have hg2 := hrd2.row.lt
  have c1' := H2.out.c1
  have f1' := H2.out.row.free 1
  have hrl : Hid (xs2.length ≤ xs.length) := by
    show _ ≤ _
    have e1 : xs1.length ≤ xs.length := by
      rcases I1.out with ⟨_, h, _⟩ | ⟨_, h, _⟩
      · rw [h, List.length_drop]; omega
      · rw [h]; exact Nat.le_refl _
    rcases I2.out with ⟨_, h, _⟩ | ⟨_, h, _⟩
    · rw [h, List.length_drop]; omega
    · rw [h]; exact e1
  clear hu2 hbt2 hbl2 hb2 hto2 hrd2 hinfo2 B1 HY
  have u1 : IntKind.u64.wrap (ys.length : Int) = (ys.length : Int) := by rw [IntKind.wrap_u64]; omega
  by_cases hbig : ys.length < t
  · have HB : Hid (¬ KeyGood xs ys) := fun hh => by have := hh.2.2; rw [← ht.out] at this; omega
    go_wp2_with fail
    go_ret
    exact ⟨none, 0, [], xs2, true, rfl, BT.nil, IsBytes.nil, by simp, B2.out.trans (But.set 1 _), ⟨A2, m2, c2, H2.out.wrong⟩, hrl.out, .inr ⟨HB.out, rfl⟩⟩
  · have htl : t ≤ ys.length := by omega
    have t1 : decide (ys.length < t) = false := by simp; omega
    have t2 : decide ((ys.length : Int) < (t : Int)) = false := by simp; omega
    obtain ⟨L, hL⟩ : ∃ L : Nat, Hid (L = t + l2.length) := ⟨_, rfl⟩
    have u2 : IntKind.i64.wrap (t : Int) = (t : Int) := IntWalk.i64_in _ (by omega)
    have u3 : (t : Int) + (l2.length : Int) = (L : Int) := by have := hL.out; omega
    have hL1 : L ≤ 1000000 := by have := hL.out; omega
    obtain ⟨S0, d0, hv0, hs0, hc0, hm0, hin0⟩ := HY2.out
    injection hv0 with e1 _ e2'
    subst e1 e2'
    have HS := Lib.hid hs0
    have HT := Lib.hid (Cut.src_take hs0 htl)
    have hd1 : (t : Int) ≤ (d : Int) := by omega
    have hd2 : t ≤ d := by omega
    have hd3 : (d : Int) ≤ 9223372036854775807 := by unfold maxLen at hm0; omega
    obtain ⟨y1, hy1⟩ : ∃ y1 : List Int, Hid (y1 = ys.take t) := ⟨_, rfl⟩
    rw [← hy1.out] at HT
    have hy1l : y1.length = t := by rw [hy1.out, List.length_take]; omega
    have hn1 : (cellsOf .u8 y1).length = Nat.min t L := by rw [cellsOf_length, hy1l]; exact min_left (by have := hL.out; omega)
    have hf1 : 0 + (cellsOf .u8 y1).length ≤ (cellsOf .u8 (zerosL L)).length := by rw [cellsOf_length, cellsOf_length, zerosL_length, hy1l]; have := hL.out; omega
    have htL : t ≤ L := by have := hL.out; omega
    have hn2 : (cellsOf .u8 l2).length = Nat.min l2.length (L - t) := by rw [cellsOf_length]; exact min_left (by have := hL.out; omega)
    have hf2 : t + (cellsOf .u8 l2).length ≤ (splice (cellsOf .u8 (zerosL L)) 0 (cellsOf .u8 y1)).length := by
      rw [length_splice _ _ _ hf1, cellsOf_length, cellsOf_length, zerosL_length]
      have := hL.out
      omega
    have hcut : 0 < (cellsOf .u8 l2).length → Cut.cutA (some ⟨w2.heap.size, 0, none⟩) L t = some ⟨w2.heap.size, t, none⟩ := fun hp => by
      rw [cellsOf_length] at hp
      unfold Cut.cutA
      rw [if_neg (by have := hL.out; omega), Option.map_some, add_addr, Nat.zero_add]
    have HS2 : Hid (Src .u8 w2 B2' l2) := by
      obtain ⟨_, _, e, hs, _⟩ := HBT2.out
      injection e with e
      subst e
      exact hs
    have HSP : Hid (splice (splice (cellsOf .u8 (zerosL L)) 0 (cellsOf .u8 y1)) t (cellsOf .u8 l2) = cellsOf .u8 (y1 ++ l2)) := by
      have := splice_two y1 l2 L (by rw [hy1l]; exact hL.out)
      rw [hy1l] at this
      exact this
    clear hs0 hc0 hm0 hin0 hbig c1' f1'
    go_wp2_with (first
      | (refine wpList_makeZ rfl _ _ rfl L hL1 rfl rfl ?_; intro w3 r3 b3; have R3 := Lib.hid r3; have B3 := Lib.hid b3; clear r3 b3)
      | (refine Cut.wpList_run rfl _ (Cut.exec_three Try.underlying22 Cut.size8 rfl (j := t) rfl rfl rfl hd2 _) ?_)
      | (refine wpList_copy_splice rfl (.tmp 26) (.tmp 30) 22 22 rfl 5 Try.underlying22 Cut.size8 _ _ L L t t rfl rfl w2.heap.size 0 (cellsOf .u8 (zerosL L)) 5 R3.out (cellsOf .u8 y1) hn1 (fun hp => ⟨rfl, src_ad (HT.out.keep B3.out) hp⟩) hf1 (cellsOf_one _ _) w2.heap.size w2 B3.out (Nat.le_refl _) ?_; intro w4 hg4 hb4; have B4 := Lib.hid hb4; clear hb4)
      | (refine Cut.wpList_run rfl _ (Cut.exec_low Try.underlying22 Cut.size8 rfl (j := t) rfl rfl htL _) ?_)
      | (refine wpList_copy_splice rfl (.tmp 34) (.tmp 35) 22 22 rfl 5 Try.underlying22 Cut.size8 _ _ (L - t) (L - t) l2.length d2 rfl rfl w2.heap.size t (splice (cellsOf .u8 (zerosL L)) 0 (cellsOf .u8 y1)) 5 hg4.out (cellsOf .u8 l2) hn2 (fun hp => ⟨hcut hp, src_ad (HS2.out.keep B4.out) hp⟩) hf2 (cellsOf_one _ _) w2.heap.size w2 B4.out (Nat.le_refl _) ?_; intro w5 hg5 hb5; have B5 := Lib.hid hb5; clear hb5))
    go_ret
    rw [HSP.out] at hg5
    have hrow : Row w5 w2.heap.size 5 (bcells (y1 ++ l2)) := hg5.out
    have hlen : L = (y1 ++ l2).length := by rw [List.length_append, hy1l]; exact hL.out
    have hbt : BT w5 5 (.slice (some ⟨w2.heap.size, 0, none⟩) (y1 ++ l2).length L) (y1 ++ l2) := ⟨_, _, rfl, row_bytes hrow, by omega, by unfold maxLen; omega, fun _ a ha => by injection ha with ha; rw [← ha]; exact InT.row hrow⟩
    refine ⟨some ⟨w2.heap.size, 0, none⟩, L, y1 ++ l2, xs2, x2, by rw [← hlen]; rfl, hbt, (by rw [hy1.out]; exact IsBytes.append (HYB.out.take t) HL2.out), by omega, B2.out.trans (But.grow B5.out), ⟨A2, m2, c2, H2.out.keep B5.out⟩, hrl.out, ?_⟩
    rcases I1.out with ⟨i1, i2, i3⟩ | ⟨i1, i2, i3⟩
    · rcases I2.out with ⟨j1, j2, j3⟩ | ⟨j1, j2, j3⟩
      · refine .inl ⟨⟨by rw [← he.out]; exact i1, by rw [← hk.out, ← i2, ← he2.out]; exact j1, by rw [← ht.out]; exact htl⟩, ?_, ?_, by rw [j3, i3]⟩
        · unfold keyOf
          rw [← ht.out, ← hk.out, ← i2, ← hl2.out, ← hy1.out]
        · unfold keyRest
          rw [← hk.out, ← i2, ← hk2.out]
          exact j2
      · exact .inr ⟨fun hh => j1 (by have := hh.2.1; rw [← hk.out, ← i2, ← he2.out] at this; exact this), j3⟩
    · refine .inr ⟨fun hh => i1 (by have := hh.1; rw [← he.out] at this; exact this), ?_⟩
      rcases I2.out with ⟨_, _, j3⟩ | ⟨_, _, j3⟩
      · rw [j3, i3]
      · exact j3
end Lf
end Go.Proofs.Ytnoofmdhhlcbkaa

/- number and text, the document's: the next number, the next text, and what is behind it. No conditions but those that stand in each lemma. | The operations of the document's node as they are written (so that each fails fast at another): box, alloc, build, store, load of a node; a text as bytes, a slice of one, append, the store of a slice; of a pointer. No conditions but those that stand in each lemma. | parse, the document's: the node that bytes tell, if they are a node's: whatever node of right shape has these bytes is the one that is told. No conditions but those that stand in each lemma. -/
import Derived.Test.YtnoofmdhhlcbkaaLfNums
import Derived.Test.YtnoofmdhhlcbkaaLfKey
import Derived.Test.YtnoofmdhhlcbkaaCut
import Derived.Test.YtnoofmdhhlcbkaaLfStep
import Derived.Test.YtnoofmdhhlcbkaaPtrVar
import Derived.Test.YtnoofmdhhlcbkaaPtrRefRead

namespace Go.Proofs.Ytnoofmdhhlcbkaa
open Go.RowKit
namespace Lf
open Els

/-- Bytes that are read. -/
structure Bt (w : World) (A : Option Addr) (n c : Nat) (xs : List Int) : Prop where
  len : n = xs.length
  src : Src .u8 w A xs
  cap : n ≤ c
  max : c ≤ 9223372036854775807
  bytes : IsBytes xs
  few : n ≤ 10000
section
variable {w w' : World} {A : Option Addr} {n c : Nat} {xs : List Int}
theorem Bt.keep (h : Bt w A n c xs) (hb : Below w.heap.size w w') : Bt w' A n c xs := ⟨h.len, h.src.keep hb, h.cap, h.max, h.bytes, h.few⟩
theorem Bt.none_ (w : World) : Bt w none 0 0 [] := ⟨rfl, Src.none_, by omega, by omega, IsBytes.nil, by omega⟩
theorem Bt.cut (h : Bt w A n c xs) {k : Nat} (hk : k ≤ n) : Bt w (Cut.cutA A c k) (n - k) (c - k) (xs.drop k) :=
  ⟨by rw [List.length_drop, h.len], Cut.src_cut h.src (by rw [← h.len]; exact hk) (by rw [← h.len]; exact h.cap), by have := h.cap; omega, by have := h.max; omega, h.bytes.drop k, by have := h.few; omega⟩
theorem Bt.cutEq (h : Bt w A n c xs) {k : Nat} (hk : k ≤ n) (e : c = k) : Bt w A (n - k) 0 (xs.drop k) := by
  have := h.cut hk
  unfold Cut.cutA at this
  rw [if_pos e, e, Nat.sub_self] at this
  exact this
theorem Bt.cutNe (h : Bt w A n c xs) {k : Nat} (hk : k ≤ n) (e : ¬ c = k) : Bt w (A.map (fun x => x.add k)) (n - k) (c - k) (xs.drop k) := by
  have := h.cut hk
  unfold Cut.cutA at this
  rw [if_neg e] at this
  exact this
end
/-- What the next number is. -/
def NumIs (xs : List Int) (v : Nat) (ys : List Int) (ok : Bool) : Prop :=
  (ok = true ∧ (readOf xs).2.2 = 0 ∧ v = (readOf xs).1 ∧ v ≤ 65536 ∧ ys = xs.drop (readOf xs).2.1) ∨ (ok = false ∧ v = 0 ∧ ys = [] ∧ ((readOf xs).2.2 ≠ 0 ∨ 65536 < (readOf xs).1))
def NumEnds (A : Option Addr) (n c : Nat) (xs : List Int) (w : World) (e : Ending) (w' : World) : Prop :=
  ∃ (A' : Option Addr) (n' c' : Nat) (ys : List Int) (v : Nat) (ok : Bool), e = .returned (.tuple #[.int .i64 (v : Int), .slice A' n' c', .bool ok]) ∧ (∀ W, Bt W A n c xs → Bt W A' n' c' ys) ∧ NumIs xs v ys ok ∧ Below w.heap.size w w'
set_option maxHeartbeats 1000000 in
theorem rnumber_any {w : World} {A : Option Addr} {n c : Nat} {xs : List Int} (h : Bt w A n c xs) :
    Calls Try.prog 27 #[.slice A n c] w (NumEnds A n c xs w) := by
  obtain ⟨h1, h2, h3⟩ := read_used h.bytes
  obtain ⟨a, ha⟩ : ∃ a : Nat, Hid (a = (readOf xs).1) := ⟨_, rfl⟩
  obtain ⟨k, hk⟩ : ∃ k : Nat, Hid (k = (readOf xs).2.1) := ⟨_, rfl⟩
  obtain ⟨e, he⟩ : ∃ e : Int, Hid (e = ((readOf xs).2.2 : Int)) := ⟨_, rfl⟩
  have HE : Hid (((readOf xs).1 : Int) = (a : Int) ∧ ((readOf xs).2.1 : Int) = (k : Int) ∧ ((readOf xs).2.2 : Int) = e) := by rw [ha.out, hk.out, he.out]; exact ⟨rfl, rfl, rfl⟩
  have hkn : k ≤ n := by rw [hk.out, h.len]; exact h2
  have a1 : a < 18446744073709551616 := by rw [ha.out]; exact h3
  have k1 : n ≤ 10000 := h.few
  have H := Lib.hid h
  clear h h1 h2 h3
  by_cases he0 : e = 0
  · subst he0
    by_cases hbig : 65536 < a
    · have hd : decide ((65536 : Int) < (a : Int)) = true := by simp; omega
      go_enter Try.func27, Try.ntmps27
      go_wp2_with fail
      refine (reads_r A n c xs a k 0 _ H.out.len H.out.src H.out.bytes (by omega) HE.out).mono ?_
      rintro r w1 ⟨rfl, rfl⟩
      go_wp2_with fail
      go_ret3
      exact ⟨none, 0, 0, [], 0, false, rfl, fun W _ => Bt.none_ W, .inr ⟨rfl, rfl, rfl, .inr (by rw [← ha.out]; exact hbig)⟩, Below.refl _ _⟩
    · have hd : decide ((65536 : Int) < (a : Int)) = false := by simp; omega
      have hw : IntKind.i64.wrap (a : Int) = (a : Int) := IntWalk.i64_in _ (by omega)
      go_enter Try.func27, Try.ntmps27
      go_wp2_with fail
      refine (reads_r A n c xs a k 0 _ H.out.len H.out.src H.out.bytes (by omega) HE.out).mono ?_
      rintro r w1 ⟨rfl, rfl⟩
      go_wp2_with fail
      refine wp_region_segs [] [0, 1, 2, 3, 4, 5, 6, 7] (by kernel_rfl) (by kernel_rfl) (by kernel_rfl) (by kernel_rfl) (fun _ _ d _ _ h => by cases d <;> exact h) ?_
      refine wpSegs_last (by simp [pickOps]; rfl) ?_
      repeat (go_big_quiet_step (refine Cut.wpQuiet_run rfl _ (fun g => Cut.exec_low Try.underlying22 Cut.size8 rfl (j := k) rfl rfl hkn _) ?_))
      refine wpQuiet_nil ?_
      go_wp2_with fail
      · have hck := h
        go_ret3
        exact ⟨_, _, _, _, a, true, rfl, fun W q => q.cutEq hkn rfl, .inl ⟨rfl, by have := he.out; omega, ha.out, by omega, by rw [← hk.out]⟩, (Below.refl _ _).drew⟩
      · have hck := h
        go_ret3
        exact ⟨_, _, _, _, a, true, rfl, fun W q => q.cutNe hkn hck, .inl ⟨rfl, by have := he.out; omega, ha.out, by omega, by rw [← hk.out]⟩, (Below.refl _ _).drew⟩
  · have ne1 : (e == 0) = false := beq_eq_false_iff_ne.2 he0
    have ne2 : (e != 0) = true := by rw [bne_iff_ne]; exact he0
    go_enter Try.func27, Try.ntmps27
    go_wp2_with fail
    refine (reads_r A n c xs a k e _ H.out.len H.out.src H.out.bytes (by omega) HE.out).mono ?_
    rintro r w1 ⟨rfl, rfl⟩
    go_wp2_with fail
    go_ret3
    exact ⟨none, 0, 0, [], 0, false, rfl, fun W _ => Bt.none_ W, .inr ⟨rfl, rfl, rfl, .inl (by have := he.out; omega)⟩, Below.refl _ _⟩
/-- What the next text is. -/
def TxtIs (xs l ys : List Int) (ok : Bool) : Prop :=
  (ok = true ∧ (readText xs 65536).2.2 = 0 ∧ l = (readText xs 65536).1 ∧ ys = xs.drop (readText xs 65536).2.1) ∨ (ok = false ∧ l = [] ∧ ys = [] ∧ (readText xs 65536).2.2 ≠ 0)
def TxtEnds (A : Option Addr) (n c : Nat) (xs : List Int) (w : World) (e : Ending) (w' : World) : Prop :=
  ∃ (A' : Option Addr) (n' c' : Nat) (ys l : List Int) (ok : Bool), e = .returned (.tuple #[.string (strOfNums l), .slice A' n' c', .bool ok]) ∧ (∀ W, Bt W A n c xs → Bt W A' n' c' ys) ∧ TxtIs xs l ys ok ∧ Below w.heap.size w w'
set_option maxHeartbeats 1000000 in
theorem rtxt_any {w : World} {A : Option Addr} {n c : Nat} {xs : List Int} (h : Bt w A n c xs) :
    Calls Try.prog 28 #[.slice A n c] w (TxtEnds A n c xs w) := by
  obtain ⟨h1, h2, h3, h4⟩ := text_used h.bytes 65536
  obtain ⟨l, hl⟩ : ∃ l : List Int, Hid (l = (readText xs 65536).1) := ⟨_, rfl⟩
  obtain ⟨k, hk⟩ : ∃ k : Nat, Hid (k = (readText xs 65536).2.1) := ⟨_, rfl⟩
  obtain ⟨e, he⟩ : ∃ e : Int, Hid (e = ((readText xs 65536).2.2 : Int)) := ⟨_, rfl⟩
  have hkn : k ≤ n := by rw [hk.out, h.len]; exact h1
  have k1 : n ≤ 10000 := h.few
  obtain ⟨s, HS⟩ : ∃ s, Hid (s = strOfNums l) := ⟨_, rfl⟩
  have HX : Hid (TextEnds xs 65536 = fun (w : World) (r : Ending) w' => r = .returned (.tuple #[.string s, .int .i64 (k : Int), .int .i64 e]) ∧ Ext w w') := by show _ = _; unfold TextEnds; rw [← hl.out, ← hk.out, ← he.out, HS.out]
  have H := Lib.hid h
  clear h h1 h2 h3 h4
  by_cases he0 : e = 0
  · subst he0
    go_enter Try.func28, Try.ntmps28
    go_wp2_with fail
    refine (refReadText_any A n c xs 65536 _ H.out.len H.out.src H.out.bytes H.out.few H.out.cap H.out.max (by omega) (by omega)).mono ?_
    rw [HX.out]
    rintro r w1 ⟨rfl, hb1⟩
    have HB := Lib.hid hb1
    clear hb1
    go_wp2_with fail
    refine wp_region_segs [] [0, 1, 2, 3, 4, 5, 6] (by kernel_rfl) (by kernel_rfl) (by kernel_rfl) (by kernel_rfl) (fun _ _ d _ _ h => by cases d <;> exact h) ?_
    refine wpSegs_last (by simp [pickOps]; rfl) ?_
    repeat (go_big_quiet_step (refine Cut.wpQuiet_run rfl _ (fun g => Cut.exec_low Try.underlying22 Cut.size8 rfl (j := k) rfl rfl hkn _) ?_))
    refine wpQuiet_nil ?_
    have HB2 : Hid (Below w.heap.size w w1.drew) := Below.drew HB.out
    go_wp2_with fail
    · have hck := h
      go_ret3
      exact ⟨_, _, _, _, l, true, (by rw [← HS.out]; rfl), fun W q => q.cutEq hkn rfl, .inl ⟨rfl, by have := he.out; omega, hl.out, by rw [← hk.out]⟩, HB2.out⟩
    · have hck := h
      go_ret3
      exact ⟨_, _, _, _, l, true, (by rw [← HS.out]; rfl), fun W q => q.cutNe hkn hck, .inl ⟨rfl, by have := he.out; omega, hl.out, by rw [← hk.out]⟩, HB2.out⟩
  · have ne1 : (e == 0) = false := beq_eq_false_iff_ne.2 he0
    have ne2 : (e != 0) = true := by rw [bne_iff_ne]; exact he0
    go_enter Try.func28, Try.ntmps28
    go_wp2_with fail
    refine (refReadText_any A n c xs 65536 _ H.out.len H.out.src H.out.bytes H.out.few H.out.cap H.out.max (by omega) (by omega)).mono ?_
    rw [HX.out]
    rintro r w1 ⟨rfl, hb1⟩
    have HB := Lib.hid hb1
    clear hb1
    go_wp2_with fail
    go_ret3
    exact ⟨none, 0, 0, [], [], false, rfl, fun W _ => Bt.none_ W, .inr ⟨rfl, rfl, rfl, by have := he.out; omega⟩, HB.out⟩
end Lf
end Go.Proofs.Ytnoofmdhhlcbkaa

namespace Go.Proofs.Ytnoofmdhhlcbkaa
open Go.RowKit
namespace Lf
open Els
section
variable {ops : Array Oper} {rest : List Oper} {a : Act} {w : World} {Q : Exit → Act → World → Prop} {d : Option Tmp} {ty : TypeId} {pos : String} {af : Array Edge} {gd : Option (Nat × Bool)}
  {n : Nd} {A1 : Option Addr} {c1 : Nat} {A2 : Option Addr} {c2 : Nat} {A3 : Option Addr} {c3 : Nat} {T : TypeId} {x y : Operand}
theorem opBox (hx : a.eval x = .agg (ndC n A1 c1 A2 c2 A3 c3))
    (h : ∀ w', Row w' w.heap.size T (ndC n A1 c1 A2 c2 A3 c3) → Below w.heap.size w w' → w'.heap.size = w.heap.size + 1 → wpList Try.prog ops Q rest (a.put d (.pointer (some ⟨w.heap.size, 0, none⟩))) w') :
    wpList Try.prog ops Q ({ dst := d, op := .box T x, type := ty, pos := pos, after := af, guard := none } :: rest) a w := wpList_boxN rfl _ rfl hx h
theorem opAlloc (h : ∀ w', Row w' w.heap.size 30 (ndC Nd.zero none 0 none 0 none 0) → Below w.heap.size w w' → w'.heap.size = w.heap.size + 1 → wpList Try.prog ops Q rest (a.put d (.pointer (some ⟨w.heap.size, 0, none⟩))) w') :
    wpList Try.prog ops Q ({ dst := d, op := .alloc 30, type := ty, pos := pos, after := af, guard := none } :: rest) a w := wpList_allocN ltR rfl rfl h
theorem opBuild0 (hw : Region.wanted { dst := d, op := .build 30 #[], type := ty, pos := pos, after := af, guard := gd } (yielded ops a.tmps) = true) (h : wpList Try.prog ops Q rest (a.put d (.agg (ndC Nd.zero none 0 none 0 none 0))) w) :
    wpList Try.prog ops Q ({ dst := d, op := .build 30 #[], type := ty, pos := pos, after := af, guard := gd } :: rest) a w := wpList_buildN0 ltR rfl hw h
theorem opBuildL (l : Int) (hw : Region.wanted { dst := d, op := .build 30 #[(0, x)], type := ty, pos := pos, after := af, guard := gd } (yielded ops a.tmps) = true) (hx : a.eval x = .int .i64 l) (h : wpList Try.prog ops Q rest (a.put d (.agg (ndC ⟨l, [], [], []⟩ none 0 none 0 none 0))) w) :
    wpList Try.prog ops Q ({ dst := d, op := .build 30 #[(0, x)], type := ty, pos := pos, after := af, guard := gd } :: rest) a w := wpList_buildNL ltR _ rfl hw l hx h
theorem opStore (n : Nd) (A1 : Option Addr) (c1 : Nat) (A2 : Option Addr) (c2 : Nat) (A3 : Option Addr) (c3 : Nat) (g : Nat) {old : Array Value} (hr : Row w g 30 old) (hold : old.size = 4) (hx : a.eval x = .pointer (some ⟨g, 0, none⟩)) (hy : a.eval y = .agg (ndC n A1 c1 A2 c2 A3 c3))
    (h : ∀ w', Row w' g 30 (ndC n A1 c1 A2 c2 A3 c3) → Only g w w' → wpList Try.prog ops Q rest (a.put d undef) w') :
    wpList Try.prog ops Q ({ dst := d, op := .store 30 x y, type := ty, pos := pos, after := af, guard := none } :: rest) a w := wpList_storeN ltR rfl x y rfl g hx hy old hold hr h
theorem opLoad (g : Nat) (hr : Row w g 30 (ndC n A1 c1 A2 c2 A3 c3)) (hw : Region.wanted { dst := d, op := .load 30 x, type := ty, pos := pos, after := af, guard := gd } (yielded ops a.tmps) = true) (hx : a.eval x = .pointer (some ⟨g, 0, none⟩))
    (h : wpList Try.prog ops Q rest (a.put d (.agg (ndC n A1 c1 A2 c2 A3 c3))) w) :
    wpList Try.prog ops Q ({ dst := d, op := .load 30 x, type := ty, pos := pos, after := af, guard := gd } :: rest) a w := wpList_loadN ltR _ rfl hw g hx hr h
theorem opConv (s : ByteArray) (l : List Int) (hl : numsOf s = l) (hs : l.length ≤ 1000000) (hy : a.eval y = .string s)
    (h : ∀ w' B d', BT w' 5 (.slice B l.length d') l → Below w.heap.size w w' → wpList Try.prog ops Q rest (a.put d (.slice B l.length d')) w') :
    wpList Try.prog ops Q ({ dst := d, op := .convert 9 22 y, type := ty, pos := pos, after := af, guard := none } :: rest) a w :=
  wpList_bytesT rfl _ rfl s l hl hy hs (fun w' B d' h1 _ _ _ _ h2 => h w' B d' h1 h2)
theorem opOneK (v : Value) (hx : a.eval x = v) (hv : v.cells.size = 1)
    (h : ∀ w', Row w' w.heap.size 22 v.cells → Below w.heap.size w w' → wpList Try.prog ops Q rest (a.put d (.slice (some ⟨w.heap.size, 0, none⟩) 1 1)) w') :
    wpList Try.prog ops Q ({ dst := d, op := .buildSlice 23 1 #[(0, x)], type := ty, pos := pos, after := af, guard := none } :: rest) a w := wpList_one_el elK rfl (by decide) (by decide) rfl _ rfl v hx hv h
theorem opOneP (p : Pt) (hp : p.sha.length = 32) (hx : a.eval x = .agg (pcells p))
    (h : ∀ w', Row w' w.heap.size 43 (pcells p) → Below w.heap.size w w' → wpList Try.prog ops Q rest (a.put d (.slice (some ⟨w.heap.size, 0, none⟩) 1 1)) w') :
    wpList Try.prog ops Q ({ dst := d, op := .buildSlice 24 1 #[(0, x)], type := ty, pos := pos, after := af, guard := none } :: rest) a w :=
  wpList_one_el elP (pcells_size Pt.zero) (by decide) (by decide) rfl _ rfl (.agg (pcells p)) hx (by show (pcells p).size = 36; rw [pcells_size, hp]) h
theorem opStoreSl (SL : TypeId) (hi : (Try.prog.info? SL).map (·.size) = some 1) (g j : Nat) (A : Option Addr) (m c : Nat) {t : TypeId} {cs : Array Value} (hr : Row w g t cs) (hj : j < cs.size) (hx : a.eval x = .pointer (some ⟨g, j, none⟩)) (hy : a.eval y = .slice A m c)
    (h : ∀ w', w' = w.setCell ⟨g, j, none⟩ (.slice A m c) → wpList Try.prog ops Q rest (a.put d undef) w') :
    wpList Try.prog ops Q ({ dst := d, op := .store SL x y, type := ty, pos := pos, after := af, guard := none } :: rest) a w := wpList_store_sl rfl SL _ _ rfl g j hx A m c hy hi hr hj h
theorem opAllocP {t : Nat} (h : ∀ w', Row w' w.heap.size 43 (pcells Pt.zero) → Below w.heap.size w w' → w'.heap.size = w.heap.size + 1 → wpList Try.prog ops Q rest (a.put (some t) (.pointer (some ⟨w.heap.size, 0, none⟩))) w') :
    wpList Try.prog ops Q ({ dst := some t, op := .alloc 43, type := ty, pos := pos, after := af, guard := none } :: rest) a w := wpList_allocP t rfl rfl rfl h
theorem opStoreP (g : Nat) (q : Pt) (hq : q.sha.length = 32) {old : Pt} (hr : Row w g 43 (pcells old)) (hold : old.sha.length = 32) (hx : a.eval x = .pointer (some ⟨g, 0, none⟩)) (hy : a.eval y = .agg (pcells q))
    (h : ∀ w', Row w' g 43 (pcells q) → Only g w w' → wpList Try.prog ops Q rest (a.put d undef) w') :
    wpList Try.prog ops Q ({ dst := d, op := .store 43 x y, type := ty, pos := pos, after := af, guard := none } :: rest) a w := wpList_storeP rfl x y rfl g hx q hy hq old hold hr h
theorem opLoadP (g : Nat) (q : Pt) (hq : q.sha.length = 32) (hr : Row w g 43 (pcells q)) (hw : Region.wanted { dst := d, op := .load 43 x, type := ty, pos := pos, after := af, guard := gd } (yielded ops a.tmps) = true) (hx : a.eval x = .pointer (some ⟨g, 0, none⟩))
    (h : wpList Try.prog ops Q rest (a.put d (.agg (pcells q))) w) :
    wpList Try.prog ops Q ({ dst := d, op := .load 43 x, type := ty, pos := pos, after := af, guard := gd } :: rest) a w := wpList_loadP _ rfl hw g hx q hq hr h
theorem opLow {A : Option Addr} {m c j : Nat} {k : IntKind} (hj : j ≤ m) (hw : Region.wanted { dst := d, op := .slice 22 x (some y) none none, type := ty, pos := pos, after := af, guard := gd } (yielded ops a.tmps) = true) (hx : a.eval x = .slice A m c) (hy : a.eval y = .int k (j : Int))
    (h : wpList Try.prog ops Q rest (a.put d (.slice (Cut.cutA A c j) (m - j) (c - j))) w) :
    wpList Try.prog ops Q ({ dst := d, op := .slice 22 x (some y) none none, type := ty, pos := pos, after := af, guard := gd } :: rest) a w :=
  Cut.wpList_run hw _ (Cut.exec_low Try.underlying22 Cut.size8 rfl hx hy hj w) h
end
theorem run_slice_to (s p : ByteArray) (b : Nat) (hb : b ≤ s.size) (hp : s.extract 0 b = p) (w : World) : (Instr.slice 9 (.string s) none (some (.int .i64 (b : Int))) none).run Try.prog w = .ok (.string p) w := by
  subst hp
  rw [run_slice_string_to_if w 9 s .i64 (b : Int) Try.underlying9]
  simp [hb]
theorem nums_append_ (xs ys : List Int) : strOfNums xs ++ strOfNums ys = strOfNums (xs ++ ys) := by
  unfold strOfNums
  apply ByteArray.ext
  simp
theorem nums_size_ (xs : List Int) : (strOfNums xs).size = xs.length := by
  unfold strOfNums
  simp [ByteArray.size]
theorem nums_to (xs : List Int) (b : Nat) : (strOfNums xs).extract 0 b = strOfNums (xs.take b) := by
  unfold strOfNums
  apply ByteArray.ext
  rw [ByteArray.data_extract]
  apply Array.ext'
  rw [Array.toList_extract, List.extract_eq_take_drop]
  simp [List.map_take]
end Lf
end Go.Proofs.Ytnoofmdhhlcbkaa

namespace Go.Proofs.Ytnoofmdhhlcbkaa
open Go.RowKit
namespace Lf
open Els

theorem rtext_le (xs : List Int) (most : Int) : (readText xs most).1.length ≤ (readText xs most).2.1 := by
  unfold readText
  split
  · exact Nat.le_refl _
  · split
    · exact Nat.le_refl _
    · split
      · exact Nat.le_refl _
      · show (List.take _ _).length ≤ _ + _
        rw [List.length_take]
        omega
theorem NumIs.yes {xs ys : List Int} {v : Nat} (h : NumIs xs v ys true) : (readOf xs).2.2 = 0 ∧ v = (readOf xs).1 ∧ v ≤ 65536 ∧ ys = xs.drop (readOf xs).2.1 := by
  rcases h with ⟨_, h⟩ | ⟨h, _⟩
  · exact h
  · cases h
theorem NumIs.no {xs ys : List Int} {v : Nat} (h : NumIs xs v ys false) : (readOf xs).2.2 ≠ 0 ∨ 65536 < (readOf xs).1 := by
  rcases h with ⟨h, _⟩ | ⟨_, _, _, h⟩
  · cases h
  · exact h
theorem TxtIs.yes {xs l ys : List Int} (h : TxtIs xs l ys true) : (readText xs 65536).2.2 = 0 ∧ l = (readText xs 65536).1 ∧ ys = xs.drop (readText xs 65536).2.1 := by
  rcases h with ⟨_, h⟩ | ⟨h, _⟩
  · exact h
  · cases h
theorem TxtIs.no {xs l ys : List Int} (h : TxtIs xs l ys false) : (readText xs 65536).2.2 ≠ 0 := by
  rcases h with ⟨h, _⟩ | ⟨_, _, _, h⟩
  · cases h
  · exact h
theorem NumIs.noLevel {b ys : List Int} {v : Nat} (h : NumIs b v ys false) : NoNd b := no_level (by have := h.no; omega)
theorem rone_one {A : Option Addr} {n c : Nat} : ∀ u ∈ [Value.slice A n c], u.oneCell' = true := fun u hu => by rw [List.mem_singleton.1 hu]; rfl
theorem rsnoc_last (keys : List (List Int)) (k : List Int) (i : Nat) (h : keys.length = i) : lastK (keys ++ [k]) (i + 1) = k := by
  rw [last_next, List.getD_eq_getElem?_getD, List.getElem?_append_right (by omega), h, Nat.sub_self]
  rfl
theorem rmem_snoc {α : Type} {p : α → Prop} {l : List α} {y : α} (h : ∀ z ∈ l, p z) (hy : p y) : ∀ z ∈ l ++ [y], p z := fun z hz => by
  rcases List.mem_append.1 hz with hz | hz
  · exact h z hz
  · rw [List.mem_singleton.1 hz]; exact hy
theorem lens_snoc (vals : List (List Int)) (v : List Int) (i : Nat) (h : vals.length = i) : lensOf (vals ++ [v]) (i + 1) = lensOf vals i + v.length := by
  rw [lens_next, List.getD_eq_getElem?_getD, List.getElem?_append_right (by omega), h, Nat.sub_self]
  unfold lensOf
  rw [List.take_append_of_le_length (by omega)]
  rfl
theorem lens_nil (i : Nat) : lensOf [] i = 0 := by unfold lensOf; rw [List.take_nil]; rfl
/-- So many entries are read, of m; ok is false: a part was none. -/
structure RProg (b : List Int) (m i : Nat) (n : Nd) (rest : List Int) (ok : Bool) : Prop where
  fits : Fits b n.level m i n.keys n.vals n.kids rest
  most : i ≤ m
  ki : n.keys.length = i
  vi : n.level = 0 → n.vals.length = i ∧ n.kids = []
  pi_ : n.level ≠ 0 → n.kids.length = i ∧ n.vals = []
  bk : ∀ l ∈ n.keys, IsBytes l
  bv : ∀ l ∈ n.vals, IsBytes l
  bp : ∀ p ∈ n.kids, p.Ok
  lv : 0 ≤ n.level ∧ n.level ≤ 65536
  wrong : ok = false → NoNd b
  few : i + rest.length ≤ b.length
  last : (lastK n.keys i).length + rest.length ≤ b.length
  lens : lensOf n.vals i + rest.length ≤ b.length
/-- An entry's key, as it is read: so many bytes of the one ahead, and others; what is behind. -/
structure RGood (rest last r1 r2 : List Int) (v : Nat) (l : List Int) : Prop where
  num : (readOf rest).2.2 = 0
  ev : v = (readOf rest).1
  e1 : r1 = rest.drop (readOf rest).2.1
  text : (readText r1 65536).2.2 = 0
  el : l = (readText r1 65536).1
  e2 : r2 = r1.drop (readText r1 65536).2.1
  same : v ≤ last.length
  bytes : IsBytes rest
section
variable {b rest r1 r2 l : List Int} {m i v : Nat} {n : Nd} {ok : Bool}
theorem RProg.lastB (h : RProg b m i n rest ok) : IsBytes (lastK n.keys i) := by
  unfold lastK
  split
  · exact IsBytes.nil
  · exact getD_bytes h.bk _
theorem RGood.len {last : List Int} (g : RGood rest last r1 r2 v l) : r1.length + 1 ≤ rest.length ∧ l.length + r2.length ≤ r1.length := by
  have h1 := (read_used g.bytes).1 g.num
  have hb1 : IsBytes r1 := by rw [g.e1]; exact g.bytes.drop _
  have h2 := rtext_le r1 65536
  have h3 := (text_used hb1 65536).1
  refine ⟨by rw [g.e1, List.length_drop]; omega, ?_⟩
  rw [g.e2, List.length_drop, g.el]
  omega
theorem RGood.b1 {last : List Int} (g : RGood rest last r1 r2 v l) : IsBytes r1 ∧ IsBytes r2 ∧ IsBytes l := by
  have hb1 : IsBytes r1 := by rw [g.e1]; exact g.bytes.drop _
  exact ⟨hb1, by rw [g.e2]; exact hb1.drop _, by rw [g.el]; exact (text_used hb1 65536).2.2.1⟩
theorem RProg.keyLen (h : RProg b m i n rest ok) (g : RGood rest (lastK n.keys i) r1 r2 v l) {key : List Int} (hk : key = (lastK n.keys i).take v ++ l) : key.length + r2.length ≤ b.length := by
  have h1 := h.last
  have h2 := g.len
  rw [hk, List.length_append, List.length_take]
  omega
theorem RProg.keyB (h : RProg b m i n rest ok) (g : RGood rest (lastK n.keys i) r1 r2 v l) {key : List Int} (hk : key = (lastK n.keys i).take v ++ l) : IsBytes key := by
  rw [hk]; exact (h.lastB.take v).append g.b1.2.2
theorem RGood.keyIs {last : List Int} (g : RGood rest last r1 r2 v l) {key : List Int} (hk : key = last.take v ++ l) : key = last.take (readOf rest).1 ++ (readText (rest.drop (readOf rest).2.1) 65536).1 := by
  rw [hk, g.ev, g.el, g.e1]
theorem RGood.r2Is {last : List Int} (g : RGood rest last r1 r2 v l) : r2 = (rest.drop (readOf rest).2.1).drop (readText (rest.drop (readOf rest).2.1) 65536).2.1 := by
  rw [g.e2, g.e1]
theorem RProg.noKid (h : RProg b m i n rest ok) (hi : i < m) (g : RGood rest (lastK n.keys i) r1 r2 v l) (h0 : n.level ≠ 0) (hb : readErr r2 ≠ 0) : NoNd b := no_kid h.fits hi h0 65536 (by omega) (by rw [← g.r2Is]; exact hb)
/-- An entry with its value. -/
theorem RProg.nextV (h : RProg b m i n rest true) (hi : i < m) (g : RGood rest (lastK n.keys i) r1 r2 v l) (h0 : n.level = 0) {key : List Int} (hk : key = (lastK n.keys i).take v ++ l) {l2 r3 : List Int} {ok3 : Bool} (ht : TxtIs r2 l2 r3 ok3) :
    RProg b m (i + 1) ⟨n.level, n.keys ++ [key], n.vals ++ [l2], n.kids⟩ r3 ok3 := by
  have hkl := h.keyLen g hk
  have hlen := g.len
  have hb2 := g.b1.2.1
  have hl2 : IsBytes l2 ∧ l2.length + r3.length ≤ r2.length := by
    rcases ht with ⟨_, _, e1, e2⟩ | ⟨_, e1, e2, _⟩
    · have h2 := rtext_le r2 65536
      have h3 := (text_used hb2 65536).1
      exact ⟨by rw [e1]; exact (text_used hb2 65536).2.2.1, by rw [e1, e2, List.length_drop]; omega⟩
    · rw [e1, e2]; exact ⟨IsBytes.nil, Nat.zero_le _⟩
  have hfew := h.few
  have hlens := h.lens
  have hvi := (h.vi h0).1
  have hno : ok3 = false → NoNd b := fun e => by
    rcases ht with ⟨e1, _⟩ | ⟨_, _, _, hbad⟩
    · rw [e] at e1; cases e1
    · exact no_val h.fits hi h0 65536 65536 (by omega) (by omega) (by rw [← g.r2Is]; exact hbad)
  refine ⟨?_, by omega, by rw [List.length_append, h.ki]; rfl, fun _ => ⟨by rw [List.length_append, hvi]; rfl, (h.vi h0).2⟩, fun hp => absurd h0 hp, rmem_snoc h.bk (h.keyB g hk), rmem_snoc h.bv hl2.1, h.bp, h.lv, hno, by omega, ?_, ?_⟩
  · cases ok3 with
    | false => exact (hno rfl).fits
    | true =>
      rcases ht with ⟨_, _, e1, e2⟩ | ⟨e, _⟩
      · have := h.fits.next0 hi h0 65536 65536 (by omega) (by omega) g.r2Is
        rw [← g.keyIs hk, ← e1, ← e2] at this
        exact this
      · cases e
  · show (lastK (n.keys ++ [key]) (i + 1)).length + _ ≤ _
    rw [rsnoc_last _ _ _ h.ki]
    omega
  · show lensOf (n.vals ++ [l2]) (i + 1) + _ ≤ _
    rw [lens_snoc _ _ _ hvi]
    omega
theorem RProg.lens2 {lv : Int} {keys vals : List (List Int)} {kids : List Pt} {l2 : List Int} (h : RProg b m (i + 1) ⟨lv, keys, vals ++ [l2], kids⟩ rest ok) (h0 : lv = 0) : l2.length ≤ b.length := by
  have h1 : lensOf (vals ++ [l2]) (i + 1) + rest.length ≤ b.length := h.lens
  have h2 : (vals ++ [l2]).length = i + 1 := (h.vi h0).1
  have h3 : vals.length = i := by rw [List.length_append] at h2; simpa using h2
  rw [lens_snoc _ _ _ h3] at h1
  omega
/-- An entry with its child. -/
theorem RProg.nextP (h : RProg b m i n rest true) (hi : i < m) (g : RGood rest (lastK n.keys i) r1 r2 v l) (h0 : n.level ≠ 0) {key : List Int} (hk : key = (lastK n.keys i).take v ++ l) (_he : readErr r2 = 0) (_h52 : 52 ≤ r2.length) (hp : (readPt r2).Ok) :
    RProg b m (i + 1) ⟨n.level, n.keys ++ [key], n.vals, n.kids ++ [readPt r2]⟩ (r2.drop 52) true := by
  have hkl := h.keyLen g hk
  have hlen := g.len
  have hfew := h.few
  have hpi := (h.pi_ h0).1
  refine ⟨?_, by omega, by rw [List.length_append, h.ki]; rfl, fun hp => absurd hp h0, fun _ => ⟨by rw [List.length_append, hpi]; rfl, (h.pi_ h0).2⟩, rmem_snoc h.bk (h.keyB g hk), h.bv, rmem_snoc h.bp hp, h.lv, (fun e => by cases e), by rw [List.length_drop]; omega, ?_, ?_⟩
  · have := h.fits.next1 hi h0 65536 (by omega) g.r2Is
    rw [← g.keyIs hk] at this
    exact this
  · show (lastK (n.keys ++ [key]) (i + 1)).length + _ ≤ _
    rw [rsnoc_last _ _ _ h.ki, List.length_drop]
    omega
  · show lensOf n.vals (i + 1) + _ ≤ _
    rw [(h.pi_ h0).2, lens_nil, List.length_drop]
    omega
/-- All are read. -/
theorem RProg.done (h : RProg b m m n rest ok) (_hok : ok = true) (hb : b.length ≤ 4096) : n.Ok ∧ lensOf n.vals n.keys.length ≤ 20000 ∧ ∀ N : Nd, N.Ok → Shape N → allB N = b → N = n := by
  refine ⟨⟨by have := h.lv; omega, by have := h.lv; omega, h.bk, h.bv, h.bp⟩, ?_, fun N ok hs e => ?_⟩
  · have := h.lens
    rw [h.ki]
    omega
  · exact (h.fits.done (fun h0 => (h.pi_ h0).2) (fun h0 => (h.vi h0).2) N ok hs e).1
/-- Nothing is read yet but the level and how many. -/
theorem rprog_start {V : Nat} (_h0 : (readOf b).2.2 = 0) (hV : V = (readOf b).1) (hV2 : V ≤ 65536) (h1 : r1 = b.drop (readOf b).2.1) (hi : NumIs r1 m r2 ok) : RProg b m 0 ⟨(V : Int), [], [], []⟩ r2 ok := by
  have hno : ok = false → NoNd b := fun e => by
    rcases hi with ⟨e1, _⟩ | ⟨_, _, _, hbad⟩
    · rw [e] at e1; cases e1
    · refine no_many ?_
      rw [← h1]
      rcases hbad with hbad | hbad
      · exact .inl hbad
      · exact .inr (by omega)
  have hle : r2.length ≤ b.length := by
    rcases hi with ⟨_, _, _, _, e⟩ | ⟨_, _, e, _⟩
    · rw [e, h1, List.length_drop, List.length_drop]; omega
    · rw [e]; exact Nat.zero_le _
  refine ⟨?_, Nat.zero_le _, rfl, fun _ => ⟨rfl, rfl⟩, fun _ => ⟨rfl, rfl⟩, (fun l hl => by cases hl), (fun l hl => by cases hl), (fun l hl => by cases hl), ⟨by show (0 : Int) ≤ V; omega, by show (V : Int) ≤ 65536; omega⟩, hno, by omega, ?_, ?_⟩
  · cases ok with
    | false => exact (hno rfl).fits
    | true =>
      rcases hi with ⟨_, _, e1, _, e2⟩ | ⟨e, _⟩
      · rw [hV, e1, e2, h1]; exact fits_start
      · cases e
  · show (lastK [] 0).length + _ ≤ _
    rw [last_zero]
    simpa using hle
  · show lensOf [] 0 + _ ≤ _
    rw [lens_nil]
    omega
end
/-- While they are read: the node under way, the variable for the answer. -/
structure RTk (w0 wr : World) (N : Nat) (n : Nd) (A1 : Option Addr) (c1 : Nat) (ks : List Value) (A2 : Option Addr) (c2 : Nat) (vs : List Value) (A3 : Option Addr) (c3 : Nat) : Prop where
  under : Under wr (w0.heap.size + 1) 30 22 N n A1 c1 ks A2 c2 vs A3 c3
  res : Row wr w0.heap.size 30 (ndC Nd.zero none 0 none 0 none 0)
  below : Below w0.heap.size w0 wr
  gn : w0.heap.size < N
section
variable {w0 wr w' : World} {N : Nat} {n : Nd} {A1 : Option Addr} {c1 : Nat} {ks : List Value} {A2 : Option Addr} {c2 : Nat} {vs : List Value} {A3 : Option Addr} {c3 : Nat}
theorem RTk.size (h : RTk w0 wr N n A1 c1 ks A2 c2 vs A3 c3) : w0.heap.size + 1 ≤ wr.heap.size := by have := h.under.var.lt; have := h.gn; omega
theorem RTk.keep (h : RTk w0 wr N n A1 c1 ks A2 c2 vs A3 c3) (hb : Below wr.heap.size wr w') : RTk w0 w' N n A1 c1 ks A2 c2 vs A3 c3 := ⟨h.under.keep hb, h.res.keep hb, h.below.trans (hb.mono h.below.size), h.gn⟩
theorem RTk.step (h : RTk w0 wr N n A1 c1 ks A2 c2 vs A3 c3) (hb : Below (w0.heap.size + 1) wr w') {n' : Nd} {A1' : Option Addr} {c1' : Nat} {ks' : List Value} {A2' : Option Addr} {c2' : Nat} {vs' : List Value} {A3' : Option Addr} {c3' : Nat}
    (hu : Under w' (w0.heap.size + 1) 30 22 N n' A1' c1' ks' A2' c2' vs' A3' c3') : RTk w0 w' N n' A1' c1' ks' A2' c2' vs' A3' c3' :=
  ⟨hu, h.res.keepB hb (by omega), h.below.trans (hb.mono (by omega)), h.gn⟩
end
/-- What is told of bytes: a node, in new memory; whatever node has them is this one, or none. -/
def ParseEnds (b : List Int) (w : World) (e : Ending) (w' : World) : Prop :=
  ∃ (B : Nat) (M : Nd) (A1 : Option Addr) (c1 : Nat) (ks : List Value) (A2 : Option Addr) (c2 : Nat) (vs : List Value) (A3 : Option Addr) (c3 : Nat) (ok : Bool), e = .returned (.tuple #[.agg (ndC M A1 c1 A2 c2 A3 c3), .bool ok]) ∧ NdO w' B M A1 c1 ks A2 c2 vs A3 c3 ∧ Below w.heap.size w w' ∧
    (ok = true → M.Ok ∧ lensOf M.vals M.keys.length ≤ 20000 ∧ ∀ N : Nd, N.Ok → Shape N → allB N = b → N = M) ∧ (ok = false → NoNd b)
/-- At a round's head. -/
def RParseAt (w : World) (N : Nat) (b : List Int) (V m : Nat) (v0 v5 v8 v9 : Value) (wr : World) : Prop :=
  ∃ (i : Nat) (n : Nd) (A1 : Option Addr) (c1 : Nat) (ks : List Value) (A2 : Option Addr) (c2 : Nat) (vs : List Value) (A3 : Option Addr) (c3 : Nat) (rest : List Int) (ok : Bool) (S : Option Addr) (k d : Nat),
    n.level = (V : Int) ∧ RProg b m i n rest ok ∧ RTk w wr N n A1 c1 ks A2 c2 vs A3 c3 ∧ v9 = .int .i64 (i : Int) ∧ v8 = .string (strOfNums (lastK n.keys i)) ∧ v5 = .bool ok ∧ v0 = .slice S k d ∧ Bt w S k d rest

set_option maxRecDepth 100000 in
set_option maxHeartbeats 32000000 in
theorem rparse_any {w : World} {A : Option Addr} {q c : Nat} {b : List Int} (h : Bt w A q c b) (hl : q ≤ 4096) :
    Calls Try.prog 16 #[.slice A q c] w (ParseEnds b w) := by
  have Bt0 := Lib.hid h
  have Hm : Hid (b.length ≤ 4096) := by show _ ≤ _; rw [← h.len]; exact hl
  clear h hl
  go_enter Try.func16, Try.ntmps16
  go_wp2_with ((with_reducible refine opAlloc ?_); intro w1 r1 b1 z1; have R1 := Lib.hid r1; have B1 := Lib.hid b1; clear r1 b1)
  refine (rnumber_any (Bt0.out.keep B1.out)).mono ?_
  rintro r w2 ⟨S1, k1, d1, r1, V, ok1, rfl, hk1, hi1, hb2⟩
  have Bt1 := Lib.hid (hk1 w Bt0.out)
  have R2 := Lib.hid (R1.out.keep hb2)
  have B2 := Lib.hid (B1.out.trans (hb2.mono B1.out.size))
  have I1 := Lib.hid hi1
  clear hk1 hi1 hb2 R1 B1 z1
  cases ok1 with
  | false =>
    have HNO : Hid (NoNd b) := I1.out.noLevel
    go_wp2_with (first
      | ((with_reducible refine opBuild0 ?_ ?_); (focus rfl))
      | ((with_reducible refine opStore Nd.zero none 0 none 0 none 0 w.heap.size R2.out rfl ?_ ?_ ?_); (focus rfl); (focus rfl); intro w16 r16 o16; have R16 := Lib.hid r16; have O16 := Lib.hid o16; clear r16 o16))
    refine bodyPost_ret (results_node_tmp ltR rfl _ _ _ _ _ rfl R16.out) rfl ?_
    exact ⟨0, Nd.zero, none, 0, [], none, 0, [], none, 0, false, rfl, NdO.nil _ _, B2.out.trans (O16.out.below.mono (Nat.le_refl _)), (fun h => by cases h), fun _ => HNO.out⟩
  | true =>
    have HI1 : Hid ((readOf b).2.2 = 0 ∧ V = (readOf b).1 ∧ V ≤ 65536 ∧ r1 = b.drop (readOf b).2.1) := I1.out.yes
    have hV : V ≤ 65536 := HI1.out.2.2.1
    clear I1
    go_wp2_with fail
    refine (rnumber_any (Bt1.out.keep B2.out)).mono ?_
    rintro r w3 ⟨S2, k2, d2, r2, m, ok2, rfl, hk2, hi2, hb3⟩
    have Bt2 := Lib.hid (hk2 w Bt1.out)
    have R3 := Lib.hid (R2.out.keep hb3)
    have B3 := Lib.hid (B2.out.trans (hb3.mono B2.out.size))
    have HP : Hid (RProg b m 0 ⟨(V : Int), [], [], []⟩ r2 ok2) := rprog_start HI1.out.1 HI1.out.2.1 hV HI1.out.2.2.2 hi2
    have hm : m ≤ 65536 := by rcases hi2 with ⟨_, _, _, h, _⟩ | ⟨_, h, _⟩ <;> omega
    clear hk2 hi2 hb3 R2 B2 Bt1 HI1
    go_wp2_with (first
      | ((with_reducible refine opBuildL (V : Int) ?_ ?_ ?_); (focus rfl); (focus rfl))
      | ((with_reducible refine opAlloc ?_); intro w4 r4 b4 z4)
      | ((with_reducible refine opStore ⟨(V : Int), [], [], []⟩ none 0 none 0 none 0 w3.heap.size r4 rfl ?_ ?_ ?_); (focus rfl); (focus rfl); intro w5 r5 o5))
    obtain ⟨N, hN⟩ : ∃ N, Hid (N = w3.heap.size) := ⟨_, rfl⟩
    rw [← hN.out] at r4 r5 o5 ⊢
    have hwN : w.heap.size < N := by rw [hN.out]; exact R3.out.lt
    have HT : Hid (RTk w w5 N ⟨(V : Int), [], [], []⟩ none 0 [] none 0 [] none 0) := ⟨Under.made r5 _ _, o5.row (R3.out.keep b4) (by omega), (B3.out.trans (b4.mono B3.out.size)).trans (o5.below.mono (by omega)), hwN⟩
    have hgn : w.heap.size + 1 ≤ N := hwN
    clear r4 b4 z4 r5 o5 R3 B3 hN
    go_loopw [0, 5, 8, 9] (fun v0 v5 v8 v9 wr => RParseAt w N b V m v0 v5 v8 v9 wr) (fun _ _ _ v9 _ => 70000 - (intOf v9).toNat)
    case atStart => exact ⟨0, ⟨(V : Int), [], [], []⟩, none, 0, [], none, 0, [], none, 0, r2, ok2, S2, k2, d2, rfl, HP.out, HT.out, rfl, rfl, rfl, rfl, Bt2.out⟩
    case round =>
      clear HP HT Bt2
      obtain ⟨i, n, A1, c1, ks, A2, c2, vs, A3, c3, rest, ok, S, k, d, hlv, hP, hT, rfl, rfl, rfl, rfl, hbt⟩ := hrel
      have HLV := Lib.hid hlv
      have HPr := Lib.hid hP
      have HTk := Lib.hid hT
      have BtR := Lib.hid hbt
      have hi1 : i ≤ 4096 := by have := hP.few; have := Hm.out; omega
      obtain ⟨L, HL⟩ : ∃ L, Hid (L = strOfNums (lastK n.keys i)) := ⟨_, rfl⟩
      have HLz : Hid (L.size = (lastK n.keys i).length) := by rw [HL.out]; exact nums_size_ _
      rw [← HL.out]
      clear hlv hP hT hbt
      by_cases hi : i < m
      · have i1 : (i : Int) < (m : Int) := by omega
        cases ok with
        | false =>
          have HNO : Hid (NoNd b) := HPr.out.wrong rfl
          go_wp2_with (first
            | ((with_reducible refine opBuild0 ?_ ?_); (focus rfl))
            | ((with_reducible refine opStore Nd.zero none 0 none 0 none 0 w.heap.size HTk.out.res rfl ?_ ?_ ?_); (focus rfl); (focus rfl); intro w16 r16 o16; have R16 := Lib.hid r16; have O16 := Lib.hid o16; clear r16 o16))
          refine bodyPost_ret (results_node_tmp ltR rfl _ _ _ _ _ rfl R16.out) rfl ?_
          exact ⟨0, Nd.zero, none, 0, [], none, 0, [], none, 0, false, rfl, NdO.nil _ _, HTk.out.below.trans (O16.out.below.mono (Nat.le_refl _)), (fun h => by cases h), fun _ => HNO.out⟩
        | true =>
          go_wp2_with fail
          refine (rnumber_any (BtR.out.keep HTk.out.below)).mono ?_
          rintro r w1' ⟨S1, k1, d1, r1, v, ok1, rfl, hk1, hi1', hb1⟩
          have Bt1 := Lib.hid (hk1 w BtR.out)
          have T1 := Lib.hid (HTk.out.keep hb1)
          have I1 := Lib.hid hi1'
          clear hk1 hi1' hb1
          cases ok1 with
          | false =>
            have HNO : Hid (NoNd b) := no_same HPr.out.fits hi (by have := I1.out.no; omega)
            go_wp2_with (first
              | ((with_reducible refine opBuild0 ?_ ?_); (focus rfl))
              | ((with_reducible refine opStore Nd.zero none 0 none 0 none 0 w.heap.size T1.out.res rfl ?_ ?_ ?_); (focus rfl); (focus rfl); intro w16 r16 o16; have R16 := Lib.hid r16; have O16 := Lib.hid o16; clear r16 o16))
            refine bodyPost_ret (results_node_tmp ltR rfl _ _ _ _ _ rfl R16.out) rfl ?_
            exact ⟨0, Nd.zero, none, 0, [], none, 0, [], none, 0, false, rfl, NdO.nil _ _, T1.out.below.trans (O16.out.below.mono (Nat.le_refl _)), (fun h => by cases h), fun _ => HNO.out⟩
          | true =>
            have HI1 : Hid ((readOf rest).2.2 = 0 ∧ v = (readOf rest).1 ∧ v ≤ 65536 ∧ r1 = rest.drop (readOf rest).2.1) := I1.out.yes
            have hv : v ≤ 65536 := HI1.out.2.2.1
            clear I1
            go_wp2_with fail
            refine (rtxt_any (Bt1.out.keep T1.out.below)).mono ?_
            rintro r w2' ⟨S2, k2, d2, r2, l, ok2, rfl, hk2, hi2, hb2⟩
            have Bt2 := Lib.hid (hk2 w Bt1.out)
            have T2 := Lib.hid (T1.out.keep hb2)
            have I2 := Lib.hid hi2
            clear hk2 hi2 hb2 T1
            cases ok2 with
            | false =>
              have HNO : Hid (NoNd b) := no_rest HPr.out.fits hi 65536 (by omega) (by rw [← HI1.out.2.2.2]; exact I2.out.no)
              go_wp2_with (first
                | ((with_reducible refine opBuild0 ?_ ?_); (focus rfl))
                | ((with_reducible refine opStore Nd.zero none 0 none 0 none 0 w.heap.size T2.out.res rfl ?_ ?_ ?_); (focus rfl); (focus rfl); intro w16 r16 o16; have R16 := Lib.hid r16; have O16 := Lib.hid o16; clear r16 o16))
              refine bodyPost_ret (results_node_tmp ltR rfl _ _ _ _ _ rfl R16.out) rfl ?_
              exact ⟨0, Nd.zero, none, 0, [], none, 0, [], none, 0, false, rfl, NdO.nil _ _, T2.out.below.trans (O16.out.below.mono (Nat.le_refl _)), (fun h => by cases h), fun _ => HNO.out⟩
            | true =>
              have HI2 : Hid ((readText r1 65536).2.2 = 0 ∧ l = (readText r1 65536).1 ∧ r2 = r1.drop (readText r1 65536).2.1) := I2.out.yes
              clear I2
              by_cases hs : v ≤ L.size
              · have ds : decide (L.size < v) = false := by simp; omega
                have ds' : decide ((L.size : Int) < (v : Int)) = false := by simp; omega
                have HG : Hid (RGood rest (lastK n.keys i) r1 r2 v l) := ⟨HI1.out.1, HI1.out.2.1, HI1.out.2.2.2, HI2.out.1, HI2.out.2.1, HI2.out.2.2, by rw [← HLz.out]; exact hs, BtR.out.bytes⟩
                obtain ⟨key, HKy⟩ : ∃ key, Hid (key = (lastK n.keys i).take v ++ l) := ⟨_, rfl⟩
                obtain ⟨P, hPp⟩ : ∃ P, Hid (P = L.extract 0 v) := ⟨_, rfl⟩
                have hx := fun w' => run_slice_to L P v hs hPp.out.symm w'
                obtain ⟨Y, HY⟩ : ∃ Y, Hid (Y = strOfNums l) := ⟨_, rfl⟩
                have HPY : Hid (P ++ Y = strOfNums key) := by show _ = _; rw [hPp.out, HY.out, HL.out, nums_to, nums_append_, HKy.out]
                have HKB : Hid (IsBytes key) := by rw [HKy.out]; exact (HPr.out.lastB.take v).append (by rw [HI2.out.2.1]; exact (text_used Bt1.out.bytes 65536).2.2.1)
                have HN : Hid (numsOf (P ++ Y) = key) := by show _ = _; rw [HPY.out]; exact numsOf_strOfNums key HKB.out
                have hkl : key.length ≤ 10000 := by have := HPr.out.keyLen HG.out HKy.out; have := Hm.out; omega
                have hPz : P.size ≤ 10000 := by rw [hPp.out, HL.out, nums_to, nums_size_, List.length_take]; have := HPr.out.last; have := Hm.out; omega
                have hYz : Y.size ≤ 10000 := by rw [HY.out, nums_size_]; have := HG.out.len; have := HPr.out.few; have := Hm.out; omega
                rw [← HY.out]
                by_cases h0 : V = 0
                · have t4 : ((V : Int) == 0) = true := by simpa using h0
                  have t4' : (V == 0) = true := by simpa using h0
                  have H0 := Lib.hid h0
                  clear h0
                  have rk := row_keys T2.out.under.var
                  go_wp2_with (first
                    | ((with_reducible refine opConv (P ++ Y) key HN.out (by omega) ?_ ?_); (focus rfl); intro w4 Bk dk hbt4 hb4; have T4 := Lib.hid (T2.out.keep hb4); have BT4 := Lib.hid hbt4; clear hbt4 hb4)
                    | ((with_reducible refine opOneK (.slice Bk key.length dk) ?_ ?_ ?_); (focus rfl); (focus rfl); intro w5 r5 b5; have T5 := Lib.hid (T4.out.keep b5); have BT5 := Lib.hid (BT4.out.keep (KeepT.below b5)); have C5 := Lib.hid (csrc_row r5); have hsz5 := T5.out.size; clear r5 b5)
                    | (at_builtin; refine wpList_append_cells elK rfl (by decide) (by decide) rfl _ _ rfl (w.heap.size + 1) A1 n.keys.length c1 ks rfl T5.out.under.keys.own (some ⟨w4.heap.size, 0, none⟩) 1 1 [.slice Bk key.length dk] rfl rfl C5.out rone_one (by omega) (by have := HPr.out.ki; omega) hsz5 ?_; intro A1' c1' w6 g6; have V6 := Lib.hid (g6.row T5.out.under.keys.own T5.out.under.var (by decide)); have G6 := Lib.hid g6; clear g6)
                    | ((with_reducible refine opStoreSl 23 sizeK N 1 A1' (n.keys.length + 1) c1' V6.out (by rw [ndC_size]; omega) ?_ ?_ ?_); (focus rfl); (focus rfl); intro w7 h7; have St := T5.out.under.stepK kindsR hgn G6.out 1 (.slice A1' (n.keys.length + 1) c1'); have U7 := T5.out.under.addKey kindsR BT5.out rfl G6.out; rw [← h7] at St U7; have T7 := Lib.hid (T5.out.step St.below U7); clear St U7 h7 V6 G6 T5 BT5 C5 T4 BT4 T2))
                  refine (rtxt_any (Bt2.out.keep T7.out.below)).mono ?_
                  rintro r w8 ⟨S3, k3, d3, r3, l2, ok3, rfl, hk3, hi3, hb8⟩
                  have Bt3 := Lib.hid (hk3 w Bt2.out)
                  have T8 := Lib.hid (T7.out.keep hb8)
                  have HNX : Hid (RProg b m (i + 1) ⟨n.level, n.keys ++ [key], n.vals ++ [l2], n.kids⟩ r3 ok3) := HPr.out.nextV hi HG.out (by rw [HLV.out, H0.out]; rfl) HKy.out hi3
                  have HN2 := Lib.hid (numsOf_strOfNums l2 (HNX.out.bv l2 (by simp)))
                  have hl2 : l2.length ≤ 10000 := by have := HNX.out.lens2 (by rw [HLV.out, H0.out]; rfl); have := Hm.out; omega
                  obtain ⟨Y2, HY2⟩ : ∃ Y2, Hid (Y2 = strOfNums l2) := ⟨_, rfl⟩
                  rw [← HY2.out] at HN2 ⊢
                  clear hk3 hi3 hb8 T7 t4 t4' rk
                  have rv := row_vals T8.out.under.var
                  go_wp2_with (first
                    | ((with_reducible refine opConv Y2 l2 HN2.out (by omega) ?_ ?_); (focus rfl); intro w9 Bv dv hbt9 hb9; have T9 := Lib.hid (T8.out.keep hb9); have BT9 := Lib.hid hbt9; clear hbt9 hb9)
                    | ((with_reducible refine opOneK (.slice Bv l2.length dv) ?_ ?_ ?_); (focus rfl); (focus rfl); intro w10 r10 b10; have T10 := Lib.hid (T9.out.keep b10); have BT10 := Lib.hid (BT9.out.keep (KeepT.below b10)); have C10 := Lib.hid (csrc_row r10); have hsz10 := T10.out.size; clear r10 b10)
                    | (at_builtin; refine wpList_append_cells elK rfl (by decide) (by decide) rfl _ _ rfl (w.heap.size + 1) A2 n.vals.length c2 vs rfl T10.out.under.vals.own (some ⟨w9.heap.size, 0, none⟩) 1 1 [.slice Bv l2.length dv] rfl rfl C10.out rone_one (by omega) (by have := (HPr.out.vi (by rw [HLV.out, H0.out]; rfl)).1; omega) hsz10 ?_; intro A2' c2' w11 g11; have V11 := Lib.hid (g11.row T10.out.under.vals.own T10.out.under.var (by decide)); have G11 := Lib.hid g11; clear g11)
                    | ((with_reducible refine opStoreSl 23 sizeK N 2 A2' (n.vals.length + 1) c2' V11.out (by rw [ndC_size]; omega) ?_ ?_ ?_); (focus rfl); (focus rfl); intro w12 h12; have St := T10.out.under.stepV kindsR hgn G11.out 2 (.slice A2' (n.vals.length + 1) c2'); have U12 := T10.out.under.addVal kindsR BT10.out rfl G11.out; rw [← h12] at St U12; have T12 := Lib.hid (T10.out.step St.below U12); clear St U12 h12 V11 G11 T10 BT10 C10 T9 BT9 T8))
                  go_roundw
                  case rel => exact ⟨i + 1, ⟨n.level, n.keys ++ [key], n.vals ++ [l2], n.kids⟩, A1', c1', ks ++ [.slice Bk key.length dk], A2', c2', vs ++ [.slice Bv l2.length dv], A3, c3, r3, ok3, S3, k3, d3, HLV.out, HNX.out, T12.out, by go_num, by rw [show lastK (n.keys ++ [key]) (i + 1) = key from rsnoc_last _ _ _ HPr.out.ki, HPY.out], rfl, rfl, Bt3.out⟩
                  case measure => simp [intOf]; omega
                · have t4 : ((V : Int) == 0) = false := by rw [beq_eq_false_iff_ne]; omega
                  have t4' : (V == 0) = false := by rw [beq_eq_false_iff_ne]; omega
                  have HLV0 : Hid (n.level ≠ 0) := by show _ ≠ _; rw [HLV.out]; omega
                  clear h0
                  have rk := row_keys T2.out.under.var
                  go_wp2_with (first
                    | ((with_reducible refine opConv (P ++ Y) key HN.out (by omega) ?_ ?_); (focus rfl); intro w4 Bk dk hbt4 hb4; have T4 := Lib.hid (T2.out.keep hb4); have BT4 := Lib.hid hbt4; clear hbt4 hb4)
                    | ((with_reducible refine opOneK (.slice Bk key.length dk) ?_ ?_ ?_); (focus rfl); (focus rfl); intro w5 r5 b5; have T5 := Lib.hid (T4.out.keep b5); have BT5 := Lib.hid (BT4.out.keep (KeepT.below b5)); have C5 := Lib.hid (csrc_row r5); have hsz5 := T5.out.size; clear r5 b5)
                    | (at_builtin; refine wpList_append_cells elK rfl (by decide) (by decide) rfl _ _ rfl (w.heap.size + 1) A1 n.keys.length c1 ks rfl T5.out.under.keys.own (some ⟨w4.heap.size, 0, none⟩) 1 1 [.slice Bk key.length dk] rfl rfl C5.out rone_one (by omega) (by have := HPr.out.ki; omega) hsz5 ?_; intro A1' c1' w6 g6; have V6 := Lib.hid (g6.row T5.out.under.keys.own T5.out.under.var (by decide)); have G6 := Lib.hid g6; clear g6)
                    | ((with_reducible refine opStoreSl 23 sizeK N 1 A1' (n.keys.length + 1) c1' V6.out (by rw [ndC_size]; omega) ?_ ?_ ?_); (focus rfl); (focus rfl); intro w7 h7; have St := T5.out.under.stepK kindsR hgn G6.out 1 (.slice A1' (n.keys.length + 1) c1'); have U7 := T5.out.under.addKey kindsR BT5.out rfl G6.out; rw [← h7] at St U7; have T7 := Lib.hid (T5.out.step St.below U7); clear St U7 h7 V6 G6 T5 BT5 C5 T4 BT4 T2))
                  refine (refRead_any S2 k2 d2 r2 _ Bt2.out.len (Bt2.out.keep T7.out.below).src Bt2.out.bytes Bt2.out.cap Bt2.out.max).mono ?_
                  obtain ⟨p, hp⟩ : ∃ p : Pt, Hid (p = readPt r2) := ⟨_, rfl⟩
                  obtain ⟨er, her⟩ : ∃ e : Int, Hid (e = readErr r2) := ⟨_, rfl⟩
                  have HPO : Hid p.Ok := by rw [hp.out]; exact readPt_ok r2 Bt2.out.bytes
                  rw [← hp.out, ← her.out]
                  rintro r w8 ⟨rfl, hb8⟩
                  have T8 := Lib.hid (T7.out.keep hb8)
                  have hT8 := T8.out.under.var.lt
                  clear hb8 T7 t4 t4' rk
                  by_cases he : er = 0
                  · have H52 : Hid (52 ≤ r2.length) := by show _ ≤ _; rw [her.out] at he; unfold readErr at he; rcases Nat.lt_or_ge r2.length 52 with hz | hz <;> first | omega | (rw [if_pos hz] at he; cases he)
                    have hk52 : 52 ≤ k2 := by rw [Bt2.out.len]; exact H52.out
                    have HNX : Hid (RProg b m (i + 1) ⟨n.level, n.keys ++ [key], n.vals, n.kids ++ [p]⟩ (r2.drop 52) true) := by rw [hp.out]; exact HPr.out.nextP hi HG.out HLV0.out HKy.out (by rw [← her.out]; exact he) H52.out (by rw [← hp.out]; exact HPO.out)
                    have Bt3 := Lib.hid (Bt2.out.cut hk52)
                    subst he
                    go_wp2_with (first
                      | ((with_reducible refine opAllocP ?_); intro w9 r9 b9 z9; have B9 := Lib.hid b9; have R9 := Lib.hid r9; clear r9 b9)
                      | ((with_reducible refine opStoreP w8.heap.size p HPO.out.shaL R9.out rfl ?_ ?_ ?_); (focus rfl); (focus rfl); intro w10 r10 o10; have T10 := Lib.hid (T8.out.keep (B9.out.trans o10.below)); have R10 := Lib.hid r10; have rk3 := row_kids T10.out.under.var; clear r10 o10)
                      | ((with_reducible refine opLow (A := S2) (m := k2) (c := d2) (j := 52) (k := .i64) hk52 ?_ ?_ ?_ ?_); (focus rfl); (focus rfl); (focus rfl))
                      | ((with_reducible refine opLoadP w8.heap.size p HPO.out.shaL R10.out ?_ ?_ ?_); (focus rfl); (focus rfl))
                      | ((with_reducible refine opOneP p HPO.out.shaL ?_ ?_); (focus rfl); intro w11 r11 b11; have T11 := Lib.hid (T10.out.keep b11); have C11 := Lib.hid (csrc_row r11); have hsz11 := T11.out.size; clear r11 b11)
                      | (at_builtin; refine wpList_append_cells elP rfl (by decide) (by decide) rfl _ _ rfl (w.heap.size + 1) A3 n.kids.length c3 (pflat n.kids) rfl T11.out.under.kids.own (some ⟨w10.heap.size, 0, none⟩) 1 1 (pcells p).toList rfl (pcells_36 HPO.out.shaL) C11.out (pcells_ones p) (by omega) (by have := (HPr.out.pi_ HLV0.out).1; omega) hsz11 ?_; intro A3' c3' w12 g12; have V12 := Lib.hid (g12.row T11.out.under.kids.own T11.out.under.var (by decide)); have G12 := Lib.hid g12; clear g12)
                      | ((with_reducible refine opStoreSl 24 sizeKP N 3 A3' (n.kids.length + 1) c3' V12.out (by rw [ndC_size]; omega) ?_ ?_ ?_); (focus rfl); (focus rfl); intro w13 h13; have St := T11.out.under.stepP kindsR hgn G12.out 3 (.slice A3' (n.kids.length + 1) c3'); have U13 := T11.out.under.addKid kindsR HPO.out rfl G12.out; rw [← h13] at St U13; have T13 := Lib.hid (T11.out.step St.below U13); clear St U13 h13 V12 G12 T11 C11 T10 T8))
                    go_roundw
                    case rel => exact ⟨i + 1, ⟨n.level, n.keys ++ [key], n.vals, n.kids ++ [p]⟩, A1', c1', ks ++ [.slice Bk key.length dk], A2, c2, vs, A3', c3', r2.drop 52, true, Cut.cutA S2 d2 52, k2 - 52, d2 - 52, HLV.out, HNX.out, T13.out, by go_num, by rw [show lastK (n.keys ++ [key]) (i + 1) = key from rsnoc_last _ _ _ HPr.out.ki, HPY.out], rfl, rfl, Bt3.out⟩
                    case measure => simp [intOf]; omega
                  · have HNO : Hid (NoNd b) := HPr.out.noKid hi HG.out HLV0.out (by rw [← her.out]; exact he)
                    have ne1 : (er == 0) = false := beq_eq_false_iff_ne.2 he
                    have ne2 : (er != 0) = true := by rw [bne_iff_ne]; exact he
                    clear he
                    go_wp2_with (first
                      | ((with_reducible refine opAllocP ?_); intro w9 r9 b9 z9; have B9 := Lib.hid b9; have R9 := Lib.hid r9; clear r9 b9)
                      | ((with_reducible refine opStoreP w8.heap.size p HPO.out.shaL R9.out rfl ?_ ?_ ?_); (focus rfl); (focus rfl); intro w10 r10 o10; have T10 := Lib.hid (T8.out.keep (B9.out.trans o10.below)); have R10 := Lib.hid r10; clear r10 o10)
                      | ((with_reducible refine opBuild0 ?_ ?_); (focus rfl))
                      | ((with_reducible refine opStore Nd.zero none 0 none 0 none 0 w.heap.size T10.out.res rfl ?_ ?_ ?_); (focus rfl); (focus rfl); intro w16 r16 o16; have R16 := Lib.hid r16; have O16 := Lib.hid o16; clear r16 o16))
                    refine bodyPost_ret (results_node_tmp ltR rfl _ _ _ _ _ rfl R16.out) rfl ?_
                    exact ⟨0, Nd.zero, none, 0, [], none, 0, [], none, 0, false, rfl, NdO.nil _ _, T10.out.below.trans (O16.out.below.mono (Nat.le_refl _)), (fun h => by cases h), fun _ => HNO.out⟩
              · have ds : decide (L.size < v) = true := by simp; omega
                have ds' : decide ((L.size : Int) < (v : Int)) = true := by simp; omega
                have HNO : Hid (NoNd b) := no_same HPr.out.fits hi (.inr (.inl (by rw [← HI1.out.2.1, ← HLz.out]; omega)))
                clear hs
                go_wp2_with (first
                  | ((with_reducible refine opBuild0 ?_ ?_); (focus rfl))
                  | ((with_reducible refine opStore Nd.zero none 0 none 0 none 0 w.heap.size T2.out.res rfl ?_ ?_ ?_); (focus rfl); (focus rfl); intro w16 r16 o16; have R16 := Lib.hid r16; have O16 := Lib.hid o16; clear r16 o16))
                refine bodyPost_ret (results_node_tmp ltR rfl _ _ _ _ _ rfl R16.out) rfl ?_
                exact ⟨0, Nd.zero, none, 0, [], none, 0, [], none, 0, false, rfl, NdO.nil _ _, T2.out.below.trans (O16.out.below.mono (Nat.le_refl _)), (fun h => by cases h), fun _ => HNO.out⟩
      · obtain rfl : i = m := by have := HPr.out.most; omega
        go_wp2_with (first
          | ((with_reducible refine opLoad N HTk.out.under.var ?_ ?_ ?_); (focus rfl); (focus rfl))
          | ((with_reducible refine opStore n A1 c1 A2 c2 A3 c3 w.heap.size HTk.out.res rfl ?_ ?_ ?_); (focus rfl); (focus rfl); intro w16 r16 o16; have R16 := Lib.hid r16; have O16 := Lib.hid o16; clear r16 o16))
        refine bodyPost_ret (results_node_tmp ltR rfl _ _ _ _ _ rfl R16.out) rfl ?_
        exact ⟨w.heap.size + 1, n, A1, c1, ks, A2, c2, vs, A3, c3, ok, rfl, HTk.out.under.ndO.only HTk.out.res O16.out (by decide) (by decide) (by decide), HTk.out.below.trans (O16.out.below.mono (Nat.le_refl _)), fun hok => HPr.out.done hok Hm.out, fun hok => HPr.out.wrong hok⟩
end Lf
end Go.Proofs.Ytnoofmdhhlcbkaa

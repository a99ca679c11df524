/- Text tells the sum as 32 digits; two arrays of numbers that hold the same are equal (the operation == in a walk). -/
import Derived.Test.YtfjkejdnbegomaaDoorMd5End
import Derived.Stop.BytesEq
namespace Go.Proofs.YtfjkejdnbegomaaDoor.Md5
open Go.RowKit

/-- A digit's byte. -/
def digI (d : Int) : Int := if d < 10 then 48 + d else 87 + d
def textAt (l : List Int) (i : Nat) : Int := if i % 2 = 0 then digI (l.getD (i / 2) 0 / 16) else digI (l.getD (i / 2) 0 % 16)
/-- Bytes as digits, two each. -/
def textW (l : List Int) : List Int := (List.range (2 * l.length)).map (textAt l)
theorem textW_length (l : List Int) : (textW l).length = 2 * l.length := by unfold textW; rw [List.length_map, List.length_range]
theorem textW_getD (l : List Int) (i : Nat) (h : i < 2 * l.length) : (textW l).getD i 0 = textAt l i := by
  unfold textW
  rw [List.getD_eq_getElem?_getD, List.getElem?_map, List.getElem?_range h]
  rfl
theorem textW_even (l : List Int) (k : Nat) (h : k < l.length) : (textW l).getD (2 * k) 0 = digI (l.getD k 0 / 16) := by
  rw [textW_getD l _ (by omega)]
  unfold textAt
  rw [if_pos (by omega), show 2 * k / 2 = k by omega]
theorem textW_odd (l : List Int) (k : Nat) (h : k < l.length) : (textW l).getD (2 * k + 1) 0 = digI (l.getD k 0 % 16) := by
  rw [textW_getD l _ (by omega)]
  unfold textAt
  rw [if_neg (by omega), show (2 * k + 1) / 2 = k by omega]
/-- The digits, as the programs have them. -/
def digitsB : ByteArray := ⟨#[48, 49, 50, 51, 52, 53, 54, 55, 56, 57, 97, 98, 99, 100, 101, 102]⟩
theorem digits_at : ∀ m : Fin 16, digitsB[m.val]? = some (UInt8.ofNat (if m.val < 10 then 48 + m.val else 87 + m.val)) := by decide
theorem run_index_digit {P : Program} (w : World) (t : TypeId) (d : Int) (hu : P.underlying t = some .string) (h0 : 0 ≤ d) (h1 : d < 16) :
    (Instr.index t (.string digitsB) (.int .u8 d)).run P w = .ok (.int .u8 (digI d)) w := by
  obtain ⟨m, rfl⟩ := Int.eq_ofNat_of_zero_le h0
  have hm : m < 16 := by omega
  have hd := digits_at ⟨m, hm⟩
  have ha : (asIntOf (.int .u8 (m : Int))).run P w = .ok (.u8, (m : Int)) w := by simp [asIntOf]
  have hv : ((UInt8.ofNat (if m < 10 then 48 + m else 87 + m)).toNat : Int) = digI (m : Int) := by
    unfold digI
    rw [UInt8.toNat_ofNat']
    split <;> split <;> omega
  unfold Instr.index
  simp only [Sem.run_bind, ha, Result.andThen_ok, run_underlying hu w]
  rw [if_pos h0, Int.toNat_natCast, hd]
  simp only [Sem.run_pure]
  rw [← hv]
theorem and15 (x : Int) (h : 0 ≤ x ∧ x < 256) : bits .and .u8 x 15 = x % 16 := by
  obtain ⟨m, rfl⟩ := Int.eq_ofNat_of_zero_le h.1
  have hm : m < 256 := by omega
  have : ∀ j : Fin 256, bits .and .u8 (j.val : Int) 15 = (j.val : Int) % 16 := by decide +kernel
  exact this ⟨m, hm⟩

theorem bytes_laid (hs : List Wd) : IsBytes (laidW hs) := fun x hx => by
  obtain ⟨i, _, rfl⟩ := List.mem_map.1 hx
  unfold byteAt
  omega
theorem bytes_sum (ks hs : List Wd) (xs : List Int) : IsBytes (sumW ks hs xs) := by
  unfold sumW endW
  split <;> exact bytes_laid _
theorem row_bytes {w : World} {g : Nat} {t : TypeId} {l : List Int} (h : Row w g t (bcells l)) : Src .u8 w (some ⟨g, 0, none⟩) l := fun _ =>
  ⟨g, 0, rfl, h.lt, fun i hi => by rw [Nat.zero_add]; exact h.cell (bcells_at l i hi)⟩
def TxAt (w : World) (l : List Int) (i : Value) (wr : World) : Prop :=
  ∃ k : Nat, k ≤ 16 ∧ i = .int .i64 k ∧ Row wr w.heap.size 40 (bcells (partly (textW l) 0 (2 * k))) ∧ Below w.heap.size w wr

set_option maxRecDepth 100000 in
set_option maxHeartbeats 1000000 in
theorem text_any (h0 ks : List Wd) (A : Option Addr) (n c : Nat) (xs : List Int) (w : World) (hh : h0.length = 4) (ht : Tab w h0 ks) (hks : ks.length = 64) (hn : n = xs.length) (hs0 : Src .u8 w A xs) (hx : IsBytes xs) (hnc : n ≤ c) (hc : c ≤ 9223372036854775807) :
    Calls Tryd.prog 8 #[.slice A n c] w fun e w' => e = .returned (.string (strOfNums (textW (sumW ks h0 xs)))) ∧ Below w.heap.size w w' := by
  have Hh := Lib.hid hh
  have Hks := Lib.hid hks
  have Hn := Lib.hid hn
  have Hs := Lib.hid hs0
  have Ht := Lib.hid ht
  have Hx := Lib.hid hx
  have r0 := Row.new w 40 (bcells (List.replicate 32 0))
  have hb0 : Below w.heap.size w (w.alloc (.cells (bcells (List.replicate 32 0)) 40)) := (Below.refl _ _).alloc (Nat.le_refl _) _
  clear hh hks hn hs0 ht hx
  go_enter Tryd.func8, Tryd.ntmps8
  go_wp2_with fail
  refine (sum_any h0 ks A n c xs _ Hh.out (Ht.out.keep hb0) Hks.out Hn.out (Hs.out.keep hb0) Hx.out hnc hc).mono ?_
  rintro e w1 ⟨rfl, hb1⟩
  have r1 := r0.keep hb1
  have hb2 := hb0.trans (hb1.mono hb0.size)
  clear r0 hb0 hb1
  have HL := Lib.hid (sumW_length ks h0 xs)
  have HB := Lib.hid (bytes_sum ks h0 xs)
  generalize eO : sumW ks h0 xs = l at *
  have EO := Lib.hid eO
  clear eO
  have HT := Lib.hid (show (textW l).length = 32 by rw [textW_length, HL.out])
  go_wp2_with fail
  go_loopw [8] (fun i wr => TxAt w l i wr) (fun i _ => 16 - (intOf i).toNat)
  case atStart => exact ⟨0, Nat.zero_le _, rfl, by rw [Nat.mul_zero, partly_none, HT.out]; exact r1, hb2⟩
  case round =>
    clear r1 hb2
    obtain ⟨k, hk, rfl, r1, hb⟩ := hrel
    by_cases hlt : k < 16
    · obtain ⟨j0, e0⟩ : ∃ j : Nat, 2 * k = j := ⟨_, rfl⟩
      have ik := fun w' => run_index_array (P := Tryd.prog) w' 23 5 16 _ (bcells l) k _ Tryd.underlying23 Tryd.underlying5 rfl Tryd.one5 hlt (bcells_at l k (by rw [HL.out]; exact hlt))
      have HE := Lib.hid (textW_even l k (by rw [HL.out]; exact hlt))
      have HO := Lib.hid (textW_odd l k (by rw [HL.out]; exact hlt))
      rw [e0] at HE HO r1
      have H2 := Lib.hid (show 2 * (k + 1) = j0 + 1 + 1 by omega)
      have g0 : j0 + 1 < 32 := by omega
      have s0 : 2 * (k : Int) = (j0 : Int) := by omega
      have hb1 := HB.out.at_ k
      generalize l.getD k 0 = x at *
      have hx16 : bits .and .u8 x 15 = x % 16 := and15 x hb1
      have d1 := fun w' => run_index_digit (P := Tryd.prog) w' 9 (x / 16) Tryd.underlying9 (by omega) (by omega)
      have d2 := fun w' => run_index_digit (P := Tryd.prog) w' 9 (x % 16) Tryd.underlying9 (by omega) (by omega)
      have c0 := brow_there (j := j0) r1 (by rw [HT.out]; omega)
      have c1 := brow_there (j := j0 + 1) r1 (by rw [HT.out]; omega)
      have f0 := r1.free j0
      have f1 := r1.free (j0 + 1)
      unfold digitsB at d1 d2
      clear e0
      go_wp2_with fail
      refine ⟨⟨k + 1, by omega, by go_num, by rw [H2.out]; exact brow_next (brow_next r1 (by rw [HT.out]; omega) HE.out) (by rw [HT.out]; omega) HO.out, (hb.setCell (p := ⟨w.heap.size, j0, none⟩) (Nat.le_refl _) _).setCell (p := ⟨w.heap.size, j0 + 1, none⟩) (Nat.le_refl _) _⟩, ?_⟩
      simp [intOf]; omega
    · obtain rfl : k = 16 := by omega
      rw [show ((16 : Nat) : Int) = (16 : Int) from rfl]
      rw [partly_all (textW l) _ _ (by rw [HT.out]; omega)] at r1
      have ht := run_text wr (some ⟨w.heap.size, 0, none⟩) 32 32 (textW l) HT.out.symm (row_bytes r1)
      go_wp2_with fail
      go_ret
      exact ⟨by rw [EO.out]; rfl, hb⟩
/-- Each of the first n cells is a number of kind k. -/
def Ints (k : IntKind) (n : Nat) (cs : Array Value) : Prop := ∀ i, i < n → ∃ x, cs[i]? = some (.int k x)
theorem ints_b (l : List Int) (n : Nat) (h : l.length = n) : Ints .u8 n (bcells l) := fun i hi => ⟨_, bcells_at l i (by omega)⟩
theorem ints_w (l : List Wd) (n : Nat) (h : l.length = n) : Ints .u32 n (wcells l) := fun i hi => ⟨_, wcells_at l i (by omega)⟩
section
variable {P : Program} (w : World)
theorem run_equal_ints (d : Nat) (t e : TypeId) (n : Nat) (k : IntKind) (ht : P.underlying t = some (.array n e)) (he : P.underlying e = some (.int k)) (hsz : ∀ w, (sizeOf e).run P w = .ok 1 w) (cs : Array Value) (hc : Ints k n cs) :
    (Op.equalIn (d + 2) t (.agg cs) (.agg cs)).run P w = .ok true w := by
  rw [Op.equalIn]
  simp only [Sem.run_bind, run_underlying ht, Result.andThen_ok, hsz, Std.Legacy.Range.forIn_eq_forIn_range', Std.Legacy.Range.size, Nat.sub_zero, Nat.add_sub_cancel, Nat.div_one]
  have hl : ∀ i ∈ List.range' 0 n 1, i < n := fun i hi => by simpa using (List.mem_range'_1.1 hi).2
  generalize List.range' 0 n 1 = l at hl ⊢
  induction l with
  | nil => simp
  | cons i l ih =>
    have hi : i < n := hl i (by simp)
    obtain ⟨x, hx⟩ := hc i hi
    have px : (part e cs (i * 1)).run P w = .ok (.int k x) w := by
      simp [part, isAgg, run_underlying he, hx]
    have pe : (Op.equalIn (d + 1) e (.int k x) (.int k x)).run P w = .ok true w := by
      rw [run_equalIn_int w d e k k _ _ he]
      simp
    simp only [List.forIn_cons, Sem.run_bind, px, pe, Result.andThen_ok]
    simp only [Bool.not_true, Bool.false_eq_true, if_false, Sem.run_pure, Result.andThen_ok]
    exact ih fun j hj => hl j (by simp [hj])
theorem run_eql_ints (t e : TypeId) (n : Nat) (k : IntKind) (ht : P.underlying t = some (.array n e)) (he : P.underlying e = some (.int k)) (hsz : ∀ w, (sizeOf e).run P w = .ok 1 w) (cs : Array Value) (hc : Ints k n cs) :
    (binOp .eql t (.agg cs) (.agg cs)).run P w = .ok (.bool true) w := by
  rw [run_eql_struct, run_equal_ints w 9998 t e n k ht he hsz cs hc]
  rfl
end
theorem size_one {P : Program} {e : TypeId} (hz : (P.info? e).map (·.size) = some 1) (w : World) : (sizeOf e).run P w = .ok 1 w := by
  cases hq : P.info? e with
  | none => simp [hq] at hz
  | some i =>
    have hs : i.size = 1 := by simpa [hq] using hz
    simp [sizeOf, typeInfo, hq, hs]
theorem eql_sums (w : World) (l : List Int) (h : l.length = 16) : (binOp .eql 23 (.agg (bcells l)) (.agg (bcells l))).run Tryd.prog w = .ok (.bool true) w :=
  run_eql_ints w 23 5 16 .u8 Tryd.underlying23 Tryd.underlying5 (size_one Tryd.one5) _ (ints_b l 16 h)
/-- An operation that is carried out, guarded or not. -/
theorem wpList_wanted {P : Program} {ops : Array Oper} {rest : List Oper} {o : Oper} {a : Act} {w : World} {Q : Exit → Act → World → Prop} (hw : Region.wanted o (yielded ops a.tmps) = true)
    (h : ∀ K : Act → World → Prop, (∀ a w, wpList P ops Q rest a w → K a w) → o.wp P a w K Q) : wpList P ops Q (o :: rest) a w :=
  wpList_step fun K hK => by simp only [hw, if_true]; exact h K hK
theorem wpList_load_cells_w {P : Program} {ops : Array Oper} {rest : List Oper} {op : Oper} {a : Act} {w : World} {Q : Exit → Act → World → Prop} (hw : Region.wanted op (yielded ops a.tmps) = true) (ty : TypeId) (x : Operand) (ho : op.op = .load ty x)
    (b o : Nat) (hx : a.eval x = .pointer (some ⟨b, o, none⟩)) (cs : Array Value) (d : TypeDesc) (hc : Cells w b o cs)
    (hu : P.underlying ty = some d) (hd : (match d with | .struct _ | .array _ _ => true | _ => false) = true) (hi : (P.info? ty).map (·.size) = some cs.size)
    (h : wpList P ops Q rest (a.put op.dst (.agg cs)) w) : wpList P ops Q (op :: rest) a w := by
  refine wpList_wanted hw fun K hK => ?_
  unfold Oper.wp execOp
  simp only [ho, hx, Instr.loadAt, Instr.sureAddr, Sem.run_bind, Sem.run_pure, Result.andThen_ok, run_loadVar_cells w b o ty cs d hc hu hd hi]
  exact hK _ _ h
theorem end_all (h0 ks hs : List Wd) (q : Qd) (A : Option Addr) (n c : Nat) (xs : List Int) (w : World) (hh : hs.length = 4) (ht : Tab w h0 ks) (hks : ks.length = 64) (hs0 : Src .u8 w A xs) (hx : IsBytes xs) (hn : n = xs.length) (hnc : n ≤ c) (hc : c ≤ 9223372036854775807) :
    Calls Tryd.prog 12 #[.agg (scells hs (uq q)), .slice A n c] w fun e w' => e = .returned (.agg (bcells (endW ks hs q (xs.take 63)))) ∧ Below w.heap.size w w' := by
  by_cases h : n ≤ 63
  · rw [List.take_of_length_le (by omega)]
    exact end_any h0 ks hs q A n c xs w hh ht hks hn hs0 hx (by omega)
  · have hs1 := hs0
    obtain ⟨b, o, rfl, _, _⟩ := hs1 (by omega)
    exact end_long h0 ks hs q b o n c (xs.take 63) w hh ht hks (hs0.take 63) (hx.take 63) (by rw [List.length_take]; omega) (by omega) hnc hc
theorem src_cells {w : World} {b o : Nat} {ys : List Int} (h : ∀ i, i < ys.length → w.cell? ⟨b, o + i, none⟩ = some (.int .u8 (ys.getD i 0))) : Cells w b o (bcells ys) := fun j v hv => by
  have hj : j < ys.length := by
    rcases Nat.lt_or_ge j ys.length with h' | h'
    · exact h'
    · rw [Array.getElem?_eq_none (by rw [bcells_size]; exact h')] at hv; cases hv
  rw [bcells_at ys j hj] at hv
  exact (h j hj).trans hv
theorem size_nums (xs : List Int) : (strOfNums xs).size = xs.length := by
  unfold strOfNums
  show (xs.map fun n => UInt8.ofNat n.toNat).toArray.size = _
  rw [List.size_toArray, List.length_map]
end Go.Proofs.YtfjkejdnbegomaaDoor.Md5

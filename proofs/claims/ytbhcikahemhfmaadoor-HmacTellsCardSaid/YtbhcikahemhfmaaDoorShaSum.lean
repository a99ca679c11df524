/- Sum tells the document's sum of any bytes. -/
import Derived.Test.YtbhcikahemhfmaaDoorShaEnd
namespace Go.Proofs.YtbhcikahemhfmaaDoor.Sha3
open Go.RowKit

theorem end_any (h0 ks hs : List Wd) (q : Qd) (A : Option Addr) (n c : Nat) (xs : List Int) (w : World) (hh : hs.length = 8) (ht : Tab w h0 ks) (hks : ks.length = 64) (hn : n = xs.length) (hs0 : Src .u8 w A xs) (hx : IsBytes xs) (hl : xs.length ≤ 63) :
    Calls Tryd.prog 23 #[.agg (scells hs (uq q)), .slice A n c] w fun e w' => e = .returned (.agg (bcells (endW ks hs q xs))) ∧ Below w.heap.size w w' := by
  unfold endW
  rcases Nat.lt_or_ge xs.length 56 with h | h
  · rw [if_pos h, ← hn]
    exact end_one h0 ks hs q A n c xs w hh ht hks hn hs0 hx h
  · rw [if_neg (by omega), ← hn]
    exact end_two h0 ks hs q A n c xs w hh ht hks hn hs0 hx h hl
theorem end_long (h0 ks hs : List Wd) (q : Qd) (b o m c : Nat) (xs : List Int) (w : World) (hh : hs.length = 8) (ht : Tab w h0 ks) (hks : ks.length = 64) (hs0 : Src .u8 w (some ⟨b, o, none⟩) xs) (hx : IsBytes xs) (hl : 63 = xs.length) (hm : 63 < m) (hmc : m ≤ c) (hc : c ≤ 9223372036854775807) :
    Calls Tryd.prog 23 #[.agg (scells hs (uq q)), .slice (some ⟨b, o, none⟩) m c] w fun e w' => e = .returned (.agg (bcells (endW ks hs q xs))) ∧ Below w.heap.size w w' := by
  unfold endW
  rw [if_neg (by omega), ← hl]
  exact end_cut h0 ks hs q b o m c xs w hh ht hks hs0 hx hl hm hmc hc
theorem start_any (h0 ks : List Wd) (w : World) (hh : h0.length = 8) (ht : Tab w h0 ks) : Calls Tryd.prog 21 #[] w fun r w' => r = .returned (.agg (scells h0 0)) ∧ Below w.heap.size w w' := by
  match h0, hh, ht with
  | [a, b, c, d, e, f, g, h], _, ht => exact begin_any ks a b c d e f g h w ht

/-- The address behind a cut of the first j elements. -/
def fromA (A : Option Addr) (c j : Nat) : Option Addr := if c = j then A else A.map (·.add j)
theorem run_slice_from {P : Program} (w : World) (t e : TypeId) (A : Option Addr) (n c j : Nat) (hu : P.underlying t = some (.slice e)) (hz : (P.info? e).map (·.size) = some 1) (hj : j ≤ n) :
    (Instr.sliceAt t (.slice A n c) (some (.int .i64 (j : Int))) none none).run P w = .ok (.slice (fromA A c j) (n - j) (c - j)) w := by
  cases hq : P.info? e with
  | none => simp [hq] at hz
  | some i =>
    have hs : i.size = 1 := by simpa [hq] using hz
    have hk' : (0 : Int) ≤ (j : Int) ∧ (j : Int) ≤ (n : Int) := by omega
    have ha : ∀ w', (asIntOf (.int .i64 (j : Int))).run P w' = .ok (.i64, (j : Int)) w' := fun w' => by simp [asIntOf]
    have hb : ∀ w', (Instr.sliceBound (.int .i64 (j : Int)) n .sliceB).run P w' = .ok j w' := fun w' => by
      unfold Instr.sliceBound
      simp only [Sem.run_bind, ha, Result.andThen_ok]
      rw [if_pos hk']
      simp
    unfold Instr.sliceAt
    simp only [Sem.run_bind, run_underlying hu w, Result.andThen_ok]
    unfold Instr.slice Instr.sliceBounds
    simp [Sem.run_bind, run_underlying hu w, hb, sizeOf, typeInfo, hq, hs, fromA]
theorem wpList_slice_from {P : Program} {ops : Array Oper} {rest : List Oper} {o : Oper} {a : Act} {w : World} {Q : Exit → Act → World → Prop} (hgd : o.guard = none) (t e : TypeId) (x : Operand) (m : Int) (j : Nat) (hm : m = (j : Int)) (ho : o.op = .slice t x (some (.const (.int .i64 m))) none none)
    (hu : P.underlying t = some (.slice e)) (hz : (P.info? e).map (·.size) = some 1) (A : Option Addr) (n c : Nat) (hx : a.eval x = .slice A n c) (hj : j ≤ n)
    (h : wpList P ops Q rest (a.put o.dst (.slice (fromA A c j) (n - j) (c - j))) w) : wpList P ops Q (o :: rest) a w := by
  subst hm
  refine wpList_plain hgd fun K hK => ?_
  have hk : a.eval (.const (.int .i64 (j : Int))) = .int .i64 (j : Int) := rfl
  unfold Oper.wp execOp
  simp only [ho, hx, hk, Option.map_some, Option.map_none, Sem.run_bind, run_slice_from w t e A n c j hu hz hj, Result.andThen_ok, Sem.run_pure]
  exact hK _ _ h
theorem splice_full (ys : List Int) (h : ys.length = 64) : (splice ((List.replicate 64 (0 : Int)).map (Value.int .u8)) 0 (cellsOf .u8 ys)).toArray = bcells ys := by
  rw [splice_zeros, h]
  show bcells (ys ++ []) = bcells ys
  rw [List.append_nil]
theorem bytes_next (k : Nat) : (BitVec.ofNat 64 (64 * k) + 64#64 : Qd) = BitVec.ofNat 64 (64 * (k + 1)) := by
  rw [show 64 * (k + 1) = 64 * k + 64 by omega, BitVec.ofNat_add]

theorem put_none (a : Act) (v : Value) : a.put none v = a := rfl
/-- A slice's length. -/
def lenOfV : Value → Nat
  | .slice _ n _ => n
  | _ => 0
/-- At a round's head: k blocks are in the state. -/
def SuAt (w : World) (S : Nat) (h0 ks : List Wd) (xs : List Int) (v : Value) (wr : World) : Prop :=
  ∃ (k : Nat) (A : Option Addr) (n c : Nat), 64 * k ≤ xs.length ∧ v = .slice A n c ∧ n = xs.length - 64 * k ∧ n ≤ c ∧ c ≤ 9223372036854775807 ∧ Src .u8 w A (xs.drop (64 * k)) ∧ Row wr w.heap.size 23 (bcells (List.replicate 32 0)) ∧
    Row wr S 41 (scells (blocksW ks h0 xs k) (uq (BitVec.ofNat 64 (64 * k)))) ∧ Below w.heap.size w wr

set_option maxRecDepth 100000 in
set_option maxHeartbeats 1000000 in
theorem sum_any (h0 ks : List Wd) (A : Option Addr) (n c : Nat) (xs : List Int) (w : World) (hh : h0.length = 8) (ht : Tab w h0 ks) (hks : ks.length = 64) (hn : n = xs.length) (hs0 : Src .u8 w A xs) (hx : IsBytes xs) (hnc : n ≤ c) (hc : c ≤ 9223372036854775807) :
    Calls Tryd.prog 14 #[.slice A n c] w fun e w' => e = .returned (.agg (bcells (sumW ks h0 xs))) ∧ Below w.heap.size w w' := by
  have Hh := Lib.hid hh
  have Hks := Lib.hid hks
  have Hn := Lib.hid hn
  have Hs := Lib.hid hs0
  have Ht := Lib.hid ht
  have Hx := Lib.hid hx
  have r0 := Row.new w 23 (bcells (List.replicate 32 0))
  have hb0 : Below w.heap.size w (w.alloc (.cells (bcells (List.replicate 32 0)) 23)) := (Below.refl _ _).alloc (Nat.le_refl _) _
  clear hh hks hn hs0 ht hx
  go_enter Tryd.func14, Tryd.ntmps14
  go_wp2_with fail
  refine (start_any h0 ks _ Hh.out (Ht.out.keep hb0)).mono ?_
  rintro e w1 ⟨rfl, hb1⟩
  have r1 := r0.keep hb1
  have hb2 := hb0.trans (hb1.mono hb0.size)
  clear r0 hb0 hb1
  have r2 := r1.old (.cells (scells (List.replicate 8 0#32) 0) 41)
  have r3 := Row.new w1 41 (scells (List.replicate 8 0#32) 0)
  have hb3 := hb2.alloc hb2.size (.cells (scells (List.replicate 8 0#32) 0) 41)
  have hlt := r1.lt
  go_wp2_with (refine wpList_store_row rfl 41 (.tmp 3) (.tmp 5) rfl w1.heap.size (scells h0 0) rfl rfl 41 (scells (List.replicate 8 0#32) 0) r3 (by rw [Tryd.size31, scells_size, Hh.out]) (by rw [scells_size, scells_size, Hh.out]; rfl) (scells_one _ _) ?_; have p3 := r3.setRow (scells h0 0); have p2 := r2.otherRow (b := w1.heap.size) (by omega) (scells h0 0); have pb := below_setRow hb3 (b := w1.heap.size) (by omega) (scells h0 0); clear r1 r2 r3 hb2 hb3)
  rw [put_none, show #[Value.int IntKind.u32 0, Value.int IntKind.u32 0, Value.int IntKind.u32 0, Value.int IntKind.u32 0, Value.int IntKind.u32 0, Value.int IntKind.u32 0, Value.int IntKind.u32 0, Value.int IntKind.u32 0, Value.int IntKind.u64 0] = scells (List.replicate 8 0#32) 0 from rfl]
  generalize (w1.alloc (.cells (scells (List.replicate 8 0#32) 0) 41)).setRow w1.heap.size (scells h0 0) = w2 at *
  have HS : w.heap.size < w1.heap.size := hlt
  clear hlt
  generalize w1.heap.size = S at *
  go_loopw [0] (fun v wr => SuAt w S h0 ks xs v wr) (fun v _ => lenOfV v)
  case atStart => exact ⟨0, A, n, c, by omega, rfl, by rw [Nat.mul_zero, Nat.sub_zero]; exact Hn.out, hnc, hc, Hs.out, p2, p3, pb⟩
  case round =>
    clear p2 p3 pb
    obtain ⟨k, A1, n1, c1, hk, rfl, hn1, hnc1, hc1, hs1, r1, r2, hb⟩ := hrel
    have HN := Lib.hid hn1
    have HK := Lib.hid hk
    by_cases hlt : 64 ≤ n1
    · have hd : decide ((64 : Int) ≤ (n1 : Int)) = true := by simp; omega
      have HLy := Lib.hid (show ((xs.drop (64 * k)).take 64).length = 64 by rw [List.length_take, List.length_drop]; omega)
      have Hsy := Lib.hid (hs1.take 64)
      have Hsd := Lib.hid (hs1.drop 64 c1 (by rw [List.length_drop]; omega) (by rw [List.length_drop]; omega))
      have Hby := Lib.hid ((Hx.out.drop (64 * k)).take 64)
      have HB := Lib.hid (show blocksW ks h0 xs (k + 1) = blockW ks (blocksW ks h0 xs k) ((xs.drop (64 * k)).take 64) from rfl)
      have H8 := Lib.hid (blocksW_length ks h0 xs Hh.out k)
      have HD := Lib.hid (show (xs.drop (64 * k)).drop 64 = xs.drop (64 * (k + 1)) by rw [List.drop_drop, show 64 * k + 64 = 64 * (k + 1) by omega])
      clear hn1 hk hs1
      rw [HD.out] at Hsd
      generalize (xs.drop (64 * k)).take 64 = ys at *
      generalize blocksW ks h0 xs k = hs at *
      have r1a := r1.old (.cells (bcells (List.replicate 64 0)) 43)
      have r2a := r2.old (.cells (bcells (List.replicate 64 0)) 43)
      have r3a := Row.new wr 43 (bcells (List.replicate 64 0))
      have hba := hb.alloc hb.size (.cells (bcells (List.replicate 64 0)) 43)
      have hsz := hb.size
      have hS := r2.lt
      go_wp2_with (first
        | (refine wpList_copy_splice rfl (.tmp 9) (.tmp 10) 22 22 rfl 5 Tryd.underlying22 Tryd.one5 _ _ 64 64 n1 _ rfl rfl wr.heap.size 0 ((List.replicate 64 (0 : Int)).map (Value.int .u8)) 43 r3a (cellsOf .u8 ys) (by rw [cellsOf_length, HLy.out]; exact (Nat.min_eq_right hlt).symm) (fun hp => ⟨rfl, src_copy (Hsy.out.keep hba) hp⟩) (by rw [cellsOf_length, List.length_map, List.length_replicate, HLy.out]; exact Nat.le_refl _) (cellsOf_one _ _) wr.heap.size _ (Below.refl _ _) (Nat.le_refl _) ?_; intro w3 hg3 hb3; rw [splice_full ys HLy.out] at hg3; rw [show goInt ((cellsOf .u8 ys).length : Nat) = .int .i64 64 by rw [cellsOf_length, HLy.out]; rfl]; have q1 := r1a.keepB hb3 (by omega); have q2 := r2a.keepB hb3 hS; have q3 : Row w3 wr.heap.size 43 _ := hg3.out; have qb := hba.trans (hb3.mono hsz); clear r1 r2 hb r1a r2a r3a hba hb3 hg3)
        | (refine wpList_load_cells rfl 41 (.tmp 3) rfl S 0 rfl (scells hs (uq (BitVec.ofNat 64 (64 * k)))) _ q2.cells Tryd.underlying41 rfl (by rw [Tryd.size31, scells_size, H8.out]) ?_)
        | (refine wpList_load_cells rfl 43 (.tmp 4) rfl wr.heap.size 0 rfl (bcells ys) _ q3.cells Tryd.underlying43 rfl (by rw [Tryd.size32, bcells_size, HLy.out]) ?_))
      refine (block_any h0 ks hs _ ys _ H8.out HLy.out Hby.out (Ht.out.keep qb) Hks.out).mono ?_
      rintro e w5 ⟨rfl, hb5⟩
      rw [bytes_next]
      have p1 := q1.keep hb5
      have p2 := q2.keep hb5
      have pb := qb.trans (hb5.mono qb.size)
      clear q1 q2 q3 qb hb5
      have HB8 := Lib.hid (blocksW_length ks h0 xs Hh.out (k + 1))
      rw [← HB.out]
      generalize eH : blocksW ks h0 xs (k + 1) = hs1 at *
      have EH := Lib.hid eH
      clear eH
      go_wp2_with (first
        | (refine wpList_store_row rfl 41 (.tmp 3) (.tmp 14) rfl S (scells hs1 (uq (BitVec.ofNat 64 (64 * (k + 1))))) rfl rfl 41 (scells hs (uq (BitVec.ofNat 64 (64 * k)))) p2 (by rw [Tryd.size31, scells_size, HB8.out]) (by rw [scells_size, scells_size, HB8.out, H8.out]) (scells_one _ _) ?_)
        | (refine wpList_slice_from rfl 22 5 (.tmp 15) 64 64 rfl rfl Tryd.underlying22 Tryd.one5 A1 n1 c1 rfl hlt ?_))
      refine ⟨⟨k + 1, fromA A1 c1 64, n1 - 64, c1 - 64, by have := HN.out; omega, rfl, by have := HN.out; omega, by omega, by omega, Hsd.out, p1.otherRow (by omega) _, by rw [EH.out]; exact p2.setRow _, below_setRow pb (by omega) _⟩, ?_⟩
      simp only [lenOfV]
      omega
    · have hd : decide ((64 : Int) ≤ (n1 : Int)) = false := by simp; omega
      have H8 := Lib.hid (blocksW_length ks h0 xs Hh.out k)
      have HE := Lib.hid (show endW ks (blocksW ks h0 xs k) (BitVec.ofNat 64 (64 * k)) (xs.drop (64 * k)) = sumW ks h0 xs by
        unfold sumW
        rw [show xs.length / 64 = k by omega])
      have HL := Lib.hid (show n1 = (xs.drop (64 * k)).length by rw [List.length_drop]; exact hn1)
      have H63 := Lib.hid (show (xs.drop (64 * k)).length ≤ 63 by rw [List.length_drop]; omega)
      have H9 := Lib.hid (sumW_length ks h0 xs)
      have HS1 := Lib.hid hs1
      clear hn1 hk hs1
      go_wp2_with (refine wpList_load_cells rfl 41 (.tmp 3) rfl S 0 rfl (scells (blocksW ks h0 xs k) (uq (BitVec.ofNat 64 (64 * k)))) _ r2.cells Tryd.underlying41 rfl (by rw [Tryd.size31, scells_size, H8.out]) ?_)
      refine (end_any h0 ks _ _ A1 n1 c1 (xs.drop (64 * k)) _ H8.out (Ht.out.keep hb) Hks.out HL.out (HS1.out.keep hb) (Hx.out.drop _) H63.out).mono ?_
      rintro e w5 ⟨rfl, hb5⟩
      rw [HE.out]
      have p1 := r1.keep hb5
      have pb := hb.trans (hb5.mono hb.size)
      clear r1 r2 hb hb5
      generalize eO : sumW ks h0 xs = out at *
      have EO := Lib.hid eO
      clear eO
      go_wp2_with (refine wpList_store_row rfl 23 (.tmp 2) (.tmp 19) rfl w.heap.size (bcells out) rfl rfl 23 (bcells (List.replicate 32 0)) p1 (by rw [Tryd.size23, bcells_size, H9.out]) (by rw [bcells_size, bcells_size, H9.out, List.length_replicate]) (bcells_one _) ?_)
      refine bodyPost_ret (v := .agg (bcells out)) ?_ rfl ?_
      · exact results_cell_row Tryd.results14 _ _ w.heap.size 23 (bcells out) (0, 0) _ rfl (p1.setRow _) Tryd.underlying23 rfl (by rw [Tryd.size23, bcells_size, H9.out])
      · exact ⟨by rw [← EO.out], below_setRow pb (Nat.le_refl _) _⟩
end Go.Proofs.YtbhcikahemhfmaaDoor.Sha3

/- laid answers words as bytes, the lowest of each first; Begin tells the first state; End ends the sum with the rest; Sum tells the sum of any bytes: the document's, for any state, any rest, any bytes. -/
import Derived.Test.YtfjkejdnbegomaaDoorMd5Block
namespace Go.Proofs.YtfjkejdnbegomaaDoor.Md5
open Go.RowKit

def LaAt (w : World) (l : List Int) (i : Value) (wr : World) : Prop :=
  ∃ k : Nat, k ≤ 4 ∧ i = .int .i64 k ∧ Row wr (w.heap.size + 1) 23 (bcells (List.replicate 16 0)) ∧ Row wr (w.heap.size + 1 + 1) 23 (bcells (partly l 0 (4 * k))) ∧ Below w.heap.size w wr
theorem brow_next {w : World} {g t k : Nat} {l : List Int} {x : Int} (h : Row w g t (bcells (partly l 0 k))) (hk : k < l.length) (hx : l.getD k 0 = x) : Row (w.setCell ⟨g, k, none⟩ (.int .u8 x)) g t (bcells (partly l 0 (k + 1))) := by
  subst hx
  rw [← partly_set l 0 0 k hk, ← bcells_set]
  exact h.set k _
theorem brow_there {w : World} {g t k j : Nat} {l : List Int} (h : Row w g t (bcells (partly l 0 k))) (hj : j < l.length) : w.cell? ⟨g, j, none⟩ = some (.int .u8 ((partly l 0 k).getD j 0)) :=
  h.cell (bcells_at _ j (by rw [partly_length]; exact hj))

set_option maxRecDepth 100000 in
set_option maxHeartbeats 1000000 in
theorem laid_gen (hs : List Wd) (l : List Int) (w : World) (hh : hs.length = 4) (hll : l.length = 16)
    (hb : ∀ k, k < 4 → l.getD (4 * k) 0 = uv (hs.getD k 0#32) % 256 ∧ l.getD (4 * k + 1) 0 = uv (hs.getD k 0#32) / 256 % 256 ∧ l.getD (4 * k + 2) 0 = uv (hs.getD k 0#32) / 65536 % 256 ∧ l.getD (4 * k + 3) 0 = uv (hs.getD k 0#32) / 16777216 % 256) :
    Calls Tryd.prog 21 #[.agg (wcells hs)] w fun e w' => e = .returned (.agg (bcells l)) ∧ Below w.heap.size w w' := by
  have Hh := Lib.hid hh
  have Hll := Lib.hid hll
  have Hb := Lib.hid hb
  clear hh hll hb
  obtain ⟨r1, r2, r3, hb⟩ := rows3 w (wcells hs) (bcells (List.replicate 16 0)) (bcells (List.replicate 16 0)) 28 23 23
  go_enter Tryd.func21, Tryd.ntmps21
  go_wp2_with (refine wpList_load_cells rfl 28 (.tmp 1) rfl w.heap.size 0 rfl (wcells hs) _ r1.cells Tryd.underlying28 rfl (by rw [Tryd.size28, wcells_size, Hh.out]) ?_)
  go_loopw [7] (fun i wr => LaAt w l i wr) (fun i _ => 4 - (intOf i).toNat)
  case atStart => exact ⟨0, Nat.zero_le _, rfl, r2, by rw [Nat.mul_zero, partly_none, Hll.out]; exact r3, hb⟩
  case round =>
    clear r1 r2 r3 hb
    obtain ⟨k, hk, rfl, r2, r3, hb⟩ := hrel
    by_cases hlt : k < 4
    · obtain ⟨j0, e0⟩ : ∃ j : Nat, 4 * k = j := ⟨_, rfl⟩
      have ik := fun w' => run_index_array (P := Tryd.prog) w' 28 27 4 _ (wcells hs) k _ Tryd.underlying28 Tryd.underlying27 rfl Tryd.one27 hlt (wcells_at hs k (by rw [Hh.out]; omega))
      have HB := Lib.hid (Hb.out k hlt)
      rw [e0] at HB r3
      have e4 : 4 * (k + 1) = j0 + 1 + 1 + 1 + 1 := by omega
      have H4 := Lib.hid e4
      have g0 : j0 + 3 < 16 := by omega
      have s0 : 4 * (k : Int) = (j0 : Int) := by omega
      clear e4 e0
      generalize hs.getD k 0#32 = x at *
      have c0 := brow_there (j := j0) r3 (by rw [Hll.out]; omega)
      have c1 := brow_there (j := j0 + 1) r3 (by rw [Hll.out]; omega)
      have c2 := brow_there (j := j0 + 2) r3 (by rw [Hll.out]; omega)
      have c3 := brow_there (j := j0 + 3) r3 (by rw [Hll.out]; omega)
      have f0 := r3.free j0
      have f1 := r3.free (j0 + 1)
      have f2 := r3.free (j0 + 2)
      have f3 := r3.free (j0 + 3)
      go_wp2_with fail
      refine ⟨⟨k + 1, by omega, by go_num, (((r2.other (by omega) _ _).other (by omega) _ _).other (by omega) _ _).other (by omega) _ _, ?_, (((hb.setCell (p := ⟨w.heap.size + 1 + 1, j0, none⟩) (Nat.le_add_right_of_le (Nat.le_add_right _ _)) _).setCell (p := ⟨w.heap.size + 1 + 1, j0 + 1, none⟩) (Nat.le_add_right_of_le (Nat.le_add_right _ _)) _).setCell (p := ⟨w.heap.size + 1 + 1, j0 + 2, none⟩) (Nat.le_add_right_of_le (Nat.le_add_right _ _)) _).setCell (p := ⟨w.heap.size + 1 + 1, j0 + 3, none⟩) (Nat.le_add_right_of_le (Nat.le_add_right _ _)) _⟩, ?_⟩
      · rw [H4.out]
        exact brow_next (brow_next (brow_next (brow_next r3 (by rw [Hll.out]; omega) HB.out.1) (by rw [Hll.out]; omega) HB.out.2.1) (by rw [Hll.out]; omega) HB.out.2.2.1) (by rw [Hll.out]; omega) HB.out.2.2.2
      · simp [intOf]; omega
    · obtain rfl : k = 4 := by omega
      rw [show ((4 : Nat) : Int) = (4 : Int) from rfl]
      rw [partly_all l _ _ (by rw [Hll.out]; omega)] at r3
      go_wp2_with (first
        | (refine wpList_load_cells rfl 23 (.tmp 3) rfl (w.heap.size + 1 + 1) 0 rfl (bcells l) _ r3.cells Tryd.underlying23 rfl (by rw [Tryd.size23, bcells_size, Hll.out]) ?_)
        | (refine wpList_store_row rfl 23 (.tmp 2) (.tmp 38) rfl (w.heap.size + 1) (bcells l) rfl rfl 23 (bcells (List.replicate 16 0)) r2 (by rw [Tryd.size23, bcells_size, Hll.out]) (by rw [bcells_size, bcells_size, Hll.out, List.length_replicate]) (bcells_one l) ?_))
      exact bodyPost_ret (v := .agg (bcells l)) (results_cell_row Tryd.results21 _ _ (w.heap.size + 1) 23 (bcells l) (0, 0) _ rfl (r2.setRow (bcells l)) Tryd.underlying23 rfl (by rw [Tryd.size23, bcells_size, Hll.out])) rfl ⟨rfl, below_setRow hb (Nat.le_add_right _ _) _⟩
theorem byteAt_part (hs : List Wd) (k j m : Nat) (hj : j < 4) (hm : 2 ^ (8 * j) = m) : byteAt hs (4 * k + j) = uv (hs.getD k 0#32) / (m : Int) % 256 := by
  unfold byteAt
  rw [show (4 * k + j) / 4 = k by omega, show (4 * k + j) % 4 = j by omega, BitVec.toNat_ushiftRight, Nat.shiftRight_eq_div_pow, hm]
  unfold uv
  omega
theorem laid_any (hs : List Wd) (w : World) (hh : hs.length = 4) :
    Calls Tryd.prog 21 #[.agg (wcells hs)] w fun e w' => e = .returned (.agg (bcells (laidW hs))) ∧ Below w.heap.size w w' :=
  laid_gen hs (laidW hs) w hh (laidW_length hs) (fun k hk => ⟨by
    rw [laidW_getD hs _ (by omega)]; have := byteAt_part hs k 0 1 (by omega) rfl; rw [show 4 * k = 4 * k + 0 from rfl, this]; simp, by
    rw [laidW_getD hs _ (by omega)]; exact byteAt_part hs k 1 256 (by omega) rfl, by
    rw [laidW_getD hs _ (by omega)]; exact byteAt_part hs k 2 65536 (by omega) rfl, by
    rw [laidW_getD hs _ (by omega)]; exact byteAt_part hs k 3 16777216 (by omega) rfl⟩)
theorem wpList_build_eq {P : Program} {ops : Array Oper} {rest : List Oper} {o : Oper} {a : Act} {w : World} {Q : Exit → Act → World → Prop} (hg : o.guard = none) (t : TypeId) (parts : Array (Nat × Operand)) (ho : o.op = .build t parts)
    (vs : List (Nat × Value)) (hv : (parts.map fun (i, x) => (i, a.eval x)).toList = vs) (cells : Array Value) (hb : P.built t vs = some cells)
    (h : wpList P ops Q rest (a.put o.dst (.agg cells)) w) : wpList P ops Q (o :: rest) a w :=
  wpList_build hg t parts ho (by rw [hv, hb]; rfl) (by rw [hv, hb]; exact h)
theorem built_state (a b c d : Wd) : Tryd.prog.built 31 [(0, .agg (wcells [a, b, c, d]))] = some (scells [a, b, c, d] 0) := by kernel_rfl
set_option maxHeartbeats 1000000 in
theorem begin_any (ks : List Wd) (a b c d : Wd) (w : World) (ht : Tab w [a, b, c, d] ks) :
    Calls Tryd.prog 14 #[] w fun r w' => r = .returned (.agg (scells [a, b, c, d] 0)) ∧ Below w.heap.size w w' := by
  have hb : Below w.heap.size w (w.alloc (.cells (scells (List.replicate 4 0#32) 0) 31)) := (Below.refl _ _).alloc (Nat.le_refl _) _
  have r1 := Row.new w 31 (scells (List.replicate 4 0#32) 0)
  have Ht := Lib.hid (ht.keep hb).2.1
  have Hbd := Lib.hid (built_state a b c d)
  clear ht
  generalize hl : [a, b, c, d] = l at *
  have HL := Lib.hid (show l.length = 4 by rw [← hl]; rfl)
  clear hl
  go_enter Tryd.func14, Tryd.ntmps14
  go_wp2_with (first
    | (refine wpList_load_cells rfl 28 (.global 0) rfl 0 0 rfl (wcells l) _ Ht.out Tryd.underlying28 rfl (by rw [Tryd.size28, wcells_size, HL.out]) ?_)
    | (refine wpList_build_eq rfl 31 #[(0, .tmp 1)] rfl [(0, .agg (wcells l))] (by simp; rfl) (scells l 0) Hbd.out ?_)
    | (refine wpList_store_row rfl 31 (.tmp 0) (.tmp 2) rfl w.heap.size (scells l 0) rfl rfl 31 (scells (List.replicate 4 0#32) 0) r1 (by rw [Tryd.size31, scells_size, HL.out]) (by rw [scells_size, scells_size, HL.out]; rfl) (scells_one _ _) ?_))
  refine bodyPost_ret (v := .agg (scells l 0)) ?_ rfl ?_
  · exact results_cell_row Tryd.results14 _ _ w.heap.size 31 (scells l 0) (0, 0) _ rfl (r1.setRow _) Tryd.underlying31 rfl (by rw [Tryd.size31, scells_size, HL.out])
  · exact ⟨rfl, below_setRow hb (Nat.le_refl _) _⟩
/-- At a round's head: k bytes of the number of bits are there. -/
def EnAt (w : World) (hs : List Wd) (q : Qd) (l zs : List Int) (i : Value) (wr : World) : Prop :=
  ∃ k : Nat, k ≤ 8 ∧ i = .int .i64 k ∧ Row wr w.heap.size 31 (scells hs (uq q)) ∧ Row wr (w.heap.size + 1) 23 (bcells (List.replicate 16 0)) ∧ Row wr (w.heap.size + 1 + 1) 32 (bcells (over l zs (56 + k))) ∧ Below w.heap.size w wr
theorem brow_over {w : World} {g t k : Nat} {l zs : List Int} {x : Int} (h : Row w g t (bcells (over l zs k))) (hz : zs.length = l.length) (hk : k < l.length) (hx : l.getD k 0 = x) : Row (w.setCell ⟨g, k, none⟩ (.int .u8 x)) g t (bcells (over l zs (k + 1))) := by
  subst hx
  rw [← over_set l zs 0 k hz hk, ← bcells_set]
  exact h.set k _
theorem brow_over_there {w : World} {g t k j : Nat} {l zs : List Int} (h : Row w g t (bcells (over l zs k))) (hz : zs.length = l.length) (hj : j < l.length) : w.cell? ⟨g, j, none⟩ = some (.int .u8 ((over l zs k).getD j 0)) :=
  h.cell (bcells_at _ j (by rw [over_length l zs k hz]; exact hj))
set_option maxRecDepth 100000 in
set_option maxHeartbeats 1000000 in
theorem end_one (h0 ks hs : List Wd) (q : Qd) (A : Option Addr) (n c : Nat) (xs : List Int) (w : World) (hh : hs.length = 4) (ht : Tab w h0 ks) (hks : ks.length = 64) (hn : n = xs.length) (hs0 : Src .u8 w A xs) (hx : IsBytes xs) (hlen : xs.length < 56) :
    Calls Tryd.prog 12 #[.agg (scells hs (uq q)), .slice A n c] w fun e w' => e = .returned (.agg (bcells (laidW (blockW ks hs (oneB xs (bitsQ q n)))))) ∧ Below w.heap.size w w' := by
  have Hh := Lib.hid hh
  have Hks := Lib.hid hks
  have Hs := Lib.hid hs0
  have Ht := Lib.hid ht
  have Hx := Lib.hid hx
  obtain ⟨r1, r2, r3, hb⟩ := rows3 w (scells hs (uq q)) (bcells (List.replicate 16 0)) (bcells (List.replicate 64 0)) 31 23 32
  have c8 := scells_last hs (uq q) 4 hh
  have HQ := Lib.hid (bits_uq q n)
  have Hn := Lib.hid hn
  have Hl := Lib.hid hlen
  have hn56 : (n : Int) < 56 := by omega
  have hl63 := Lib.hid (show xs.length ≤ 63 by omega)
  have hd : decide ((64 : Int) ≤ (n : Int)) = false := by simp; omega
  have hd2 : decide ((56 : Int) ≤ (n : Int)) = false := by simp; omega
  clear hh hks hs0 ht hx hn hlen
  go_enter Tryd.func12, Tryd.ntmps12
  go_wp2_with (refine wpList_copy_splice rfl (.tmp 21) (.tmp 22) 22 22 rfl 5 Tryd.underlying22 Tryd.one5 _ _ 64 64 n _ rfl rfl (w.heap.size + 1 + 1) 0 ((List.replicate 64 (0 : Int)).map (Value.int .u8)) 32 r3 (cellsOf .u8 xs) (by rw [cellsOf_length, ← Hn.out]; exact (Nat.min_eq_left (by have := hl63.out; have := Hn.out; omega)).symm) (fun hp => ⟨rfl, src_copy (Hs.out.keep hb) hp⟩) (by rw [cellsOf_length, List.length_map, List.length_replicate]; have := hl63.out; omega) (cellsOf_one _ _) (w.heap.size + 1 + 1) _ (Below.refl _ _) (Nat.le_refl _) ?_; intro w3 hg3 hb3; rw [splice_zeros] at hg3; rw [show goInt ((cellsOf .u8 xs).length : Nat) = .int .i64 (n : Int) by rw [cellsOf_length, ← Hn.out]; rfl]; have q1 := r1.keepB hb3 (by omega); have q2 := r2.keepB hb3 (by omega); have q3 : Row w3 (w.heap.size + 1 + 1) 32 _ := hg3.out; have qb := hb.trans (hb3.mono (by omega)); clear r1 r2 r3 hb hb3 hg3; have c3 := q3.cell (bcells_at _ n (by rw [List.length_append, zerosI_length]; have := hl63.out; have := Hn.out; omega)); have f3 := q3.free n; have r3 : Row (w3.setCell ⟨w.heap.size + 1 + 1, n, none⟩ (.int .u8 128)) (w.heap.size + 1 + 1) 32 (bcells (twoB xs)) := (by rw [← mark_row Hn.out hl63.out]; exact q3.set n _); have r1 := q1.other (b := w.heap.size + 1 + 1) (by omega) n (.int .u8 128); have r2 := q2.other (b := w.heap.size + 1 + 1) (by omega) n (.int .u8 128); have hb := qb.setCell (p := ⟨w.heap.size + 1 + 1, n, none⟩) (Nat.le_add_right_of_le (Nat.le_add_right _ _)) (.int .u8 128))
  rw [HQ.out]
  clear c3 f3 c8 q1 q2 q3 qb hd hd2
  generalize w3.setCell ⟨w.heap.size + 1 + 1, n, none⟩ (.int .u8 128) = w4 at *
  have HL1 := Lib.hid (oneB_length xs (bitsQ q n) Hl.out)
  have HL2 := Lib.hid (twoB_length xs hl63.out)
  have HO := Lib.hid (over_one xs (bitsQ q n) Hl.out)
  have HG := Lib.hid (fun (i : Nat) (hi : i < 8) => one_getD xs (bitsQ q n) Hl.out i hi)
  have HB := Lib.hid (bytes_one Hx.out (bitsQ q n))
  generalize eZ : twoB xs = zs at *
  clear eZ
  generalize eL : oneB xs (bitsQ q n) = l at *
  have EL := Lib.hid eL
  clear eL
  generalize eQ : bitsQ q n = qb at *
  have EQ := Lib.hid eQ
  clear eQ
  go_loopw [32] (fun i wr => EnAt w hs q l zs i wr) (fun i _ => 8 - (intOf i).toNat)
  case atStart => exact ⟨0, Nat.zero_le _, rfl, r1, r2, by rw [Nat.add_zero, HO.out]; exact r3, hb⟩
  case round =>
    clear r1 r2 r3 hb
    obtain ⟨k, hk, rfl, r1, r2, r3, hb⟩ := hrel
    by_cases hlt : k < 8
    · obtain ⟨j, ej⟩ : ∃ j : Nat, 8 * k = j := ⟨_, rfl⟩
      have HV := Lib.hid ((HG.out k hlt).trans (lenAt_uq qb k j ej))
      have sj : 8 * (k : Int) = (j : Int) := by omega
      obtain ⟨i, ei⟩ : ∃ i : Nat, 56 + k = i := ⟨_, rfl⟩
      have si : 56 + (k : Int) = (i : Int) := by omega
      have HI := Lib.hid (show 56 + (k + 1) = i + 1 by omega)
      rw [ei] at HV r3
      have gi : i < 64 := by omega
      have gj : j ≤ 56 := by omega
      have c3 := brow_over_there (j := i) r3 (by rw [HL1.out, HL2.out]) (by rw [HL1.out]; exact gi)
      have f3 := r3.free i
      clear ej ei
      go_wp2_with fail
      refine ⟨⟨k + 1, by omega, by go_num, r1.other (by omega) _ _, r2.other (by omega) _ _, by rw [HI.out]; exact brow_over r3 (by rw [HL1.out, HL2.out]) (by rw [HL1.out]; exact gi) HV.out, hb.setCell (p := ⟨w.heap.size + 1 + 1, i, none⟩) (Nat.le_add_right_of_le (Nat.le_add_right _ _)) _⟩, ?_⟩
      simp [intOf]; omega
    · obtain rfl : k = 8 := by omega
      rw [show ((8 : Nat) : Int) = (8 : Int) from rfl]
      rw [over_all l zs 64 (by rw [HL1.out, HL2.out]) (by rw [HL1.out]; exact Nat.le_refl _)] at r3
      go_wp2_with (first
        | (refine wpList_load_cells rfl 31 (.tmp 2) rfl w.heap.size 0 rfl (scells hs (uq q)) _ r1.cells Tryd.underlying31 rfl (by rw [Tryd.size31, scells_size, Hh.out]) ?_)
        | (refine wpList_load_cells rfl 32 (.tmp 6) rfl (w.heap.size + 1 + 1) 0 rfl (bcells l) _ r3.cells Tryd.underlying32 rfl (by rw [Tryd.size32, bcells_size, HL1.out]) ?_))
      refine (block_any h0 ks hs q l _ Hh.out HL1.out HB.out (Ht.out.keep hb) Hks.out).mono ?_
      rintro e w7 ⟨rfl, hb7⟩
      have q2 := r2.keep hb7
      have qb7 := hb.trans (hb7.mono hb.size)
      have H8 := Lib.hid (blockW_length ks hs l Hh.out)
      clear r1 r2 r3 hb hb7
      generalize e8 : blockW ks hs l = hs8 at *
      have E8 := Lib.hid e8
      clear e8
      have hf := fun w' => run_field_H (P := Tryd.prog) w' 31 _ _ 4 27 hs8 (uq (q + 64#64)) Tryd.underlying31 rfl Tryd.underlying28 (by rw [H8.out]; exact Tryd.size28)
      go_wp2_with fail
      refine (laid_any hs8 _ H8.out).mono ?_
      rintro e w8 ⟨rfl, hb8⟩
      have p2 := q2.keep hb8
      have pb8 := qb7.trans (hb8.mono qb7.size)
      clear q2 qb7 hb8 hf
      have H9 := Lib.hid (laidW_length hs8)
      generalize eO : laidW hs8 = out at *
      have EO := Lib.hid eO
      clear eO
      go_wp2_with (refine wpList_store_row rfl 23 (.tmp 4) (.tmp 48) rfl (w.heap.size + 1) (bcells out) rfl rfl 23 (bcells (List.replicate 16 0)) p2 (by rw [Tryd.size23, bcells_size, H9.out]) (by rw [bcells_size, bcells_size, H9.out, List.length_replicate]) (bcells_one _) ?_)
      refine bodyPost_ret (v := .agg (bcells out)) ?_ rfl ?_
      · exact results_cell_row Tryd.results12 _ _ (w.heap.size + 1) 23 (bcells out) (0, 0) _ rfl (p2.setRow _) Tryd.underlying23 rfl (by rw [Tryd.size23, bcells_size, H9.out])
      · exact ⟨by rw [← EO.out, ← E8.out, ← EL.out, ← EQ.out], below_setRow pb8 (Nat.le_add_right _ _) _⟩
set_option maxRecDepth 100000 in
set_option maxHeartbeats 1000000 in
theorem end_two (h0 ks hs : List Wd) (q : Qd) (A : Option Addr) (n c : Nat) (xs : List Int) (w : World) (hh : hs.length = 4) (ht : Tab w h0 ks) (hks : ks.length = 64) (hn : n = xs.length) (hs0 : Src .u8 w A xs) (hx : IsBytes xs) (hlen : 56 ≤ xs.length) (hlen2 : xs.length ≤ 63) :
    Calls Tryd.prog 12 #[.agg (scells hs (uq q)), .slice A n c] w fun e w' => e = .returned (.agg (bcells (laidW (blockW ks (blockW ks hs (twoB xs)) (lastB (bitsQ q n)))))) ∧ Below w.heap.size w w' := by
  have Hh := Lib.hid hh
  have Hks := Lib.hid hks
  have Hs := Lib.hid hs0
  have Ht := Lib.hid ht
  have Hx := Lib.hid hx
  obtain ⟨r1, r2, r3, hb⟩ := rows3 w (scells hs (uq q)) (bcells (List.replicate 16 0)) (bcells (List.replicate 64 0)) 31 23 32
  have c8 := scells_last hs (uq q) 4 hh
  have HQ := Lib.hid (bits_uq q n)
  have Hn := Lib.hid hn
  have Hl := Lib.hid hlen
  have hn56 : (n : Int) < 64 := by omega
  have hl63 := Lib.hid hlen2
  have hd : decide ((64 : Int) ≤ (n : Int)) = false := by simp; omega
  have hd2 : decide ((56 : Int) ≤ (n : Int)) = true := by simp; omega
  clear hh hks hs0 ht hx hn hlen hlen2
  go_enter Tryd.func12, Tryd.ntmps12
  go_wp2_with (first
    | (refine wpList_copy_splice rfl (.tmp 21) (.tmp 22) 22 22 rfl 5 Tryd.underlying22 Tryd.one5 _ _ 64 64 n _ rfl rfl (w.heap.size + 1 + 1) 0 ((List.replicate 64 (0 : Int)).map (Value.int .u8)) 32 r3 (cellsOf .u8 xs) (by rw [cellsOf_length, ← Hn.out]; exact (Nat.min_eq_left (by have := hl63.out; have := Hn.out; omega)).symm) (fun hp => ⟨rfl, src_copy (Hs.out.keep hb) hp⟩) (by rw [cellsOf_length, List.length_map, List.length_replicate]; have := hl63.out; omega) (cellsOf_one _ _) (w.heap.size + 1 + 1) _ (Below.refl _ _) (Nat.le_refl _) ?_; intro w3 hg3 hb3; rw [splice_zeros] at hg3; rw [show goInt ((cellsOf .u8 xs).length : Nat) = .int .i64 (n : Int) by rw [cellsOf_length, ← Hn.out]; rfl]; have q1 := r1.keepB hb3 (by omega); have q2 := r2.keepB hb3 (by omega); have q3 : Row w3 (w.heap.size + 1 + 1) 32 _ := hg3.out; have qb := hb.trans (hb3.mono (by omega)); clear r1 r2 r3 hb hb3 hg3; have c3 := q3.cell (bcells_at _ n (by rw [List.length_append, zerosI_length]; have := hl63.out; have := Hn.out; omega)); have f3 := q3.free n; have r3 : Row (w3.setCell ⟨w.heap.size + 1 + 1, n, none⟩ (.int .u8 128)) (w.heap.size + 1 + 1) 32 (bcells (twoB xs)) := (by rw [← mark_row Hn.out hl63.out]; exact q3.set n _); have r1 := q1.other (b := w.heap.size + 1 + 1) (by omega) n (.int .u8 128); have r2 := q2.other (b := w.heap.size + 1 + 1) (by omega) n (.int .u8 128); have hb := qb.setCell (p := ⟨w.heap.size + 1 + 1, n, none⟩) (Nat.le_add_right_of_le (Nat.le_add_right _ _)) (.int .u8 128))
    | (refine wpList_load_cells rfl 31 (.tmp 2) rfl w.heap.size 0 rfl (scells hs (uq q)) _ r1.cells Tryd.underlying31 rfl (by rw [Tryd.size31, scells_size, Hh.out]) ?_)
    | (refine wpList_load_cells rfl 32 (.tmp 6) rfl (w.heap.size + 1 + 1) 0 rfl (bcells (twoB xs)) _ r3.cells Tryd.underlying32 rfl (by rw [Tryd.size32, bcells_size, twoB_length xs hl63.out]) ?_))
  rw [HQ.out]
  clear c3 f3 c8 q1 q2 q3 qb hd
  generalize w3.setCell ⟨w.heap.size + 1 + 1, n, none⟩ (.int .u8 128) = w4 at *
  refine (block_any h0 ks hs q (twoB xs) _ Hh.out (twoB_length xs hl63.out) (bytes_two Hx.out) (Ht.out.keep hb) Hks.out).mono ?_
  rintro e w5 ⟨rfl, hb5⟩
  have p1 := r1.keep hb5
  have p2 := r2.keep hb5
  have p3 := r3.keep hb5
  have pb := hb.trans (hb5.mono hb.size)
  clear r1 r2 r3 hb hb5
  have HH := Lib.hid (blockW_length ks hs (twoB xs) Hh.out)
  have HT2 := Lib.hid (twoB_length xs hl63.out)
  generalize e1 : blockW ks hs (twoB xs) = hs1 at *
  have E1 := Lib.hid e1
  clear e1
  generalize q + 64#64 = q1 at *
  generalize eT : twoB xs = ts at *
  have ET := Lib.hid eT
  clear eT
  go_wp2_with (first
    | (refine wpList_store_row rfl 31 (.tmp 2) (.tmp 30) rfl w.heap.size (scells hs1 (uq q1)) rfl rfl 31 (scells hs (uq q)) p1 (by rw [Tryd.size31, scells_size, HH.out]) (by rw [scells_size, scells_size, HH.out, Hh.out]) (scells_one _ _) ?_; have r1 := p1.setRow (scells hs1 (uq q1)); have r2 := p2.otherRow (b := w.heap.size) (by omega) (scells hs1 (uq q1)); have r3 := p3.otherRow (b := w.heap.size) (by omega) (scells hs1 (uq q1)); have hb := below_setRow pb (Nat.le_refl w.heap.size) (scells hs1 (uq q1)); clear p1 p2 p3 pb; generalize w5.setRow w.heap.size (scells hs1 (uq q1)) = w6 at *)
    | (refine wpList_store_row rfl 32 (.tmp 6) (.tmp 31) rfl (w.heap.size + 1 + 1) (bcells (zerosI 64)) rfl rfl 32 (bcells ts) r3 (by rw [Tryd.size32, bcells_size, zerosI_length]) (by rw [bcells_size, bcells_size, HT2.out, zerosI_length]) (bcells_one _) ?_; have p1 := r1.otherRow (b := w.heap.size + 1 + 1) (by omega) (bcells (zerosI 64)); have p2 := r2.otherRow (b := w.heap.size + 1 + 1) (by omega) (bcells (zerosI 64)); have p3 := r3.setRow (bcells (zerosI 64)); have pb := below_setRow hb (b := w.heap.size + 1 + 1) (Nat.le_add_right_of_le (Nat.le_add_right _ _)) (bcells (zerosI 64)); clear r1 r2 r3 hb; generalize w6.setRow (w.heap.size + 1 + 1) (bcells (zerosI 64)) = w4 at *))
  have HL1 := Lib.hid (lastB_length (bitsQ q n))
  have HL2 := Lib.hid (zerosI_length 64)
  have HO := Lib.hid (over_last (bitsQ q n))
  have HG := Lib.hid (fun (i : Nat) (hi : i < 8) => last_getD (bitsQ q n) i hi)
  have HB := Lib.hid (bytes_last (bitsQ q n))
  have r1 := p1
  have r2 := p2
  have r3 := p3
  have hb := pb
  clear p1 p2 p3 pb
  generalize zerosI 64 = zs at *
  generalize eL : lastB (bitsQ q n) = l at *
  have EL := Lib.hid eL
  clear eL
  generalize eQ : bitsQ q n = qb at *
  have EQ := Lib.hid eQ
  clear eQ
  go_loopw [32] (fun i wr => EnAt w hs1 q1 l zs i wr) (fun i _ => 8 - (intOf i).toNat)
  case atStart => exact ⟨0, Nat.zero_le _, rfl, r1, r2, by rw [Nat.add_zero, HO.out]; exact r3, hb⟩
  case round =>
    clear r1 r2 r3 hb
    obtain ⟨k, hk, rfl, r1, r2, r3, hb⟩ := hrel
    by_cases hlt : k < 8
    · obtain ⟨j, ej⟩ : ∃ j : Nat, 8 * k = j := ⟨_, rfl⟩
      have HV := Lib.hid ((HG.out k hlt).trans (lenAt_uq qb k j ej))
      have sj : 8 * (k : Int) = (j : Int) := by omega
      obtain ⟨i, ei⟩ : ∃ i : Nat, 56 + k = i := ⟨_, rfl⟩
      have si : 56 + (k : Int) = (i : Int) := by omega
      have HI := Lib.hid (show 56 + (k + 1) = i + 1 by omega)
      rw [ei] at HV r3
      have gi : i < 64 := by omega
      have gj : j ≤ 56 := by omega
      have c3 := brow_over_there (j := i) r3 (by rw [HL1.out, HL2.out]) (by rw [HL1.out]; exact gi)
      have f3 := r3.free i
      clear ej ei
      go_wp2_with fail
      refine ⟨⟨k + 1, by omega, by go_num, r1.other (by omega) _ _, r2.other (by omega) _ _, by rw [HI.out]; exact brow_over r3 (by rw [HL1.out, HL2.out]) (by rw [HL1.out]; exact gi) HV.out, hb.setCell (p := ⟨w.heap.size + 1 + 1, i, none⟩) (Nat.le_add_right_of_le (Nat.le_add_right _ _)) _⟩, ?_⟩
      simp [intOf]; omega
    · obtain rfl : k = 8 := by omega
      rw [show ((8 : Nat) : Int) = (8 : Int) from rfl]
      rw [over_all l zs 64 (by rw [HL1.out, HL2.out]) (by rw [HL1.out]; exact Nat.le_refl _)] at r3
      go_wp2_with (first
        | (refine wpList_load_cells rfl 31 (.tmp 2) rfl w.heap.size 0 rfl (scells hs1 (uq q1)) _ r1.cells Tryd.underlying31 rfl (by rw [Tryd.size31, scells_size, HH.out]) ?_)
        | (refine wpList_load_cells rfl 32 (.tmp 6) rfl (w.heap.size + 1 + 1) 0 rfl (bcells l) _ r3.cells Tryd.underlying32 rfl (by rw [Tryd.size32, bcells_size, HL1.out]) ?_))
      refine (block_any h0 ks hs1 q1 l _ HH.out HL1.out HB.out (Ht.out.keep hb) Hks.out).mono ?_
      rintro e w7 ⟨rfl, hb7⟩
      have q2 := r2.keep hb7
      have qb7 := hb.trans (hb7.mono hb.size)
      have H8 := Lib.hid (blockW_length ks hs1 l HH.out)
      clear r1 r2 r3 hb hb7
      generalize e8 : blockW ks hs1 l = hs8 at *
      have E8 := Lib.hid e8
      clear e8
      have hf := fun w' => run_field_H (P := Tryd.prog) w' 31 _ _ 4 27 hs8 (uq (q1 + 64#64)) Tryd.underlying31 rfl Tryd.underlying28 (by rw [H8.out]; exact Tryd.size28)
      go_wp2_with fail
      refine (laid_any hs8 _ H8.out).mono ?_
      rintro e w8 ⟨rfl, hb8⟩
      have p2 := q2.keep hb8
      have pb8 := qb7.trans (hb8.mono qb7.size)
      clear q2 qb7 hb8 hf
      have H9 := Lib.hid (laidW_length hs8)
      generalize eO : laidW hs8 = out at *
      have EO := Lib.hid eO
      clear eO
      go_wp2_with (refine wpList_store_row rfl 23 (.tmp 4) (.tmp 48) rfl (w.heap.size + 1) (bcells out) rfl rfl 23 (bcells (List.replicate 16 0)) p2 (by rw [Tryd.size23, bcells_size, H9.out]) (by rw [bcells_size, bcells_size, H9.out, List.length_replicate]) (bcells_one _) ?_)
      refine bodyPost_ret (v := .agg (bcells out)) ?_ rfl ?_
      · exact results_cell_row Tryd.results12 _ _ (w.heap.size + 1) 23 (bcells out) (0, 0) _ rfl (p2.setRow _) Tryd.underlying23 rfl (by rw [Tryd.size23, bcells_size, H9.out])
      · exact ⟨by rw [← EO.out, ← E8.out, ← E1.out, ← ET.out, ← EL.out, ← EQ.out], below_setRow pb8 (Nat.le_add_right _ _) _⟩
set_option maxRecDepth 100000 in
set_option maxHeartbeats 1000000 in
theorem end_cut (h0 ks hs : List Wd) (q : Qd) (b o m c : Nat) (xs : List Int) (w : World) (hh : hs.length = 4) (ht : Tab w h0 ks) (hks : ks.length = 64) (hs0 : Src .u8 w (some ⟨b, o, none⟩) xs) (hx : IsBytes xs) (hlen : 63 = xs.length) (hm : 63 < m) (hmc : m ≤ c) (hc : c ≤ 9223372036854775807) :
    Calls Tryd.prog 12 #[.agg (scells hs (uq q)), .slice (some ⟨b, o, none⟩) m c] w fun e w' => e = .returned (.agg (bcells (laidW (blockW ks (blockW ks hs (twoB xs)) (lastB (bitsQ q 63)))))) ∧ Below w.heap.size w w' := by
  have Hh := Lib.hid hh
  have Hks := Lib.hid hks
  have Hs := Lib.hid hs0
  have Ht := Lib.hid ht
  have Hx := Lib.hid hx
  obtain ⟨r1, r2, r3, hb⟩ := rows3 w (scells hs (uq q)) (bcells (List.replicate 16 0)) (bcells (List.replicate 64 0)) 31 23 32
  have c8 := scells_last hs (uq q) 4 hh
  have HQ := Lib.hid (show IntKind.u64.wrap (8 * IntKind.u64.wrap (uq q + 63)) = uq (bitsQ q 63) from bits_uq q 63)
  have Hn := Lib.hid hlen
  have Hl := Lib.hid (show 56 ≤ xs.length by omega)
  have hl63 := Lib.hid (show xs.length ≤ 63 by omega)
  have hd : decide ((64 : Int) ≤ (m : Int)) = true := by simp; omega
  have hc3 : (63 : Int) ≤ (c : Int) := by omega
  clear hh hks hs0 ht hx hlen hm hmc
  go_enter Tryd.func12, Tryd.ntmps12
  go_wp2_with (first
    | (refine wpList_copy_splice rfl (.tmp 21) (.tmp 22) 22 22 rfl 5 Tryd.underlying22 Tryd.one5 _ _ 64 64 63 _ rfl rfl (w.heap.size + 1 + 1) 0 ((List.replicate 64 (0 : Int)).map (Value.int .u8)) 32 r3 (cellsOf .u8 xs) (by rw [cellsOf_length, ← Hn.out]; exact (Nat.min_eq_left (by have := hl63.out; have := Hn.out; omega)).symm) (fun hp => ⟨rfl, src_copy (Hs.out.keep hb) hp⟩) (by rw [cellsOf_length, List.length_map, List.length_replicate]; have := hl63.out; omega) (cellsOf_one _ _) (w.heap.size + 1 + 1) _ (Below.refl _ _) (Nat.le_refl _) ?_; intro w3 hg3 hb3; rw [splice_zeros] at hg3; rw [show goInt ((cellsOf .u8 xs).length : Nat) = .int .i64 63 by rw [cellsOf_length, ← Hn.out]; rfl]; have q1 := r1.keepB hb3 (by omega); have q2 := r2.keepB hb3 (by omega); have q3 : Row w3 (w.heap.size + 1 + 1) 32 _ := hg3.out; have qb := hb.trans (hb3.mono (by omega)); clear r1 r2 r3 hb hb3 hg3; have c3 := q3.cell (bcells_at _ 63 (by rw [List.length_append, zerosI_length]; have := hl63.out; have := Hn.out; omega)); have f3 := q3.free 63; have r3 : Row (w3.setCell ⟨w.heap.size + 1 + 1, 63, none⟩ (.int .u8 128)) (w.heap.size + 1 + 1) 32 (bcells (twoB xs)) := (by rw [← mark_row Hn.out hl63.out]; exact q3.set 63 _); have r1 := q1.other (b := w.heap.size + 1 + 1) (by omega) 63 (.int .u8 128); have r2 := q2.other (b := w.heap.size + 1 + 1) (by omega) 63 (.int .u8 128); have hb := qb.setCell (p := ⟨w.heap.size + 1 + 1, 63, none⟩) (Nat.le_add_right_of_le (Nat.le_add_right _ _)) (.int .u8 128))
    | (refine wpList_load_cells rfl 31 (.tmp 2) rfl w.heap.size 0 rfl (scells hs (uq q)) _ r1.cells Tryd.underlying31 rfl (by rw [Tryd.size31, scells_size, Hh.out]) ?_)
    | (refine wpList_load_cells rfl 32 (.tmp 6) rfl (w.heap.size + 1 + 1) 0 rfl (bcells (twoB xs)) _ r3.cells Tryd.underlying32 rfl (by rw [Tryd.size32, bcells_size, twoB_length xs hl63.out]) ?_))
  rw [HQ.out]
  clear c3 f3 c8 q1 q2 q3 qb hd
  generalize w3.setCell ⟨w.heap.size + 1 + 1, 63, none⟩ (.int .u8 128) = w4 at *
  refine (block_any h0 ks hs q (twoB xs) _ Hh.out (twoB_length xs hl63.out) (bytes_two Hx.out) (Ht.out.keep hb) Hks.out).mono ?_
  rintro e w5 ⟨rfl, hb5⟩
  have p1 := r1.keep hb5
  have p2 := r2.keep hb5
  have p3 := r3.keep hb5
  have pb := hb.trans (hb5.mono hb.size)
  clear r1 r2 r3 hb hb5
  have HH := Lib.hid (blockW_length ks hs (twoB xs) Hh.out)
  have HT2 := Lib.hid (twoB_length xs hl63.out)
  generalize e1 : blockW ks hs (twoB xs) = hs1 at *
  have E1 := Lib.hid e1
  clear e1
  generalize q + 64#64 = q1 at *
  generalize eT : twoB xs = ts at *
  have ET := Lib.hid eT
  clear eT
  go_wp2_with (first
    | (refine wpList_store_row rfl 31 (.tmp 2) (.tmp 30) rfl w.heap.size (scells hs1 (uq q1)) rfl rfl 31 (scells hs (uq q)) p1 (by rw [Tryd.size31, scells_size, HH.out]) (by rw [scells_size, scells_size, HH.out, Hh.out]) (scells_one _ _) ?_; have r1 := p1.setRow (scells hs1 (uq q1)); have r2 := p2.otherRow (b := w.heap.size) (by omega) (scells hs1 (uq q1)); have r3 := p3.otherRow (b := w.heap.size) (by omega) (scells hs1 (uq q1)); have hb := below_setRow pb (Nat.le_refl w.heap.size) (scells hs1 (uq q1)); clear p1 p2 p3 pb; generalize w5.setRow w.heap.size (scells hs1 (uq q1)) = w6 at *)
    | (refine wpList_store_row rfl 32 (.tmp 6) (.tmp 31) rfl (w.heap.size + 1 + 1) (bcells (zerosI 64)) rfl rfl 32 (bcells ts) r3 (by rw [Tryd.size32, bcells_size, zerosI_length]) (by rw [bcells_size, bcells_size, HT2.out, zerosI_length]) (bcells_one _) ?_; have p1 := r1.otherRow (b := w.heap.size + 1 + 1) (by omega) (bcells (zerosI 64)); have p2 := r2.otherRow (b := w.heap.size + 1 + 1) (by omega) (bcells (zerosI 64)); have p3 := r3.setRow (bcells (zerosI 64)); have pb := below_setRow hb (b := w.heap.size + 1 + 1) (Nat.le_add_right_of_le (Nat.le_add_right _ _)) (bcells (zerosI 64)); clear r1 r2 r3 hb; generalize w6.setRow (w.heap.size + 1 + 1) (bcells (zerosI 64)) = w4 at *))
  have HL1 := Lib.hid (lastB_length (bitsQ q 63))
  have HL2 := Lib.hid (zerosI_length 64)
  have HO := Lib.hid (over_last (bitsQ q 63))
  have HG := Lib.hid (fun (i : Nat) (hi : i < 8) => last_getD (bitsQ q 63) i hi)
  have HB := Lib.hid (bytes_last (bitsQ q 63))
  have r1 := p1
  have r2 := p2
  have r3 := p3
  have hb := pb
  clear p1 p2 p3 pb
  generalize zerosI 64 = zs at *
  generalize eL : lastB (bitsQ q 63) = l at *
  have EL := Lib.hid eL
  clear eL
  generalize eQ : bitsQ q 63 = qb at *
  have EQ := Lib.hid eQ
  clear eQ
  go_loopw [32] (fun i wr => EnAt w hs1 q1 l zs i wr) (fun i _ => 8 - (intOf i).toNat)
  case atStart => exact ⟨0, Nat.zero_le _, rfl, r1, r2, by rw [Nat.add_zero, HO.out]; exact r3, hb⟩
  case round =>
    clear r1 r2 r3 hb
    obtain ⟨k, hk, rfl, r1, r2, r3, hb⟩ := hrel
    by_cases hlt : k < 8
    · obtain ⟨j, ej⟩ : ∃ j : Nat, 8 * k = j := ⟨_, rfl⟩
      have HV := Lib.hid ((HG.out k hlt).trans (lenAt_uq qb k j ej))
      have sj : 8 * (k : Int) = (j : Int) := by omega
      obtain ⟨i, ei⟩ : ∃ i : Nat, 56 + k = i := ⟨_, rfl⟩
      have si : 56 + (k : Int) = (i : Int) := by omega
      have HI := Lib.hid (show 56 + (k + 1) = i + 1 by omega)
      rw [ei] at HV r3
      have gi : i < 64 := by omega
      have gj : j ≤ 56 := by omega
      have c3 := brow_over_there (j := i) r3 (by rw [HL1.out, HL2.out]) (by rw [HL1.out]; exact gi)
      have f3 := r3.free i
      clear ej ei
      go_wp2_with fail
      refine ⟨⟨k + 1, by omega, by go_num, r1.other (by omega) _ _, r2.other (by omega) _ _, by rw [HI.out]; exact brow_over r3 (by rw [HL1.out, HL2.out]) (by rw [HL1.out]; exact gi) HV.out, hb.setCell (p := ⟨w.heap.size + 1 + 1, i, none⟩) (Nat.le_add_right_of_le (Nat.le_add_right _ _)) _⟩, ?_⟩
      simp [intOf]; omega
    · obtain rfl : k = 8 := by omega
      rw [show ((8 : Nat) : Int) = (8 : Int) from rfl]
      rw [over_all l zs 64 (by rw [HL1.out, HL2.out]) (by rw [HL1.out]; exact Nat.le_refl _)] at r3
      go_wp2_with (first
        | (refine wpList_load_cells rfl 31 (.tmp 2) rfl w.heap.size 0 rfl (scells hs1 (uq q1)) _ r1.cells Tryd.underlying31 rfl (by rw [Tryd.size31, scells_size, HH.out]) ?_)
        | (refine wpList_load_cells rfl 32 (.tmp 6) rfl (w.heap.size + 1 + 1) 0 rfl (bcells l) _ r3.cells Tryd.underlying32 rfl (by rw [Tryd.size32, bcells_size, HL1.out]) ?_))
      refine (block_any h0 ks hs1 q1 l _ HH.out HL1.out HB.out (Ht.out.keep hb) Hks.out).mono ?_
      rintro e w7 ⟨rfl, hb7⟩
      have q2 := r2.keep hb7
      have qb7 := hb.trans (hb7.mono hb.size)
      have H8 := Lib.hid (blockW_length ks hs1 l HH.out)
      clear r1 r2 r3 hb hb7
      generalize e8 : blockW ks hs1 l = hs8 at *
      have E8 := Lib.hid e8
      clear e8
      have hf := fun w' => run_field_H (P := Tryd.prog) w' 31 _ _ 4 27 hs8 (uq (q1 + 64#64)) Tryd.underlying31 rfl Tryd.underlying28 (by rw [H8.out]; exact Tryd.size28)
      go_wp2_with fail
      refine (laid_any hs8 _ H8.out).mono ?_
      rintro e w8 ⟨rfl, hb8⟩
      have p2 := q2.keep hb8
      have pb8 := qb7.trans (hb8.mono qb7.size)
      clear q2 qb7 hb8 hf
      have H9 := Lib.hid (laidW_length hs8)
      generalize eO : laidW hs8 = out at *
      have EO := Lib.hid eO
      clear eO
      go_wp2_with (refine wpList_store_row rfl 23 (.tmp 4) (.tmp 48) rfl (w.heap.size + 1) (bcells out) rfl rfl 23 (bcells (List.replicate 16 0)) p2 (by rw [Tryd.size23, bcells_size, H9.out]) (by rw [bcells_size, bcells_size, H9.out, List.length_replicate]) (bcells_one _) ?_)
      refine bodyPost_ret (v := .agg (bcells out)) ?_ rfl ?_
      · exact results_cell_row Tryd.results12 _ _ (w.heap.size + 1) 23 (bcells out) (0, 0) _ rfl (p2.setRow _) Tryd.underlying23 rfl (by rw [Tryd.size23, bcells_size, H9.out])
      · exact ⟨by rw [← EO.out, ← E8.out, ← E1.out, ← ET.out, ← EL.out, ← EQ.out], below_setRow pb8 (Nat.le_add_right _ _) _⟩
theorem end_any (h0 ks hs : List Wd) (q : Qd) (A : Option Addr) (n c : Nat) (xs : List Int) (w : World) (hh : hs.length = 4) (ht : Tab w h0 ks) (hks : ks.length = 64) (hn : n = xs.length) (hs0 : Src .u8 w A xs) (hx : IsBytes xs) (hl : xs.length ≤ 63) :
    Calls Tryd.prog 12 #[.agg (scells hs (uq q)), .slice A n c] w fun e w' => e = .returned (.agg (bcells (endW ks hs q xs))) ∧ Below w.heap.size w w' := by
  unfold endW
  rcases Nat.lt_or_ge xs.length 56 with h | h
  · rw [if_pos h, ← hn]
    exact end_one h0 ks hs q A n c xs w hh ht hks hn hs0 hx h
  · rw [if_neg (by omega), ← hn]
    exact end_two h0 ks hs q A n c xs w hh ht hks hn hs0 hx h hl
theorem end_long (h0 ks hs : List Wd) (q : Qd) (b o m c : Nat) (xs : List Int) (w : World) (hh : hs.length = 4) (ht : Tab w h0 ks) (hks : ks.length = 64) (hs0 : Src .u8 w (some ⟨b, o, none⟩) xs) (hx : IsBytes xs) (hl : 63 = xs.length) (hm : 63 < m) (hmc : m ≤ c) (hc : c ≤ 9223372036854775807) :
    Calls Tryd.prog 12 #[.agg (scells hs (uq q)), .slice (some ⟨b, o, none⟩) m c] w fun e w' => e = .returned (.agg (bcells (endW ks hs q xs))) ∧ Below w.heap.size w w' := by
  unfold endW
  rw [if_neg (by omega), ← hl]
  exact end_cut h0 ks hs q b o m c xs w hh ht hks hs0 hx hl hm hmc hc
theorem start_any (h0 ks : List Wd) (w : World) (hh : h0.length = 4) (ht : Tab w h0 ks) : Calls Tryd.prog 14 #[] w fun r w' => r = .returned (.agg (scells h0 0)) ∧ Below w.heap.size w w' := by
  match h0, hh, ht with
  | [a, b, c, d], _, ht => exact begin_any ks a b c d w ht

/-- The address behind a cut of the first j elements. -/
def fromA (A : Option Addr) (c j : Nat) : Option Addr := if c = j then A else A.map (·.add j)
theorem run_slice_from {P : Program} (w : World) (t e : TypeId) (A : Option Addr) (n c j : Nat) (hu : P.underlying t = some (.slice e)) (hz : (P.info? e).map (·.size) = some 1) (hj : j ≤ n) :
    (Instr.sliceAt t (.slice A n c) (some (.int .i64 (j : Int))) none none).run P w = .ok (.slice (fromA A c j) (n - j) (c - j)) w := by
  cases hq : P.info? e with
  | none => simp [hq] at hz
  | some i =>
    have hs : i.size = 1 := by simpa [hq] using hz
    have hk' : (0 : Int) ≤ (j : Int) ∧ (j : Int) ≤ (n : Int) := by omega
    have ha : ∀ w', (asIntOf (.int .i64 (j : Int))).run P w' = .ok (.i64, (j : Int)) w' := fun w' => by simp [asIntOf]
    have hb : ∀ w', (Instr.sliceBound (.int .i64 (j : Int)) n .sliceB).run P w' = .ok j w' := fun w' => by
      unfold Instr.sliceBound
      simp only [Sem.run_bind, ha, Result.andThen_ok]
      rw [if_pos hk']
      simp
    unfold Instr.sliceAt
    simp only [Sem.run_bind, run_underlying hu w, Result.andThen_ok]
    unfold Instr.slice Instr.sliceBounds
    simp [Sem.run_bind, run_underlying hu w, hb, sizeOf, typeInfo, hq, hs, fromA]
theorem wpList_slice_from {P : Program} {ops : Array Oper} {rest : List Oper} {o : Oper} {a : Act} {w : World} {Q : Exit → Act → World → Prop} (hgd : o.guard = none) (t e : TypeId) (x : Operand) (m : Int) (j : Nat) (hm : m = (j : Int)) (ho : o.op = .slice t x (some (.const (.int .i64 m))) none none)
    (hu : P.underlying t = some (.slice e)) (hz : (P.info? e).map (·.size) = some 1) (A : Option Addr) (n c : Nat) (hx : a.eval x = .slice A n c) (hj : j ≤ n)
    (h : wpList P ops Q rest (a.put o.dst (.slice (fromA A c j) (n - j) (c - j))) w) : wpList P ops Q (o :: rest) a w := by
  subst hm
  refine wpList_plain hgd fun K hK => ?_
  have hk : a.eval (.const (.int .i64 (j : Int))) = .int .i64 (j : Int) := rfl
  unfold Oper.wp execOp
  simp only [ho, hx, hk, Option.map_some, Option.map_none, Sem.run_bind, run_slice_from w t e A n c j hu hz hj, Result.andThen_ok, Sem.run_pure]
  exact hK _ _ h
theorem splice_full (ys : List Int) (h : ys.length = 64) : (splice ((List.replicate 64 (0 : Int)).map (Value.int .u8)) 0 (cellsOf .u8 ys)).toArray = bcells ys := by
  rw [splice_zeros, h]
  show bcells (ys ++ []) = bcells ys
  rw [List.append_nil]
theorem bytes_next (k : Nat) : (BitVec.ofNat 64 (64 * k) + 64#64 : Qd) = BitVec.ofNat 64 (64 * (k + 1)) := by
  rw [show 64 * (k + 1) = 64 * k + 64 by omega, BitVec.ofNat_add]

theorem put_none (a : Act) (v : Value) : a.put none v = a := rfl
/-- A slice's length. -/
def lenOfV : Value → Nat
  | .slice _ n _ => n
  | _ => 0
/-- At a round's head: k blocks are in the state. -/
def SuAt (w : World) (S : Nat) (h0 ks : List Wd) (xs : List Int) (v : Value) (wr : World) : Prop :=
  ∃ (k : Nat) (A : Option Addr) (n c : Nat), 64 * k ≤ xs.length ∧ v = .slice A n c ∧ n = xs.length - 64 * k ∧ n ≤ c ∧ c ≤ 9223372036854775807 ∧ Src .u8 w A (xs.drop (64 * k)) ∧ Row wr w.heap.size 23 (bcells (List.replicate 16 0)) ∧
    Row wr S 31 (scells (blocksW ks h0 xs k) (uq (BitVec.ofNat 64 (64 * k)))) ∧ Below w.heap.size w wr

set_option maxRecDepth 100000 in
set_option maxHeartbeats 1000000 in
theorem sum_any (h0 ks : List Wd) (A : Option Addr) (n c : Nat) (xs : List Int) (w : World) (hh : h0.length = 4) (ht : Tab w h0 ks) (hks : ks.length = 64) (hn : n = xs.length) (hs0 : Src .u8 w A xs) (hx : IsBytes xs) (hnc : n ≤ c) (hc : c ≤ 9223372036854775807) :
    Calls Tryd.prog 6 #[.slice A n c] w fun e w' => e = .returned (.agg (bcells (sumW ks h0 xs))) ∧ Below w.heap.size w w' := by
  have Hh := Lib.hid hh
  have Hks := Lib.hid hks
  have Hn := Lib.hid hn
  have Hs := Lib.hid hs0
  have Ht := Lib.hid ht
  have Hx := Lib.hid hx
  have r0 := Row.new w 23 (bcells (List.replicate 16 0))
  have hb0 : Below w.heap.size w (w.alloc (.cells (bcells (List.replicate 16 0)) 23)) := (Below.refl _ _).alloc (Nat.le_refl _) _
  clear hh hks hn hs0 ht hx
  go_enter Tryd.func6, Tryd.ntmps6
  go_wp2_with fail
  refine (start_any h0 ks _ Hh.out (Ht.out.keep hb0)).mono ?_
  rintro e w1 ⟨rfl, hb1⟩
  have r1 := r0.keep hb1
  have hb2 := hb0.trans (hb1.mono hb0.size)
  clear r0 hb0 hb1
  have r2 := r1.old (.cells (scells (List.replicate 4 0#32) 0) 31)
  have r3 := Row.new w1 31 (scells (List.replicate 4 0#32) 0)
  have hb3 := hb2.alloc hb2.size (.cells (scells (List.replicate 4 0#32) 0) 31)
  have hlt := r1.lt
  go_wp2_with (refine wpList_store_row rfl 31 (.tmp 3) (.tmp 5) rfl w1.heap.size (scells h0 0) rfl rfl 31 (scells (List.replicate 4 0#32) 0) r3 (by rw [Tryd.size31, scells_size, Hh.out]) (by rw [scells_size, scells_size, Hh.out]; rfl) (scells_one _ _) ?_; have p3 := r3.setRow (scells h0 0); have p2 := r2.otherRow (b := w1.heap.size) (by omega) (scells h0 0); have pb := below_setRow hb3 (b := w1.heap.size) (by omega) (scells h0 0); clear r1 r2 r3 hb2 hb3)
  rw [put_none, show #[Value.int IntKind.u32 0, Value.int IntKind.u32 0, Value.int IntKind.u32 0, Value.int IntKind.u32 0, Value.int IntKind.u64 0] = scells (List.replicate 4 0#32) 0 from rfl]
  generalize (w1.alloc (.cells (scells (List.replicate 4 0#32) 0) 31)).setRow w1.heap.size (scells h0 0) = w2 at *
  have HS : w.heap.size < w1.heap.size := hlt
  clear hlt
  generalize w1.heap.size = S at *
  go_loopw [0] (fun v wr => SuAt w S h0 ks xs v wr) (fun v _ => lenOfV v)
  case atStart => exact ⟨0, A, n, c, by omega, rfl, by rw [Nat.mul_zero, Nat.sub_zero]; exact Hn.out, hnc, hc, Hs.out, p2, p3, pb⟩
  case round =>
    clear p2 p3 pb
    obtain ⟨k, A1, n1, c1, hk, rfl, hn1, hnc1, hc1, hs1, r1, r2, hb⟩ := hrel
    have HN := Lib.hid hn1
    have HK := Lib.hid hk
    by_cases hlt : 64 ≤ n1
    · have hd : decide ((64 : Int) ≤ (n1 : Int)) = true := by simp; omega
      have HLy := Lib.hid (show ((xs.drop (64 * k)).take 64).length = 64 by rw [List.length_take, List.length_drop]; omega)
      have Hsy := Lib.hid (hs1.take 64)
      have Hsd := Lib.hid (hs1.drop 64 c1 (by rw [List.length_drop]; omega) (by rw [List.length_drop]; omega))
      have Hby := Lib.hid ((Hx.out.drop (64 * k)).take 64)
      have HB := Lib.hid (show blocksW ks h0 xs (k + 1) = blockW ks (blocksW ks h0 xs k) ((xs.drop (64 * k)).take 64) from rfl)
      have H8 := Lib.hid (blocksW_length ks h0 xs Hh.out k)
      have HD := Lib.hid (show (xs.drop (64 * k)).drop 64 = xs.drop (64 * (k + 1)) by rw [List.drop_drop, show 64 * k + 64 = 64 * (k + 1) by omega])
      clear hn1 hk hs1
      rw [HD.out] at Hsd
      generalize (xs.drop (64 * k)).take 64 = ys at *
      generalize blocksW ks h0 xs k = hs at *
      have r1a := r1.old (.cells (bcells (List.replicate 64 0)) 32)
      have r2a := r2.old (.cells (bcells (List.replicate 64 0)) 32)
      have r3a := Row.new wr 32 (bcells (List.replicate 64 0))
      have hba := hb.alloc hb.size (.cells (bcells (List.replicate 64 0)) 32)
      have hsz := hb.size
      have hS := r2.lt
      go_wp2_with (first
        | (refine wpList_copy_splice rfl (.tmp 9) (.tmp 10) 22 22 rfl 5 Tryd.underlying22 Tryd.one5 _ _ 64 64 n1 _ rfl rfl wr.heap.size 0 ((List.replicate 64 (0 : Int)).map (Value.int .u8)) 32 r3a (cellsOf .u8 ys) (by rw [cellsOf_length, HLy.out]; exact (Nat.min_eq_right hlt).symm) (fun hp => ⟨rfl, src_copy (Hsy.out.keep hba) hp⟩) (by rw [cellsOf_length, List.length_map, List.length_replicate, HLy.out]; exact Nat.le_refl _) (cellsOf_one _ _) wr.heap.size _ (Below.refl _ _) (Nat.le_refl _) ?_; intro w3 hg3 hb3; rw [splice_full ys HLy.out] at hg3; rw [show goInt ((cellsOf .u8 ys).length : Nat) = .int .i64 64 by rw [cellsOf_length, HLy.out]; rfl]; have q1 := r1a.keepB hb3 (by omega); have q2 := r2a.keepB hb3 hS; have q3 : Row w3 wr.heap.size 32 _ := hg3.out; have qb := hba.trans (hb3.mono hsz); clear r1 r2 hb r1a r2a r3a hba hb3 hg3)
        | (refine wpList_load_cells rfl 31 (.tmp 3) rfl S 0 rfl (scells hs (uq (BitVec.ofNat 64 (64 * k)))) _ q2.cells Tryd.underlying31 rfl (by rw [Tryd.size31, scells_size, H8.out]) ?_)
        | (refine wpList_load_cells rfl 32 (.tmp 4) rfl wr.heap.size 0 rfl (bcells ys) _ q3.cells Tryd.underlying32 rfl (by rw [Tryd.size32, bcells_size, HLy.out]) ?_))
      refine (block_any h0 ks hs _ ys _ H8.out HLy.out Hby.out (Ht.out.keep qb) Hks.out).mono ?_
      rintro e w5 ⟨rfl, hb5⟩
      rw [bytes_next]
      have p1 := q1.keep hb5
      have p2 := q2.keep hb5
      have pb := qb.trans (hb5.mono qb.size)
      clear q1 q2 q3 qb hb5
      have HB8 := Lib.hid (blocksW_length ks h0 xs Hh.out (k + 1))
      rw [← HB.out]
      generalize eH : blocksW ks h0 xs (k + 1) = hs1 at *
      have EH := Lib.hid eH
      clear eH
      go_wp2_with (first
        | (refine wpList_store_row rfl 31 (.tmp 3) (.tmp 14) rfl S (scells hs1 (uq (BitVec.ofNat 64 (64 * (k + 1))))) rfl rfl 31 (scells hs (uq (BitVec.ofNat 64 (64 * k)))) p2 (by rw [Tryd.size31, scells_size, HB8.out]) (by rw [scells_size, scells_size, HB8.out, H8.out]) (scells_one _ _) ?_)
        | (refine wpList_slice_from rfl 22 5 (.tmp 15) 64 64 rfl rfl Tryd.underlying22 Tryd.one5 A1 n1 c1 rfl hlt ?_))
      refine ⟨⟨k + 1, fromA A1 c1 64, n1 - 64, c1 - 64, by have := HN.out; omega, rfl, by have := HN.out; omega, by omega, by omega, Hsd.out, p1.otherRow (by omega) _, by rw [EH.out]; exact p2.setRow _, below_setRow pb (by omega) _⟩, ?_⟩
      simp only [lenOfV]
      omega
    · have hd : decide ((64 : Int) ≤ (n1 : Int)) = false := by simp; omega
      have H8 := Lib.hid (blocksW_length ks h0 xs Hh.out k)
      have HE := Lib.hid (show endW ks (blocksW ks h0 xs k) (BitVec.ofNat 64 (64 * k)) (xs.drop (64 * k)) = sumW ks h0 xs by
        unfold sumW
        rw [show xs.length / 64 = k by omega])
      have HL := Lib.hid (show n1 = (xs.drop (64 * k)).length by rw [List.length_drop]; exact hn1)
      have H63 := Lib.hid (show (xs.drop (64 * k)).length ≤ 63 by rw [List.length_drop]; omega)
      have H9 := Lib.hid (sumW_length ks h0 xs)
      have HS1 := Lib.hid hs1
      clear hn1 hk hs1
      go_wp2_with (refine wpList_load_cells rfl 31 (.tmp 3) rfl S 0 rfl (scells (blocksW ks h0 xs k) (uq (BitVec.ofNat 64 (64 * k)))) _ r2.cells Tryd.underlying31 rfl (by rw [Tryd.size31, scells_size, H8.out]) ?_)
      refine (end_any h0 ks _ _ A1 n1 c1 (xs.drop (64 * k)) _ H8.out (Ht.out.keep hb) Hks.out HL.out (HS1.out.keep hb) (Hx.out.drop _) H63.out).mono ?_
      rintro e w5 ⟨rfl, hb5⟩
      rw [HE.out]
      have p1 := r1.keep hb5
      have pb := hb.trans (hb5.mono hb.size)
      clear r1 r2 hb hb5
      generalize eO : sumW ks h0 xs = out at *
      have EO := Lib.hid eO
      clear eO
      go_wp2_with (refine wpList_store_row rfl 23 (.tmp 2) (.tmp 19) rfl w.heap.size (bcells out) rfl rfl 23 (bcells (List.replicate 16 0)) p1 (by rw [Tryd.size23, bcells_size, H9.out]) (by rw [bcells_size, bcells_size, H9.out, List.length_replicate]) (bcells_one _) ?_)
      refine bodyPost_ret (v := .agg (bcells out)) ?_ rfl ?_
      · exact results_cell_row Tryd.results6 _ _ w.heap.size 23 (bcells out) (0, 0) _ rfl (p1.setRow _) Tryd.underlying23 rfl (by rw [Tryd.size23, bcells_size, H9.out])
      · exact ⟨by rw [← EO.out], below_setRow pb (Nat.le_refl _) _⟩
end Go.Proofs.YtfjkejdnbegomaaDoor.Md5

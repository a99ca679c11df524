/- End ends the sum with the rest: the document's bytes, for any state and any rest. -/
import Derived.Test.YtbhcikahemhfmaaDoorShaBlock
import Derived.Test.YtbhcikahemhfmaaDoorShaLaidB
import Derived.Test.YtbhcikahemhfmaaDoorShaArr
namespace Go.Proofs.YtbhcikahemhfmaaDoor.Sha3
open Go.RowKit

/-- At a round's head: k bytes of the number of bits are there. -/
def EnAt (w : World) (hs : List Wd) (q : Qd) (l zs : List Int) (i : Value) (wr : World) : Prop :=
  ∃ k : Nat, k ≤ 8 ∧ i = .int .i64 k ∧ Row wr w.heap.size 41 (scells hs (uq q)) ∧ Row wr (w.heap.size + 1) 23 (bcells (List.replicate 32 0)) ∧ Row wr (w.heap.size + 1 + 1) 43 (bcells (over l zs (56 + k))) ∧ Below w.heap.size w wr
theorem brow_over {w : World} {g t k : Nat} {l zs : List Int} {x : Int} (h : Row w g t (bcells (over l zs k))) (hz : zs.length = l.length) (hk : k < l.length) (hx : l.getD k 0 = x) : Row (w.setCell ⟨g, k, none⟩ (.int .u8 x)) g t (bcells (over l zs (k + 1))) := by
  subst hx
  rw [← over_set l zs 0 k hz hk, ← bcells_set]
  exact h.set k _
theorem brow_over_there {w : World} {g t k j : Nat} {l zs : List Int} (h : Row w g t (bcells (over l zs k))) (hz : zs.length = l.length) (hj : j < l.length) : w.cell? ⟨g, j, none⟩ = some (.int .u8 ((over l zs k).getD j 0)) :=
  h.cell (bcells_at _ j (by rw [over_length l zs k hz]; exact hj))
set_option maxRecDepth 100000 in
set_option maxHeartbeats 1000000 in
theorem end_one (h0 ks hs : List Wd) (q : Qd) (A : Option Addr) (n c : Nat) (xs : List Int) (w : World) (hh : hs.length = 8) (ht : Tab w h0 ks) (hks : ks.length = 64) (hn : n = xs.length) (hs0 : Src .u8 w A xs) (hx : IsBytes xs) (hlen : xs.length < 56) :
    Calls Tryd.prog 23 #[.agg (scells hs (uq q)), .slice A n c] w fun e w' => e = .returned (.agg (bcells (laidW (blockW ks hs (oneB xs (bitsQ q n)))))) ∧ Below w.heap.size w w' := by
  have Hh := Lib.hid hh
  have Hks := Lib.hid hks
  have Hs := Lib.hid hs0
  have Ht := Lib.hid ht
  have Hx := Lib.hid hx
  obtain ⟨r1, r2, r3, hb⟩ := rows3 w (scells hs (uq q)) (bcells (List.replicate 32 0)) (bcells (List.replicate 64 0)) 41 23 43
  have c8 := scells_last hs (uq q) 8 hh
  have HQ := Lib.hid (bits_uq q n)
  have Hn := Lib.hid hn
  have Hl := Lib.hid hlen
  have hn56 : (n : Int) < 56 := by omega
  have hl63 := Lib.hid (show xs.length ≤ 63 by omega)
  have hd : decide ((64 : Int) ≤ (n : Int)) = false := by simp; omega
  have hd2 : decide ((56 : Int) ≤ (n : Int)) = false := by simp; omega
  clear hh hks hs0 ht hx hn hlen
  go_enter Tryd.func23, Tryd.ntmps23
  go_wp2_with (refine wpList_copy_splice rfl (.tmp 21) (.tmp 22) 22 22 rfl 5 Tryd.underlying22 Tryd.one5 _ _ 64 64 n _ rfl rfl (w.heap.size + 1 + 1) 0 ((List.replicate 64 (0 : Int)).map (Value.int .u8)) 43 r3 (cellsOf .u8 xs) (by rw [cellsOf_length, ← Hn.out]; exact (Nat.min_eq_left (by have := hl63.out; have := Hn.out; omega)).symm) (fun hp => ⟨rfl, src_copy (Hs.out.keep hb) hp⟩) (by rw [cellsOf_length, List.length_map, List.length_replicate]; have := hl63.out; omega) (cellsOf_one _ _) (w.heap.size + 1 + 1) _ (Below.refl _ _) (Nat.le_refl _) ?_; intro w3 hg3 hb3; rw [splice_zeros] at hg3; rw [show goInt ((cellsOf .u8 xs).length : Nat) = .int .i64 (n : Int) by rw [cellsOf_length, ← Hn.out]; rfl]; have q1 := r1.keepB hb3 (by omega); have q2 := r2.keepB hb3 (by omega); have q3 : Row w3 (w.heap.size + 1 + 1) 43 _ := hg3.out; have qb := hb.trans (hb3.mono (by omega)); clear r1 r2 r3 hb hb3 hg3; have c3 := q3.cell (bcells_at _ n (by rw [List.length_append, zerosI_length]; have := hl63.out; have := Hn.out; omega)); have f3 := q3.free n; have r3 : Row (w3.setCell ⟨w.heap.size + 1 + 1, n, none⟩ (.int .u8 128)) (w.heap.size + 1 + 1) 43 (bcells (twoB xs)) := (by rw [← mark_row Hn.out hl63.out]; exact q3.set n _); have r1 := q1.other (b := w.heap.size + 1 + 1) (by omega) n (.int .u8 128); have r2 := q2.other (b := w.heap.size + 1 + 1) (by omega) n (.int .u8 128); have hb := qb.setCell (p := ⟨w.heap.size + 1 + 1, n, none⟩) (Nat.le_add_right_of_le (Nat.le_add_right _ _)) (.int .u8 128))
  rw [HQ.out]
  clear c3 f3 c8 q1 q2 q3 qb hd hd2
  generalize w3.setCell ⟨w.heap.size + 1 + 1, n, none⟩ (.int .u8 128) = w4 at *
  have HL1 := Lib.hid (oneB_length xs (bitsQ q n) Hl.out)
  have HL2 := Lib.hid (twoB_length xs hl63.out)
  have HO := Lib.hid (over_one xs (bitsQ q n) Hl.out)
  have HG := Lib.hid (fun (i : Nat) (hi : i < 8) => one_getD xs (bitsQ q n) Hl.out i hi)
  have HB := Lib.hid (bytes_one Hx.out (bitsQ q n))
  generalize eZ : twoB xs = zs at *
  clear eZ
  generalize eL : oneB xs (bitsQ q n) = l at *
  have EL := Lib.hid eL
  clear eL
  generalize eQ : bitsQ q n = qb at *
  have EQ := Lib.hid eQ
  clear eQ
  go_loopw [32] (fun i wr => EnAt w hs q l zs i wr) (fun i _ => 8 - (intOf i).toNat)
  case atStart => exact ⟨0, Nat.zero_le _, rfl, r1, r2, by rw [Nat.add_zero, HO.out]; exact r3, hb⟩
  case round =>
    clear r1 r2 r3 hb
    obtain ⟨k, hk, rfl, r1, r2, r3, hb⟩ := hrel
    by_cases hlt : k < 8
    · obtain ⟨j, ej⟩ : ∃ j : Nat, 56 - 8 * k = j := ⟨_, rfl⟩
      have HV := Lib.hid ((HG.out k hlt).trans (lenAt_uq qb k j ej))
      have sj : 56 - 8 * (k : Int) = (j : Int) := by omega
      obtain ⟨i, ei⟩ : ∃ i : Nat, 56 + k = i := ⟨_, rfl⟩
      have si : 56 + (k : Int) = (i : Int) := by omega
      have HI := Lib.hid (show 56 + (k + 1) = i + 1 by omega)
      rw [ei] at HV r3
      have gi : i < 64 := by omega
      have gj : j ≤ 56 := by omega
      have c3 := brow_over_there (j := i) r3 (by rw [HL1.out, HL2.out]) (by rw [HL1.out]; exact gi)
      have f3 := r3.free i
      clear ej ei
      go_wp2_with fail
      refine ⟨⟨k + 1, by omega, by go_num, r1.other (by omega) _ _, r2.other (by omega) _ _, by rw [HI.out]; exact brow_over r3 (by rw [HL1.out, HL2.out]) (by rw [HL1.out]; exact gi) HV.out, hb.setCell (p := ⟨w.heap.size + 1 + 1, i, none⟩) (Nat.le_add_right_of_le (Nat.le_add_right _ _)) _⟩, ?_⟩
      simp [intOf]; omega
    · obtain rfl : k = 8 := by omega
      rw [show ((8 : Nat) : Int) = (8 : Int) from rfl]
      rw [over_all l zs 64 (by rw [HL1.out, HL2.out]) (by rw [HL1.out]; exact Nat.le_refl _)] at r3
      go_wp2_with (first
        | (refine wpList_load_cells rfl 41 (.tmp 2) rfl w.heap.size 0 rfl (scells hs (uq q)) _ r1.cells Tryd.underlying41 rfl (by rw [Tryd.size31, scells_size, Hh.out]) ?_)
        | (refine wpList_load_cells rfl 43 (.tmp 6) rfl (w.heap.size + 1 + 1) 0 rfl (bcells l) _ r3.cells Tryd.underlying43 rfl (by rw [Tryd.size32, bcells_size, HL1.out]) ?_))
      refine (block_any h0 ks hs q l _ Hh.out HL1.out HB.out (Ht.out.keep hb) Hks.out).mono ?_
      rintro e w7 ⟨rfl, hb7⟩
      have q2 := r2.keep hb7
      have qb7 := hb.trans (hb7.mono hb.size)
      have H8 := Lib.hid (blockW_length ks hs l Hh.out)
      clear r1 r2 r3 hb hb7
      generalize e8 : blockW ks hs l = hs8 at *
      have E8 := Lib.hid e8
      clear e8
      have hf := fun w' => run_field_H (P := Tryd.prog) w' 41 _ _ 8 37 hs8 (uq (q + 64#64)) Tryd.underlying41 rfl Tryd.underlying38 (by rw [H8.out]; exact Tryd.size28)
      go_wp2_with fail
      refine (laid_any hs8 _ H8.out).mono ?_
      rintro e w8 ⟨rfl, hb8⟩
      have p2 := q2.keep hb8
      have pb8 := qb7.trans (hb8.mono qb7.size)
      clear q2 qb7 hb8 hf
      have H9 := Lib.hid (laidW_length hs8)
      generalize eO : laidW hs8 = out at *
      have EO := Lib.hid eO
      clear eO
      go_wp2_with (refine wpList_store_row rfl 23 (.tmp 4) (.tmp 49) rfl (w.heap.size + 1) (bcells out) rfl rfl 23 (bcells (List.replicate 32 0)) p2 (by rw [Tryd.size23, bcells_size, H9.out]) (by rw [bcells_size, bcells_size, H9.out, List.length_replicate]) (bcells_one _) ?_)
      refine bodyPost_ret (v := .agg (bcells out)) ?_ rfl ?_
      · exact results_cell_row Tryd.results23 _ _ (w.heap.size + 1) 23 (bcells out) (0, 0) _ rfl (p2.setRow _) Tryd.underlying23 rfl (by rw [Tryd.size23, bcells_size, H9.out])
      · exact ⟨by rw [← EO.out, ← E8.out, ← EL.out, ← EQ.out], below_setRow pb8 (Nat.le_add_right _ _) _⟩
set_option maxRecDepth 100000 in
set_option maxHeartbeats 1000000 in
theorem end_two (h0 ks hs : List Wd) (q : Qd) (A : Option Addr) (n c : Nat) (xs : List Int) (w : World) (hh : hs.length = 8) (ht : Tab w h0 ks) (hks : ks.length = 64) (hn : n = xs.length) (hs0 : Src .u8 w A xs) (hx : IsBytes xs) (hlen : 56 ≤ xs.length) (hlen2 : xs.length ≤ 63) :
    Calls Tryd.prog 23 #[.agg (scells hs (uq q)), .slice A n c] w fun e w' => e = .returned (.agg (bcells (laidW (blockW ks (blockW ks hs (twoB xs)) (lastB (bitsQ q n)))))) ∧ Below w.heap.size w w' := by
  have Hh := Lib.hid hh
  have Hks := Lib.hid hks
  have Hs := Lib.hid hs0
  have Ht := Lib.hid ht
  have Hx := Lib.hid hx
  obtain ⟨r1, r2, r3, hb⟩ := rows3 w (scells hs (uq q)) (bcells (List.replicate 32 0)) (bcells (List.replicate 64 0)) 41 23 43
  have c8 := scells_last hs (uq q) 8 hh
  have HQ := Lib.hid (bits_uq q n)
  have Hn := Lib.hid hn
  have Hl := Lib.hid hlen
  have hn56 : (n : Int) < 64 := by omega
  have hl63 := Lib.hid hlen2
  have hd : decide ((64 : Int) ≤ (n : Int)) = false := by simp; omega
  have hd2 : decide ((56 : Int) ≤ (n : Int)) = true := by simp; omega
  clear hh hks hs0 ht hx hn hlen hlen2
  go_enter Tryd.func23, Tryd.ntmps23
  go_wp2_with (first
    | (refine wpList_copy_splice rfl (.tmp 21) (.tmp 22) 22 22 rfl 5 Tryd.underlying22 Tryd.one5 _ _ 64 64 n _ rfl rfl (w.heap.size + 1 + 1) 0 ((List.replicate 64 (0 : Int)).map (Value.int .u8)) 43 r3 (cellsOf .u8 xs) (by rw [cellsOf_length, ← Hn.out]; exact (Nat.min_eq_left (by have := hl63.out; have := Hn.out; omega)).symm) (fun hp => ⟨rfl, src_copy (Hs.out.keep hb) hp⟩) (by rw [cellsOf_length, List.length_map, List.length_replicate]; have := hl63.out; omega) (cellsOf_one _ _) (w.heap.size + 1 + 1) _ (Below.refl _ _) (Nat.le_refl _) ?_; intro w3 hg3 hb3; rw [splice_zeros] at hg3; rw [show goInt ((cellsOf .u8 xs).length : Nat) = .int .i64 (n : Int) by rw [cellsOf_length, ← Hn.out]; rfl]; have q1 := r1.keepB hb3 (by omega); have q2 := r2.keepB hb3 (by omega); have q3 : Row w3 (w.heap.size + 1 + 1) 43 _ := hg3.out; have qb := hb.trans (hb3.mono (by omega)); clear r1 r2 r3 hb hb3 hg3; have c3 := q3.cell (bcells_at _ n (by rw [List.length_append, zerosI_length]; have := hl63.out; have := Hn.out; omega)); have f3 := q3.free n; have r3 : Row (w3.setCell ⟨w.heap.size + 1 + 1, n, none⟩ (.int .u8 128)) (w.heap.size + 1 + 1) 43 (bcells (twoB xs)) := (by rw [← mark_row Hn.out hl63.out]; exact q3.set n _); have r1 := q1.other (b := w.heap.size + 1 + 1) (by omega) n (.int .u8 128); have r2 := q2.other (b := w.heap.size + 1 + 1) (by omega) n (.int .u8 128); have hb := qb.setCell (p := ⟨w.heap.size + 1 + 1, n, none⟩) (Nat.le_add_right_of_le (Nat.le_add_right _ _)) (.int .u8 128))
    | (refine wpList_load_cells rfl 41 (.tmp 2) rfl w.heap.size 0 rfl (scells hs (uq q)) _ r1.cells Tryd.underlying41 rfl (by rw [Tryd.size31, scells_size, Hh.out]) ?_)
    | (refine wpList_load_cells rfl 43 (.tmp 6) rfl (w.heap.size + 1 + 1) 0 rfl (bcells (twoB xs)) _ r3.cells Tryd.underlying43 rfl (by rw [Tryd.size32, bcells_size, twoB_length xs hl63.out]) ?_))
  rw [HQ.out]
  clear c3 f3 c8 q1 q2 q3 qb hd
  generalize w3.setCell ⟨w.heap.size + 1 + 1, n, none⟩ (.int .u8 128) = w4 at *
  refine (block_any h0 ks hs q (twoB xs) _ Hh.out (twoB_length xs hl63.out) (bytes_two Hx.out) (Ht.out.keep hb) Hks.out).mono ?_
  rintro e w5 ⟨rfl, hb5⟩
  have p1 := r1.keep hb5
  have p2 := r2.keep hb5
  have p3 := r3.keep hb5
  have pb := hb.trans (hb5.mono hb.size)
  clear r1 r2 r3 hb hb5
  have HH := Lib.hid (blockW_length ks hs (twoB xs) Hh.out)
  have HT2 := Lib.hid (twoB_length xs hl63.out)
  generalize e1 : blockW ks hs (twoB xs) = hs1 at *
  have E1 := Lib.hid e1
  clear e1
  generalize q + 64#64 = q1 at *
  generalize eT : twoB xs = ts at *
  have ET := Lib.hid eT
  clear eT
  go_wp2_with (first
    | (refine wpList_store_row rfl 41 (.tmp 2) (.tmp 30) rfl w.heap.size (scells hs1 (uq q1)) rfl rfl 41 (scells hs (uq q)) p1 (by rw [Tryd.size31, scells_size, HH.out]) (by rw [scells_size, scells_size, HH.out, Hh.out]) (scells_one _ _) ?_; have r1 := p1.setRow (scells hs1 (uq q1)); have r2 := p2.otherRow (b := w.heap.size) (by omega) (scells hs1 (uq q1)); have r3 := p3.otherRow (b := w.heap.size) (by omega) (scells hs1 (uq q1)); have hb := below_setRow pb (Nat.le_refl w.heap.size) (scells hs1 (uq q1)); clear p1 p2 p3 pb; generalize w5.setRow w.heap.size (scells hs1 (uq q1)) = w6 at *)
    | (refine wpList_store_row rfl 43 (.tmp 6) (.tmp 31) rfl (w.heap.size + 1 + 1) (bcells (zerosI 64)) rfl rfl 43 (bcells ts) r3 (by rw [Tryd.size32, bcells_size, zerosI_length]) (by rw [bcells_size, bcells_size, HT2.out, zerosI_length]) (bcells_one _) ?_; have p1 := r1.otherRow (b := w.heap.size + 1 + 1) (by omega) (bcells (zerosI 64)); have p2 := r2.otherRow (b := w.heap.size + 1 + 1) (by omega) (bcells (zerosI 64)); have p3 := r3.setRow (bcells (zerosI 64)); have pb := below_setRow hb (b := w.heap.size + 1 + 1) (Nat.le_add_right_of_le (Nat.le_add_right _ _)) (bcells (zerosI 64)); clear r1 r2 r3 hb; generalize w6.setRow (w.heap.size + 1 + 1) (bcells (zerosI 64)) = w4 at *))
  have HL1 := Lib.hid (lastB_length (bitsQ q n))
  have HL2 := Lib.hid (zerosI_length 64)
  have HO := Lib.hid (over_last (bitsQ q n))
  have HG := Lib.hid (fun (i : Nat) (hi : i < 8) => last_getD (bitsQ q n) i hi)
  have HB := Lib.hid (bytes_last (bitsQ q n))
  have r1 := p1
  have r2 := p2
  have r3 := p3
  have hb := pb
  clear p1 p2 p3 pb
  generalize zerosI 64 = zs at *
  generalize eL : lastB (bitsQ q n) = l at *
  have EL := Lib.hid eL
  clear eL
  generalize eQ : bitsQ q n = qb at *
  have EQ := Lib.hid eQ
  clear eQ
  go_loopw [32] (fun i wr => EnAt w hs1 q1 l zs i wr) (fun i _ => 8 - (intOf i).toNat)
  case atStart => exact ⟨0, Nat.zero_le _, rfl, r1, r2, by rw [Nat.add_zero, HO.out]; exact r3, hb⟩
  case round =>
    clear r1 r2 r3 hb
    obtain ⟨k, hk, rfl, r1, r2, r3, hb⟩ := hrel
    by_cases hlt : k < 8
    · obtain ⟨j, ej⟩ : ∃ j : Nat, 56 - 8 * k = j := ⟨_, rfl⟩
      have HV := Lib.hid ((HG.out k hlt).trans (lenAt_uq qb k j ej))
      have sj : 56 - 8 * (k : Int) = (j : Int) := by omega
      obtain ⟨i, ei⟩ : ∃ i : Nat, 56 + k = i := ⟨_, rfl⟩
      have si : 56 + (k : Int) = (i : Int) := by omega
      have HI := Lib.hid (show 56 + (k + 1) = i + 1 by omega)
      rw [ei] at HV r3
      have gi : i < 64 := by omega
      have gj : j ≤ 56 := by omega
      have c3 := brow_over_there (j := i) r3 (by rw [HL1.out, HL2.out]) (by rw [HL1.out]; exact gi)
      have f3 := r3.free i
      clear ej ei
      go_wp2_with fail
      refine ⟨⟨k + 1, by omega, by go_num, r1.other (by omega) _ _, r2.other (by omega) _ _, by rw [HI.out]; exact brow_over r3 (by rw [HL1.out, HL2.out]) (by rw [HL1.out]; exact gi) HV.out, hb.setCell (p := ⟨w.heap.size + 1 + 1, i, none⟩) (Nat.le_add_right_of_le (Nat.le_add_right _ _)) _⟩, ?_⟩
      simp [intOf]; omega
    · obtain rfl : k = 8 := by omega
      rw [show ((8 : Nat) : Int) = (8 : Int) from rfl]
      rw [over_all l zs 64 (by rw [HL1.out, HL2.out]) (by rw [HL1.out]; exact Nat.le_refl _)] at r3
      go_wp2_with (first
        | (refine wpList_load_cells rfl 41 (.tmp 2) rfl w.heap.size 0 rfl (scells hs1 (uq q1)) _ r1.cells Tryd.underlying41 rfl (by rw [Tryd.size31, scells_size, HH.out]) ?_)
        | (refine wpList_load_cells rfl 43 (.tmp 6) rfl (w.heap.size + 1 + 1) 0 rfl (bcells l) _ r3.cells Tryd.underlying43 rfl (by rw [Tryd.size32, bcells_size, HL1.out]) ?_))
      refine (block_any h0 ks hs1 q1 l _ HH.out HL1.out HB.out (Ht.out.keep hb) Hks.out).mono ?_
      rintro e w7 ⟨rfl, hb7⟩
      have q2 := r2.keep hb7
      have qb7 := hb.trans (hb7.mono hb.size)
      have H8 := Lib.hid (blockW_length ks hs1 l HH.out)
      clear r1 r2 r3 hb hb7
      generalize e8 : blockW ks hs1 l = hs8 at *
      have E8 := Lib.hid e8
      clear e8
      have hf := fun w' => run_field_H (P := Tryd.prog) w' 41 _ _ 8 37 hs8 (uq (q1 + 64#64)) Tryd.underlying41 rfl Tryd.underlying38 (by rw [H8.out]; exact Tryd.size28)
      go_wp2_with fail
      refine (laid_any hs8 _ H8.out).mono ?_
      rintro e w8 ⟨rfl, hb8⟩
      have p2 := q2.keep hb8
      have pb8 := qb7.trans (hb8.mono qb7.size)
      clear q2 qb7 hb8 hf
      have H9 := Lib.hid (laidW_length hs8)
      generalize eO : laidW hs8 = out at *
      have EO := Lib.hid eO
      clear eO
      go_wp2_with (refine wpList_store_row rfl 23 (.tmp 4) (.tmp 49) rfl (w.heap.size + 1) (bcells out) rfl rfl 23 (bcells (List.replicate 32 0)) p2 (by rw [Tryd.size23, bcells_size, H9.out]) (by rw [bcells_size, bcells_size, H9.out, List.length_replicate]) (bcells_one _) ?_)
      refine bodyPost_ret (v := .agg (bcells out)) ?_ rfl ?_
      · exact results_cell_row Tryd.results23 _ _ (w.heap.size + 1) 23 (bcells out) (0, 0) _ rfl (p2.setRow _) Tryd.underlying23 rfl (by rw [Tryd.size23, bcells_size, H9.out])
      · exact ⟨by rw [← EO.out, ← E8.out, ← E1.out, ← ET.out, ← EL.out, ← EQ.out], below_setRow pb8 (Nat.le_add_right _ _) _⟩
set_option maxRecDepth 100000 in
set_option maxHeartbeats 1000000 in
theorem end_cut (h0 ks hs : List Wd) (q : Qd) (b o m c : Nat) (xs : List Int) (w : World) (hh : hs.length = 8) (ht : Tab w h0 ks) (hks : ks.length = 64) (hs0 : Src .u8 w (some ⟨b, o, none⟩) xs) (hx : IsBytes xs) (hlen : 63 = xs.length) (hm : 63 < m) (hmc : m ≤ c) (hc : c ≤ 9223372036854775807) :
    Calls Tryd.prog 23 #[.agg (scells hs (uq q)), .slice (some ⟨b, o, none⟩) m c] w fun e w' => e = .returned (.agg (bcells (laidW (blockW ks (blockW ks hs (twoB xs)) (lastB (bitsQ q 63)))))) ∧ Below w.heap.size w w' := by
  have Hh := Lib.hid hh
  have Hks := Lib.hid hks
  have Hs := Lib.hid hs0
  have Ht := Lib.hid ht
  have Hx := Lib.hid hx
  obtain ⟨r1, r2, r3, hb⟩ := rows3 w (scells hs (uq q)) (bcells (List.replicate 32 0)) (bcells (List.replicate 64 0)) 41 23 43
  have c8 := scells_last hs (uq q) 8 hh
  have HQ := Lib.hid (show IntKind.u64.wrap (8 * IntKind.u64.wrap (uq q + 63)) = uq (bitsQ q 63) from bits_uq q 63)
  have Hn := Lib.hid hlen
  have Hl := Lib.hid (show 56 ≤ xs.length by omega)
  have hl63 := Lib.hid (show xs.length ≤ 63 by omega)
  have hd : decide ((64 : Int) ≤ (m : Int)) = true := by simp; omega
  have hc3 : (63 : Int) ≤ (c : Int) := by omega
  clear hh hks hs0 ht hx hlen hm hmc
  go_enter Tryd.func23, Tryd.ntmps23
  go_wp2_with (first
    | (refine wpList_copy_splice rfl (.tmp 21) (.tmp 22) 22 22 rfl 5 Tryd.underlying22 Tryd.one5 _ _ 64 64 63 _ rfl rfl (w.heap.size + 1 + 1) 0 ((List.replicate 64 (0 : Int)).map (Value.int .u8)) 43 r3 (cellsOf .u8 xs) (by rw [cellsOf_length, ← Hn.out]; exact (Nat.min_eq_left (by have := hl63.out; have := Hn.out; omega)).symm) (fun hp => ⟨rfl, src_copy (Hs.out.keep hb) hp⟩) (by rw [cellsOf_length, List.length_map, List.length_replicate]; have := hl63.out; omega) (cellsOf_one _ _) (w.heap.size + 1 + 1) _ (Below.refl _ _) (Nat.le_refl _) ?_; intro w3 hg3 hb3; rw [splice_zeros] at hg3; rw [show goInt ((cellsOf .u8 xs).length : Nat) = .int .i64 63 by rw [cellsOf_length, ← Hn.out]; rfl]; have q1 := r1.keepB hb3 (by omega); have q2 := r2.keepB hb3 (by omega); have q3 : Row w3 (w.heap.size + 1 + 1) 43 _ := hg3.out; have qb := hb.trans (hb3.mono (by omega)); clear r1 r2 r3 hb hb3 hg3; have c3 := q3.cell (bcells_at _ 63 (by rw [List.length_append, zerosI_length]; have := hl63.out; have := Hn.out; omega)); have f3 := q3.free 63; have r3 : Row (w3.setCell ⟨w.heap.size + 1 + 1, 63, none⟩ (.int .u8 128)) (w.heap.size + 1 + 1) 43 (bcells (twoB xs)) := (by rw [← mark_row Hn.out hl63.out]; exact q3.set 63 _); have r1 := q1.other (b := w.heap.size + 1 + 1) (by omega) 63 (.int .u8 128); have r2 := q2.other (b := w.heap.size + 1 + 1) (by omega) 63 (.int .u8 128); have hb := qb.setCell (p := ⟨w.heap.size + 1 + 1, 63, none⟩) (Nat.le_add_right_of_le (Nat.le_add_right _ _)) (.int .u8 128))
    | (refine wpList_load_cells rfl 41 (.tmp 2) rfl w.heap.size 0 rfl (scells hs (uq q)) _ r1.cells Tryd.underlying41 rfl (by rw [Tryd.size31, scells_size, Hh.out]) ?_)
    | (refine wpList_load_cells rfl 43 (.tmp 6) rfl (w.heap.size + 1 + 1) 0 rfl (bcells (twoB xs)) _ r3.cells Tryd.underlying43 rfl (by rw [Tryd.size32, bcells_size, twoB_length xs hl63.out]) ?_))
  rw [HQ.out]
  clear c3 f3 c8 q1 q2 q3 qb hd
  generalize w3.setCell ⟨w.heap.size + 1 + 1, 63, none⟩ (.int .u8 128) = w4 at *
  refine (block_any h0 ks hs q (twoB xs) _ Hh.out (twoB_length xs hl63.out) (bytes_two Hx.out) (Ht.out.keep hb) Hks.out).mono ?_
  rintro e w5 ⟨rfl, hb5⟩
  have p1 := r1.keep hb5
  have p2 := r2.keep hb5
  have p3 := r3.keep hb5
  have pb := hb.trans (hb5.mono hb.size)
  clear r1 r2 r3 hb hb5
  have HH := Lib.hid (blockW_length ks hs (twoB xs) Hh.out)
  have HT2 := Lib.hid (twoB_length xs hl63.out)
  generalize e1 : blockW ks hs (twoB xs) = hs1 at *
  have E1 := Lib.hid e1
  clear e1
  generalize q + 64#64 = q1 at *
  generalize eT : twoB xs = ts at *
  have ET := Lib.hid eT
  clear eT
  go_wp2_with (first
    | (refine wpList_store_row rfl 41 (.tmp 2) (.tmp 30) rfl w.heap.size (scells hs1 (uq q1)) rfl rfl 41 (scells hs (uq q)) p1 (by rw [Tryd.size31, scells_size, HH.out]) (by rw [scells_size, scells_size, HH.out, Hh.out]) (scells_one _ _) ?_; have r1 := p1.setRow (scells hs1 (uq q1)); have r2 := p2.otherRow (b := w.heap.size) (by omega) (scells hs1 (uq q1)); have r3 := p3.otherRow (b := w.heap.size) (by omega) (scells hs1 (uq q1)); have hb := below_setRow pb (Nat.le_refl w.heap.size) (scells hs1 (uq q1)); clear p1 p2 p3 pb; generalize w5.setRow w.heap.size (scells hs1 (uq q1)) = w6 at *)
    | (refine wpList_store_row rfl 43 (.tmp 6) (.tmp 31) rfl (w.heap.size + 1 + 1) (bcells (zerosI 64)) rfl rfl 43 (bcells ts) r3 (by rw [Tryd.size32, bcells_size, zerosI_length]) (by rw [bcells_size, bcells_size, HT2.out, zerosI_length]) (bcells_one _) ?_; have p1 := r1.otherRow (b := w.heap.size + 1 + 1) (by omega) (bcells (zerosI 64)); have p2 := r2.otherRow (b := w.heap.size + 1 + 1) (by omega) (bcells (zerosI 64)); have p3 := r3.setRow (bcells (zerosI 64)); have pb := below_setRow hb (b := w.heap.size + 1 + 1) (Nat.le_add_right_of_le (Nat.le_add_right _ _)) (bcells (zerosI 64)); clear r1 r2 r3 hb; generalize w6.setRow (w.heap.size + 1 + 1) (bcells (zerosI 64)) = w4 at *))
  have HL1 := Lib.hid (lastB_length (bitsQ q 63))
  have HL2 := Lib.hid (zerosI_length 64)
  have HO := Lib.hid (over_last (bitsQ q 63))
  have HG := Lib.hid (fun (i : Nat) (hi : i < 8) => last_getD (bitsQ q 63) i hi)
  have HB := Lib.hid (bytes_last (bitsQ q 63))
  have r1 := p1
  have r2 := p2
  have r3 := p3
  have hb := pb
  clear p1 p2 p3 pb
  generalize zerosI 64 = zs at *
  generalize eL : lastB (bitsQ q 63) = l at *
  have EL := Lib.hid eL
  clear eL
  generalize eQ : bitsQ q 63 = qb at *
  have EQ := Lib.hid eQ
  clear eQ
  go_loopw [32] (fun i wr => EnAt w hs1 q1 l zs i wr) (fun i _ => 8 - (intOf i).toNat)
  case atStart => exact ⟨0, Nat.zero_le _, rfl, r1, r2, by rw [Nat.add_zero, HO.out]; exact r3, hb⟩
  case round =>
    clear r1 r2 r3 hb
    obtain ⟨k, hk, rfl, r1, r2, r3, hb⟩ := hrel
    by_cases hlt : k < 8
    · obtain ⟨j, ej⟩ : ∃ j : Nat, 56 - 8 * k = j := ⟨_, rfl⟩
      have HV := Lib.hid ((HG.out k hlt).trans (lenAt_uq qb k j ej))
      have sj : 56 - 8 * (k : Int) = (j : Int) := by omega
      obtain ⟨i, ei⟩ : ∃ i : Nat, 56 + k = i := ⟨_, rfl⟩
      have si : 56 + (k : Int) = (i : Int) := by omega
      have HI := Lib.hid (show 56 + (k + 1) = i + 1 by omega)
      rw [ei] at HV r3
      have gi : i < 64 := by omega
      have gj : j ≤ 56 := by omega
      have c3 := brow_over_there (j := i) r3 (by rw [HL1.out, HL2.out]) (by rw [HL1.out]; exact gi)
      have f3 := r3.free i
      clear ej ei
      go_wp2_with fail
      refine ⟨⟨k + 1, by omega, by go_num, r1.other (by omega) _ _, r2.other (by omega) _ _, by rw [HI.out]; exact brow_over r3 (by rw [HL1.out, HL2.out]) (by rw [HL1.out]; exact gi) HV.out, hb.setCell (p := ⟨w.heap.size + 1 + 1, i, none⟩) (Nat.le_add_right_of_le (Nat.le_add_right _ _)) _⟩, ?_⟩
      simp [intOf]; omega
    · obtain rfl : k = 8 := by omega
      rw [show ((8 : Nat) : Int) = (8 : Int) from rfl]
      rw [over_all l zs 64 (by rw [HL1.out, HL2.out]) (by rw [HL1.out]; exact Nat.le_refl _)] at r3
      go_wp2_with (first
        | (refine wpList_load_cells rfl 41 (.tmp 2) rfl w.heap.size 0 rfl (scells hs1 (uq q1)) _ r1.cells Tryd.underlying41 rfl (by rw [Tryd.size31, scells_size, HH.out]) ?_)
        | (refine wpList_load_cells rfl 43 (.tmp 6) rfl (w.heap.size + 1 + 1) 0 rfl (bcells l) _ r3.cells Tryd.underlying43 rfl (by rw [Tryd.size32, bcells_size, HL1.out]) ?_))
      refine (block_any h0 ks hs1 q1 l _ HH.out HL1.out HB.out (Ht.out.keep hb) Hks.out).mono ?_
      rintro e w7 ⟨rfl, hb7⟩
      have q2 := r2.keep hb7
      have qb7 := hb.trans (hb7.mono hb.size)
      have H8 := Lib.hid (blockW_length ks hs1 l HH.out)
      clear r1 r2 r3 hb hb7
      generalize e8 : blockW ks hs1 l = hs8 at *
      have E8 := Lib.hid e8
      clear e8
      have hf := fun w' => run_field_H (P := Tryd.prog) w' 41 _ _ 8 37 hs8 (uq (q1 + 64#64)) Tryd.underlying41 rfl Tryd.underlying38 (by rw [H8.out]; exact Tryd.size28)
      go_wp2_with fail
      refine (laid_any hs8 _ H8.out).mono ?_
      rintro e w8 ⟨rfl, hb8⟩
      have p2 := q2.keep hb8
      have pb8 := qb7.trans (hb8.mono qb7.size)
      clear q2 qb7 hb8 hf
      have H9 := Lib.hid (laidW_length hs8)
      generalize eO : laidW hs8 = out at *
      have EO := Lib.hid eO
      clear eO
      go_wp2_with (refine wpList_store_row rfl 23 (.tmp 4) (.tmp 49) rfl (w.heap.size + 1) (bcells out) rfl rfl 23 (bcells (List.replicate 32 0)) p2 (by rw [Tryd.size23, bcells_size, H9.out]) (by rw [bcells_size, bcells_size, H9.out, List.length_replicate]) (bcells_one _) ?_)
      refine bodyPost_ret (v := .agg (bcells out)) ?_ rfl ?_
      · exact results_cell_row Tryd.results23 _ _ (w.heap.size + 1) 23 (bcells out) (0, 0) _ rfl (p2.setRow _) Tryd.underlying23 rfl (by rw [Tryd.size23, bcells_size, H9.out])
      · exact ⟨by rw [← EO.out, ← E8.out, ← E1.out, ← ET.out, ← EL.out, ← EQ.out], below_setRow pb8 (Nat.le_add_right _ _) _⟩
end Go.Proofs.YtbhcikahemhfmaaDoor.Sha3

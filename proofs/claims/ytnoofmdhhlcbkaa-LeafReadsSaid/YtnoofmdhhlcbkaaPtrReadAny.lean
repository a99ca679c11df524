/- Read, whole: any bytes are their pointer, or its error; nothing that was there is written. -/
import Derived.Test.YtnoofmdhhlcbkaaPtrRead
namespace Go.Proofs.Ytnoofmdhhlcbkaa
open Go.RowKit

/-- A part of bytes, as a cut gives it. -/
theorem src_cut {w : World} {b o c : Nat} {xs : List Int} (h : Src .u8 w (some ⟨b, o, none⟩) xs) (j k : Nat) (hj : j < xs.length) (hc : xs.length ≤ c) : Src .u8 w (some ⟨b, o + j, none⟩) ((xs.drop j).take k) := by
  have h1 := h.drop j c (by omega) hc
  rw [if_neg (by omega)] at h1
  have hadd : (⟨b, o, none⟩ : Addr).add j = ⟨b, o + j, none⟩ := by unfold Addr.add; split <;> simp_all
  rw [Option.map_some, hadd] at h1
  exact h1.take k
theorem takeNum_full (ys : List Int) (k : Nat) (h : ys.length = k) (h1 : 1 ≤ k) (h8 : k ≤ 8) : takeNum ys (k : Int) = ((numOf ys : Nat) : Int) := by
  have hok : takeOk ys.length (k : Int) = true := by unfold takeOk; simp; omega
  unfold takeNum
  rw [if_pos hok, Int.toNat_natCast, List.take_of_length_le (by omega)]
theorem zero_built : Try.prog.built 43 [] = some (pcells Pt.zero) := by kernel_rfl
theorem zero_row (w : World) : Row (w.alloc (.cells #[Value.int IntKind.i64 0, Value.int IntKind.i64 0, Value.int IntKind.i64 0, Value.int IntKind.u32 0, Value.int IntKind.u8 0, Value.int IntKind.u8 0, Value.int IntKind.u8 0, Value.int IntKind.u8 0, Value.int IntKind.u8 0, Value.int IntKind.u8 0, Value.int IntKind.u8 0, Value.int IntKind.u8 0, Value.int IntKind.u8 0, Value.int IntKind.u8 0, Value.int IntKind.u8 0, Value.int IntKind.u8 0, Value.int IntKind.u8 0, Value.int IntKind.u8 0, Value.int IntKind.u8 0, Value.int IntKind.u8 0, Value.int IntKind.u8 0, Value.int IntKind.u8 0, Value.int IntKind.u8 0, Value.int IntKind.u8 0, Value.int IntKind.u8 0, Value.int IntKind.u8 0, Value.int IntKind.u8 0, Value.int IntKind.u8 0, Value.int IntKind.u8 0, Value.int IntKind.u8 0, Value.int IntKind.u8 0, Value.int IntKind.u8 0, Value.int IntKind.u8 0, Value.int IntKind.u8 0, Value.int IntKind.u8 0, Value.int IntKind.u8 0] 43)) w.heap.size 43 (pcells Pt.zero) := Row.new w 43 (pcells Pt.zero)
theorem zero_below (w : World) : Below w.heap.size w (w.alloc (.cells #[Value.int IntKind.i64 0, Value.int IntKind.i64 0, Value.int IntKind.i64 0, Value.int IntKind.u32 0, Value.int IntKind.u8 0, Value.int IntKind.u8 0, Value.int IntKind.u8 0, Value.int IntKind.u8 0, Value.int IntKind.u8 0, Value.int IntKind.u8 0, Value.int IntKind.u8 0, Value.int IntKind.u8 0, Value.int IntKind.u8 0, Value.int IntKind.u8 0, Value.int IntKind.u8 0, Value.int IntKind.u8 0, Value.int IntKind.u8 0, Value.int IntKind.u8 0, Value.int IntKind.u8 0, Value.int IntKind.u8 0, Value.int IntKind.u8 0, Value.int IntKind.u8 0, Value.int IntKind.u8 0, Value.int IntKind.u8 0, Value.int IntKind.u8 0, Value.int IntKind.u8 0, Value.int IntKind.u8 0, Value.int IntKind.u8 0, Value.int IntKind.u8 0, Value.int IntKind.u8 0, Value.int IntKind.u8 0, Value.int IntKind.u8 0, Value.int IntKind.u8 0, Value.int IntKind.u8 0, Value.int IntKind.u8 0, Value.int IntKind.u8 0] 43)) := (Below.refl _ _).alloc (Nat.le_refl _) _
theorem Try.resultsRead : Try.f42.results = #[.cell 2 43, .tmp 3] := by kernel_rfl
set_option maxHeartbeats 1000000 in
theorem read_small (A : Option Addr) (n c : Nat) (xs : List Int) (w : World) (hn : n = xs.length) (hl : n < 52) :
    Calls Try.prog 42 #[.slice A n c] w fun e w' => e = .returned (.tuple #[.agg (pcells (readPt xs)), .int .i64 (readErr xs)]) ∧ Below w.heap.size w w' := by
  have r1 := zero_row w
  have b1 := zero_below w
  have H1 := Lib.hid (show readPt xs = Pt.zero by unfold readPt; rw [if_pos (by omega)])
  have H2 := Lib.hid (show readErr xs = 10 by unfold readErr; rw [if_pos (by omega)])
  have Hz := Lib.hid zero_built
  have Hs := Lib.hid (pt_size (p := Pt.zero) rfl)
  have h1 := Lib.hid (pcells_one Pt.zero)
  have hd : decide ((n : Int) < 52) = true := by simp; omega
  have hd2 : decide (n < 52) = true := by simp; omega
  clear hn hl
  rw [H1.out, H2.out]
  generalize pcells Pt.zero = zs at *
  go_enter Try.func42, Try.ntmps42
  go_wp2_with (first
    | (refine wpList_build_eq rfl 43 #[] rfl [] (by simp) zs Hz.out ?_)
    | (refine wpList_store_row rfl 43 (.tmp 2) (.tmp 9) rfl w.heap.size zs rfl rfl 43 zs r1 Hs.out rfl h1.out ?_))
  refine bodyPost_ret (v := .tuple #[.agg zs, .int .i64 10]) ?_ rfl ?_
  · exact results_cell_tmp_row Try.resultsRead _ _ w.heap.size 43 zs (0, 0) _ rfl (r1.setRow zs) Try.underlying43 rfl Hs.out
  · exact ⟨rfl, below_setRow b1 (Nat.le_refl _) _⟩
theorem rest_start (w : World) (b o n c : Nat) (xs : List Int) (hn : n = xs.length) (hs : Src .u8 w (some ⟨b, o, none⟩) xs) (h : 52 ≤ n) (hnc : n ≤ c) (hc : c ≤ 9223372036854775807) :
    Rest ((w.alloc (.cells #[Value.int IntKind.i64 0, Value.int IntKind.i64 0, Value.int IntKind.i64 0, Value.int IntKind.u32 0, Value.int IntKind.u8 0, Value.int IntKind.u8 0, Value.int IntKind.u8 0, Value.int IntKind.u8 0, Value.int IntKind.u8 0, Value.int IntKind.u8 0, Value.int IntKind.u8 0, Value.int IntKind.u8 0, Value.int IntKind.u8 0, Value.int IntKind.u8 0, Value.int IntKind.u8 0, Value.int IntKind.u8 0, Value.int IntKind.u8 0, Value.int IntKind.u8 0, Value.int IntKind.u8 0, Value.int IntKind.u8 0, Value.int IntKind.u8 0, Value.int IntKind.u8 0, Value.int IntKind.u8 0, Value.int IntKind.u8 0, Value.int IntKind.u8 0, Value.int IntKind.u8 0, Value.int IntKind.u8 0, Value.int IntKind.u8 0, Value.int IntKind.u8 0, Value.int IntKind.u8 0, Value.int IntKind.u8 0, Value.int IntKind.u8 0, Value.int IntKind.u8 0, Value.int IntKind.u8 0, Value.int IntKind.u8 0, Value.int IntKind.u8 0] 43)).alloc (.cells #[.slice (some ⟨b, o, none⟩) 52 c] 22)) w.heap.size (w.heap.size + 1) (xs.take 52) ∧ Row ((w.alloc (.cells #[Value.int IntKind.i64 0, Value.int IntKind.i64 0, Value.int IntKind.i64 0, Value.int IntKind.u32 0, Value.int IntKind.u8 0, Value.int IntKind.u8 0, Value.int IntKind.u8 0, Value.int IntKind.u8 0, Value.int IntKind.u8 0, Value.int IntKind.u8 0, Value.int IntKind.u8 0, Value.int IntKind.u8 0, Value.int IntKind.u8 0, Value.int IntKind.u8 0, Value.int IntKind.u8 0, Value.int IntKind.u8 0, Value.int IntKind.u8 0, Value.int IntKind.u8 0, Value.int IntKind.u8 0, Value.int IntKind.u8 0, Value.int IntKind.u8 0, Value.int IntKind.u8 0, Value.int IntKind.u8 0, Value.int IntKind.u8 0, Value.int IntKind.u8 0, Value.int IntKind.u8 0, Value.int IntKind.u8 0, Value.int IntKind.u8 0, Value.int IntKind.u8 0, Value.int IntKind.u8 0, Value.int IntKind.u8 0, Value.int IntKind.u8 0, Value.int IntKind.u8 0, Value.int IntKind.u8 0, Value.int IntKind.u8 0, Value.int IntKind.u8 0] 43)).alloc (.cells #[.slice (some ⟨b, o, none⟩) 52 c] 22)) w.heap.size 43 (pcells Pt.zero) ∧ Below w.heap.size w ((w.alloc (.cells #[Value.int IntKind.i64 0, Value.int IntKind.i64 0, Value.int IntKind.i64 0, Value.int IntKind.u32 0, Value.int IntKind.u8 0, Value.int IntKind.u8 0, Value.int IntKind.u8 0, Value.int IntKind.u8 0, Value.int IntKind.u8 0, Value.int IntKind.u8 0, Value.int IntKind.u8 0, Value.int IntKind.u8 0, Value.int IntKind.u8 0, Value.int IntKind.u8 0, Value.int IntKind.u8 0, Value.int IntKind.u8 0, Value.int IntKind.u8 0, Value.int IntKind.u8 0, Value.int IntKind.u8 0, Value.int IntKind.u8 0, Value.int IntKind.u8 0, Value.int IntKind.u8 0, Value.int IntKind.u8 0, Value.int IntKind.u8 0, Value.int IntKind.u8 0, Value.int IntKind.u8 0, Value.int IntKind.u8 0, Value.int IntKind.u8 0, Value.int IntKind.u8 0, Value.int IntKind.u8 0, Value.int IntKind.u8 0, Value.int IntKind.u8 0, Value.int IntKind.u8 0, Value.int IntKind.u8 0, Value.int IntKind.u8 0, Value.int IntKind.u8 0] 43)).alloc (.cells #[.slice (some ⟨b, o, none⟩) 52 c] 22)) := by
  have b1 := zero_below w
  have b2 := b1.alloc b1.size (.cells #[.slice (some ⟨b, o, none⟩) 52 c] 22)
  have q1 := (zero_row w).old (.cells #[.slice (some ⟨b, o, none⟩) 52 c] 22)
  have r1 := Row.new (w.alloc (.cells #[Value.int IntKind.i64 0, Value.int IntKind.i64 0, Value.int IntKind.i64 0, Value.int IntKind.u32 0, Value.int IntKind.u8 0, Value.int IntKind.u8 0, Value.int IntKind.u8 0, Value.int IntKind.u8 0, Value.int IntKind.u8 0, Value.int IntKind.u8 0, Value.int IntKind.u8 0, Value.int IntKind.u8 0, Value.int IntKind.u8 0, Value.int IntKind.u8 0, Value.int IntKind.u8 0, Value.int IntKind.u8 0, Value.int IntKind.u8 0, Value.int IntKind.u8 0, Value.int IntKind.u8 0, Value.int IntKind.u8 0, Value.int IntKind.u8 0, Value.int IntKind.u8 0, Value.int IntKind.u8 0, Value.int IntKind.u8 0, Value.int IntKind.u8 0, Value.int IntKind.u8 0, Value.int IntKind.u8 0, Value.int IntKind.u8 0, Value.int IntKind.u8 0, Value.int IntKind.u8 0, Value.int IntKind.u8 0, Value.int IntKind.u8 0, Value.int IntKind.u8 0, Value.int IntKind.u8 0, Value.int IntKind.u8 0, Value.int IntKind.u8 0] 43)) 22 #[.slice (some ⟨b, o, none⟩) 52 c]
  have hz : (w.alloc (.cells #[Value.int IntKind.i64 0, Value.int IntKind.i64 0, Value.int IntKind.i64 0, Value.int IntKind.u32 0, Value.int IntKind.u8 0, Value.int IntKind.u8 0, Value.int IntKind.u8 0, Value.int IntKind.u8 0, Value.int IntKind.u8 0, Value.int IntKind.u8 0, Value.int IntKind.u8 0, Value.int IntKind.u8 0, Value.int IntKind.u8 0, Value.int IntKind.u8 0, Value.int IntKind.u8 0, Value.int IntKind.u8 0, Value.int IntKind.u8 0, Value.int IntKind.u8 0, Value.int IntKind.u8 0, Value.int IntKind.u8 0, Value.int IntKind.u8 0, Value.int IntKind.u8 0, Value.int IntKind.u8 0, Value.int IntKind.u8 0, Value.int IntKind.u8 0, Value.int IntKind.u8 0, Value.int IntKind.u8 0, Value.int IntKind.u8 0, Value.int IntKind.u8 0, Value.int IntKind.u8 0, Value.int IntKind.u8 0, Value.int IntKind.u8 0, Value.int IntKind.u8 0, Value.int IntKind.u8 0, Value.int IntKind.u8 0, Value.int IntKind.u8 0] 43)).heap.size = w.heap.size + 1 := by show (w.heap.push _).size = _; rw [Array.size_push]
  rw [hz] at r1
  refine ⟨⟨some ⟨b, o, none⟩, 52, c, r1, by rw [List.length_take]; omega, by omega, hc, fun hp => ?_⟩, q1, b2⟩
  obtain ⟨b', o', he, hb, hcell⟩ := hs (by omega)
  injection he with he
  injection he with hb' ho' _
  subst hb'; subst ho'
  refine ⟨b, o, rfl, by have := b2.size; omega, by omega, by omega, fun i hi => ?_⟩
  rw [List.length_take] at hi
  rw [List.getD_eq_getElem?_getD, List.getElem?_take, if_pos (by omega), ← List.getD_eq_getElem?_getD]
  exact (b2.cell (p := ⟨b, o + i, none⟩) hb).trans (hcell i (by omega))
theorem src_cells {w : World} {A : Option Addr} {xs : List Int} (h : Src .u8 w A xs) (hp : 0 < (cellsOf .u8 xs).length) : ∃ ad, A = some ad ∧ ∀ j v, (cellsOf .u8 xs)[j]? = some v → w.cell? (ad.add j) = some v := by
  rw [cellsOf_length] at hp
  obtain ⟨b, o, rfl, _, hcell⟩ := h hp
  refine ⟨_, rfl, fun j v hv => ?_⟩
  obtain ⟨hj, rfl⟩ := cellsOf_inv _ _ _ _ hv
  have hadd : (⟨b, o, none⟩ : Addr).add j = ⟨b, o + j, none⟩ := by unfold Addr.add; split <;> simp_all
  rw [hadd]
  exact hcell j hj
theorem num_of_drop (xs : List Int) (o k : Nat) (h : o + k ≤ 52) : ((numOf (((xs.take 52).drop o).take k) : Nat) : Int) = numAt xs o k := numAt_take xs o k 52 h

set_option maxRecDepth 100000 in
set_option maxHeartbeats 4000000 in
theorem pread_big (b o n c : Nat) (xs : List Int) (w : World) (hn : n = xs.length) (hs : Src .u8 w (some ⟨b, o, none⟩) xs) (hx : IsBytes xs) (h : 52 ≤ n) (hnc : n ≤ c) (hc : c ≤ 9223372036854775807) :
    Calls Try.prog 42 #[.slice (some ⟨b, o, none⟩) n c] w fun e w' => e = .returned (.tuple #[.agg (pcells (readPt xs)), .int .i64 (readErr xs)]) ∧ Below w.heap.size w w' := by
  have hd : decide ((n : Int) < 52) = false := by simp; omega
  have hd2 : decide (n < 52) = false := by simp; omega
  have h52 : (52 : Int) ≤ (c : Int) := by omega
  have HW := Lib.hid (rest_start w b o n c xs hn hs h hnc hc)
  have hlen : 52 ≤ xs.length := by omega
  have HL := Lib.hid hlen
  have HX := Lib.hid (hx.take 52)
  have HXX := Lib.hid hx
  have HLT := Lib.hid (show (xs.take 52).length = 52 by rw [List.length_take]; omega)
  clear hn hs h hlen hx
  go_enter Try.func42, Try.ntmps42
  go_wp2_with fail
  obtain ⟨h1, q1, b1⟩ := HW.out
  clear HW
  generalize ((w.alloc (.cells #[Value.int IntKind.i64 0, Value.int IntKind.i64 0, Value.int IntKind.i64 0, Value.int IntKind.u32 0, Value.int IntKind.u8 0, Value.int IntKind.u8 0, Value.int IntKind.u8 0, Value.int IntKind.u8 0, Value.int IntKind.u8 0, Value.int IntKind.u8 0, Value.int IntKind.u8 0, Value.int IntKind.u8 0, Value.int IntKind.u8 0, Value.int IntKind.u8 0, Value.int IntKind.u8 0, Value.int IntKind.u8 0, Value.int IntKind.u8 0, Value.int IntKind.u8 0, Value.int IntKind.u8 0, Value.int IntKind.u8 0, Value.int IntKind.u8 0, Value.int IntKind.u8 0, Value.int IntKind.u8 0, Value.int IntKind.u8 0, Value.int IntKind.u8 0, Value.int IntKind.u8 0, Value.int IntKind.u8 0, Value.int IntKind.u8 0, Value.int IntKind.u8 0, Value.int IntKind.u8 0, Value.int IntKind.u8 0, Value.int IntKind.u8 0, Value.int IntKind.u8 0, Value.int IntKind.u8 0, Value.int IntKind.u8 0, Value.int IntKind.u8 0] 43)).alloc (.cells #[.slice (some ⟨b, o, none⟩) 52 c] 22)) = w1 at *
  refine (next_any w.heap.size (w.heap.size + 1) 4 (xs.take 52) _ h1 (by omega) HX.out (by omega) (by omega) (by rw [HLT.out]; omega) (by rw [HLT.out]; omega)).mono ?_
  rintro e w2 ⟨rfl, h2', hb1⟩
  have q2' := q1.keepB hb1 (by omega)
  have b2' := b1.trans (hb1.mono (by omega))
  have hV0 : ((numOf ((xs.take 52).take 4) : Nat) : Int) = numAt xs 0 4 := num_of_drop xs 0 4 (by omega)
  rw [hV0]
  have v0 := numAt_lo xs 0 4
  have u0 := numAt_hi4 xs 0 HXX.out
  obtain ⟨V0, hN0⟩ : ∃ V, V = numAt xs 0 4 := ⟨_, rfl⟩
  rw [← hN0] at v0 u0 ⊢
  have HN0 := Lib.hid hN0
  have cc0 := q2'.cell (pcells_0 _)
  have ff0 := q2'.free 0
  clear hV0 hN0 h1 q1 b1 hb1
  go_wp2_with fail
  clear cc0 ff0 v0 u0
  have h2 := h2'.set (by omega) 0 (.int .i64 V0)
  have q2 := q2'.set 0 (.int .i64 V0)
  have b2 := b2'.setCell (p := ⟨w.heap.size, 0, none⟩) (Nat.le_refl _) (.int .i64 V0)
  rw [pset0] at q2
  generalize w2.setCell ⟨w.heap.size, 0, none⟩ (.int .i64 V0) = z2 at *
  clear h2' q2' b2'
  refine (next_any w.heap.size (w.heap.size + 1) 4 ((xs.take 52).drop 4) _ h2 (by omega) (HX.out.drop _) (by omega) (by omega) (by rw [List.length_drop, HLT.out]; omega) (by rw [List.length_drop, HLT.out]; omega)).mono ?_
  rintro e w3 ⟨rfl, h3', hb2⟩
  have q3' := q2.keepB hb2 (by omega)
  have b3' := b2.trans (hb2.mono (by omega))
  have hV1 := num_of_drop xs 4 4 (by omega)
  rw [hV1]
  have v1 := numAt_lo xs 4 4
  have u1 := numAt_hi4 xs 4 HXX.out
  obtain ⟨V1, hN1⟩ : ∃ V, V = numAt xs 4 4 := ⟨_, rfl⟩
  rw [← hN1] at v1 u1 ⊢
  have HN1 := Lib.hid hN1
  rw [List.drop_drop] at h3'
  have cc1 := q3'.cell (pcells_2 _)
  have ff1 := q3'.free 2
  clear hV1 hN1 h2 q2 b2 hb2
  go_wp2_with fail
  clear cc1 ff1 v1 u1
  have h3 := h3'.set (by omega) 2 (.int .i64 V1)
  have q3 := q3'.set 2 (.int .i64 V1)
  have b3 := b3'.setCell (p := ⟨w.heap.size, 2, none⟩) (Nat.le_refl _) (.int .i64 V1)
  rw [pset2] at q3
  generalize w3.setCell ⟨w.heap.size, 2, none⟩ (.int .i64 V1) = z3 at *
  clear h3' q3' b3'
  refine (next_any w.heap.size (w.heap.size + 1) 8 ((xs.take 52).drop 8) _ h3 (by omega) (HX.out.drop _) (by omega) (by omega) (by rw [List.length_drop, HLT.out]; omega) (by rw [List.length_drop, HLT.out]; omega)).mono ?_
  rintro e w4 ⟨rfl, h4', hb3⟩
  have q4' := q3.keepB hb3 (by omega)
  have b4' := b3.trans (hb3.mono (by omega))
  have hV2 := num_of_drop xs 8 8 (by omega)
  rw [hV2]
  have v2 := numAt_lo xs 8 8
  have u2 := numAt_hi8 xs 8 HXX.out
  obtain ⟨V2, hN2⟩ : ∃ V, V = numAt xs 8 8 := ⟨_, rfl⟩
  rw [← hN2] at v2 u2 ⊢
  have HN2 := Lib.hid hN2
  rw [List.drop_drop] at h4'
  clear v2 u2
  have cc2 := q4'.cell (pcells_1 _)
  have ff2 := q4'.free 1
  clear hV2 hN2 h3 q3 b3 hb3
  have uu2 : IntKind.i64.wrap V2 = i64w V2 := by rw [IntKind.wrap_i64]; rfl
  go_wp2_with fail
  clear cc2 ff2 uu2
  have h4 := h4'.set (by omega) 1 (.int .i64 (i64w V2))
  have q4 := q4'.set 1 (.int .i64 (i64w V2))
  have b4 := b4'.setCell (p := ⟨w.heap.size, 1, none⟩) (Nat.le_refl _) (.int .i64 (i64w V2))
  rw [pset1] at q4
  generalize w4.setCell ⟨w.heap.size, 1, none⟩ (.int .i64 (i64w V2)) = z4 at *
  clear h4' q4' b4'
  refine (next_any w.heap.size (w.heap.size + 1) 4 ((xs.take 52).drop 16) _ h4 (by omega) (HX.out.drop _) (by omega) (by omega) (by rw [List.length_drop, HLT.out]; omega) (by rw [List.length_drop, HLT.out]; omega)).mono ?_
  rintro e w5 ⟨rfl, h5', hb4⟩
  have q5' := q4.keepB hb4 (by omega)
  have b5' := b4.trans (hb4.mono (by omega))
  have hV3 := num_of_drop xs 16 4 (by omega)
  rw [hV3]
  have v3 := numAt_lo xs 16 4
  have u3 := numAt_hi4 xs 16 HXX.out
  obtain ⟨V3, hN3⟩ : ∃ V, V = numAt xs 16 4 := ⟨_, rfl⟩
  rw [← hN3] at v3 u3 ⊢
  have HN3 := Lib.hid hN3
  rw [List.drop_drop] at h5'
  have cc3 := q5'.cell (pcells_3 _)
  have ff3 := q5'.free 3
  clear hV3 hN3 h4 q4 b4 hb4
  go_wp2_with fail
  clear cc3 ff3 v3 u3
  have h5 := h5'.set (by omega) 3 (.int .u32 V3)
  have q5 := q5'.set 3 (.int .u32 V3)
  have b5 := b5'.setCell (p := ⟨w.heap.size, 3, none⟩) (Nat.le_refl _) (.int .u32 V3)
  rw [pset3] at q5
  generalize w5.setCell ⟨w.heap.size, 3, none⟩ (.int .u32 V3) = z5 at *
  clear h5' q5' b5'
  obtain ⟨A5, n5, c5, r5, hn5, hnc5, hcm5, hs5⟩ := h5
  have hyl : ((xs.take 52).drop 20).length = 32 := by rw [List.length_drop, HLT.out]
  have Hs5 : Hid (Src .u8 z5 A5 ((xs.take 52).drop 20)) := Lib.hid (fun hp => by obtain ⟨b', o', hA, hb', _, _, hcell⟩ := hs5 hp; exact ⟨b', o', hA, hb', hcell⟩)
  have HY := Lib.hid (show (xs.take 52).drop 20 = (xs.drop 20).take 32 by rw [List.drop_take])
  have HYL := Lib.hid hyl
  obtain rfl : n5 = 32 := by rw [hn5, hyl]
  clear hs5 hn5 hyl hnc5 hcm5
  have rd : ∀ x : Above z5.drew, x.1.cell? ⟨w.heap.size + 1, 0, none⟩ = some (.slice A5 32 c5) := r5.drew.above (j := 0) rfl
  have q6 := q5.drew
  have b6 := b5.drew
  clear r5 q5 b5
  refine wp_region_segsT 3 [] [0, 1, 2] (by kernel_rfl) (by kernel_rfl) ⟨by kernel_rfl, by decide⟩ (by kernel_rfl) (by kernel_rfl) (fun _ _ d _ _ h => by cases d <;> exact h) ?_
  refine wpSegsT_last (by simp [pickOps]; rfl) ?_
  repeat (go_big_quiet_step (fail))
  refine wpQuiet_nil ?_
  refine wpOp_alone rfl rfl (fun K hK => ?_)
  clear rd
  refine wp_copy_splice rfl (.tmp 30) (.tmp 31) 22 22 rfl 5 Try.underlying22 Try.size8 _ _ 32 32 32 c5 rfl rfl w.heap.size 4 (plist ⟨V0, i64w V2, V1, V3, List.replicate 32 0⟩) 43 q6 (cellsOf .u8 ((xs.take 52).drop 20)) (by rw [cellsOf_length, HYL.out]; rfl) (fun hp => ⟨rfl, src_cells (Hs5.out.keep (Ext.drew _)) hp⟩) (by rw [cellsOf_length, HYL.out]; simp [plist]) (cellsOf_one _ _) w.heap.size w b6 (Nat.le_refl _) ?_
  intro w7 hg7 b7
  refine hK _ _ ?_
  clear hK K q6 b6
  rw [show (cellsOf .u8 ((xs.take 52).drop 20)).length = 32 by rw [cellsOf_length, HYL.out]]
  have hg8 := hg7.out
  rw [psetSha _ _ (by rw [HYL.out]; rfl)] at hg8
  have q8 : Row w7 w.heap.size 43 (pcells (rawP xs)) := by rw [show rawP xs = ⟨V0, i64w V2, V1, V3, (xs.take 52).drop 20⟩ by rw [HN0.out, HN1.out, HN2.out, HN3.out, HY.out]; rfl]; exact hg8
  have HOK := Lib.hid (rawP_ok xs HXX.out HL.out)
  have HPS := Lib.hid (pt_size (rawP_sha xs HL.out))
  have HP1 := Lib.hid (pcells_one (rawP xs))
  have HRE := Lib.hid (show readErr xs = if readOk xs = true then 0 else 11 by unfold readErr; rw [if_neg (by have := HL.out; omega)])
  have HRP := Lib.hid (show readPt xs = if readOk xs = true then rawP xs else Pt.zero by unfold readPt; rw [if_neg (by have := HL.out; omega)])
  have HRO := Lib.hid (show readOk xs = ((rawP xs).none || (rawP xs).right) from rfl)
  obtain ⟨zs, hzs⟩ : ∃ zs, zs = pcells Pt.zero := ⟨_, rfl⟩
  have Hz : Hid (Try.prog.built 43 [] = some zs) := Lib.hid (by rw [hzs]; exact zero_built)
  have Hzs : Hid ((Try.prog.info? 43).map (·.size) = some zs.size) := Lib.hid (by rw [hzs]; exact pt_size rfl)
  have Hz1 : Hid (zs.all (·.oneCell') = true) := Lib.hid (by rw [hzs]; exact pcells_one Pt.zero)
  have HZS := Lib.hid hzs
  clear hzs
  clear hg7 hg8 Hs5 HN0 HN1 HN2 HN3 HY HYL HX HXX
  generalize rawP xs = rp at *
  go_wp2_with (refine wpList_load_cells rfl 43 (.tmp 2) rfl w.heap.size 0 rfl (pcells rp) _ q8.cells Try.underlying43 rfl HPS.out ?_)
  refine (none_any rp _ HOK.out).mono ?_
  rintro e w8 ⟨rfl, hb8⟩
  have q9 := q8.keep hb8
  have b8 := b7.trans (hb8.mono b7.size)
  clear q8 b7 hb8
  cases hN : rp.none with
  | true =>
    have HK := Lib.hid (show readOk xs = true by rw [HRO.out, hN]; rfl)
    have HE := Lib.hid (show readErr xs = 0 by rw [HRE.out, if_pos HK.out])
    have HQ := Lib.hid (show readPt xs = rp by rw [HRP.out, if_pos HK.out])
    clear hN
    go_wp2_with (first
      | (refine wpList_load_cells rfl 43 (.tmp 2) rfl w.heap.size 0 rfl (pcells rp) _ q9.cells Try.underlying43 rfl HPS.out ?_)
      | (refine wpList_store_row rfl 43 (.tmp 2) (.tmp 42) rfl w.heap.size (pcells rp) rfl rfl 43 (pcells rp) q9 HPS.out rfl HP1.out ?_))
    refine bodyPost_ret (v := .tuple #[.agg (pcells rp), .int .i64 0]) ?_ rfl ?_
    · exact results_cell_tmp_row Try.resultsRead _ _ w.heap.size 43 (pcells rp) (0, 0) _ rfl (q9.setRow _) Try.underlying43 rfl HPS.out
    · exact ⟨by rw [HE.out, HQ.out], below_setRow b8 (Nat.le_refl _) _⟩
  | false =>
    cases hR : rp.right with
    | true =>
      have HK := Lib.hid (show readOk xs = true by rw [HRO.out, hN, hR]; rfl)
      have HE := Lib.hid (show readErr xs = 0 by rw [HRE.out, if_pos HK.out])
      have HQ := Lib.hid (show readPt xs = rp by rw [HRP.out, if_pos HK.out])
      have HRt := Lib.hid hR
      clear hN hR
      go_wp2_with (refine wpList_load_cells_w rfl 43 (.tmp 2) rfl w.heap.size 0 rfl (pcells rp) _ q9.cells Try.underlying43 rfl HPS.out ?_)
      refine (right_any rp _ HOK.out).mono ?_
      rintro e w10 ⟨rfl, hb10⟩
      rw [HRt.out]
      have q10 := q9.keep hb10
      have b10 := b8.trans (hb10.mono b8.size)
      clear q9 b8 hb10
      go_wp2_with (first
        | (refine wpList_load_cells rfl 43 (.tmp 2) rfl w.heap.size 0 rfl (pcells rp) _ q10.cells Try.underlying43 rfl HPS.out ?_)
        | (refine wpList_store_row rfl 43 (.tmp 2) (.tmp 42) rfl w.heap.size (pcells rp) rfl rfl 43 (pcells rp) q10 HPS.out rfl HP1.out ?_))
      refine bodyPost_ret (v := .tuple #[.agg (pcells rp), .int .i64 0]) ?_ rfl ?_
      · exact results_cell_tmp_row Try.resultsRead _ _ w.heap.size 43 (pcells rp) (0, 0) _ rfl (q10.setRow _) Try.underlying43 rfl HPS.out
      · exact ⟨by rw [HE.out, HQ.out], below_setRow b10 (Nat.le_refl _) _⟩
    | false =>
      have HK := Lib.hid (show ¬ readOk xs = true by rw [HRO.out, hN, hR]; decide)
      have HE := Lib.hid (show readErr xs = 11 by rw [HRE.out, if_neg HK.out])
      have HQ := Lib.hid (show readPt xs = Pt.zero by rw [HRP.out, if_neg HK.out])
      have HRt := Lib.hid hR
      have HSZ := Lib.hid (show zs.size = (pcells rp).size from Option.some.inj (Hzs.out.symm.trans HPS.out))
      clear hN hR
      go_wp2_with (refine wpList_load_cells_w rfl 43 (.tmp 2) rfl w.heap.size 0 rfl (pcells rp) _ q9.cells Try.underlying43 rfl HPS.out ?_)
      refine (right_any rp _ HOK.out).mono ?_
      rintro e w10 ⟨rfl, hb10⟩
      rw [HRt.out]
      have q10 := q9.keep hb10
      have b10 := b8.trans (hb10.mono b8.size)
      clear q9 b8 hb10
      go_wp2_with (first
        | (refine wpList_build_eq rfl 43 #[] rfl [] (by simp) zs Hz.out ?_)
        | (refine wpList_store_row rfl 43 (.tmp 2) (.tmp 41) rfl w.heap.size zs rfl rfl 43 (pcells rp) q10 Hzs.out HSZ.out.symm Hz1.out ?_))
      refine bodyPost_ret (v := .tuple #[.agg zs, .int .i64 11]) ?_ rfl ?_
      · exact results_cell_tmp_row Try.resultsRead _ _ w.heap.size 43 zs (0, 0) _ rfl (q10.setRow _) Try.underlying43 rfl Hzs.out
      · exact ⟨by rw [HE.out, HQ.out, HZS.out], below_setRow b10 (Nat.le_refl _) _⟩
theorem pread_any (A : Option Addr) (n c : Nat) (xs : List Int) (w : World) (hn : n = xs.length) (hs : Src .u8 w A xs) (hx : IsBytes xs) (hnc : n ≤ c) (hc : c ≤ 9223372036854775807) :
    Calls Try.prog 42 #[.slice A n c] w fun e w' => e = .returned (.tuple #[.agg (pcells (readPt xs)), .int .i64 (readErr xs)]) ∧ Below w.heap.size w w' := by
  by_cases h : n < 52
  · exact read_small A n c xs w hn h
  · obtain ⟨b, o, rfl, _, _⟩ := hs (by omega)
    exact pread_big b o n c xs w hn hs hx (by omega) hnc hc
end Go.Proofs.Ytnoofmdhhlcbkaa

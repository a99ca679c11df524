/- The walk of Md5Parts: for any bytes it answers true, and writes nothing that was there. -/
import Derived.Test.YtfjkejdnbegomaaDoorMd5Text
namespace Go.Proofs.YtfjkejdnbegomaaDoor.Md5
open Go.RowKit

/-- At a round's head: k blocks are in the state. -/
def PaAt (w : World) (S : Nat) (h0 ks : List Wd) (xs : List Int) (v : Value) (wr : World) : Prop :=
  ∃ (k : Nat) (A : Option Addr) (n c : Nat), 64 * k ≤ xs.length ∧ v = .slice A n c ∧ n = xs.length - 64 * k ∧ n ≤ c ∧ c ≤ 9223372036854775807 ∧ Src .u8 w A (xs.drop (64 * k)) ∧
    Row wr S 31 (scells (blocksW ks h0 xs k) (uq (BitVec.ofNat 64 (64 * k)))) ∧ Below w.heap.size w wr

set_option maxRecDepth 100000 in
set_option maxHeartbeats 1000000 in
theorem parts_small (h0 ks : List Wd) (A : Option Addr) (n c : Nat) (xs : List Int) (w : World) (hh : h0.length = 4) (ht : Tab w h0 ks) (hks : ks.length = 64) (hn : n = xs.length) (hs0 : Src .u8 w A xs) (hx : IsBytes xs) (hl : n ≤ 4000) (hnc : n ≤ c) (hc : c ≤ 9223372036854775807) (hE : (sumW ks h0 []).getD 0 0 = 212) :
    Calls Tryd.prog 5 #[.slice A n c] w fun e w' => e = .returned (.bool true) ∧ Below w.heap.size w w' := by
  have Hh := Lib.hid hh
  have Hks := Lib.hid hks
  have Hn := Lib.hid hn
  have Hs := Lib.hid hs0
  have Ht := Lib.hid ht
  have Hx := Lib.hid hx
  have HE := Lib.hid hE
  have hd : decide ((4000 : Int) < (n : Int)) = false := by simp; omega
  clear hh hks hn hs0 ht hx hE
  go_enter Tryd.func5, Tryd.ntmps5
  go_wp2_with fail
  refine (start_any h0 ks _ Hh.out Ht.out).mono ?_
  rintro e w1 ⟨rfl, hb1⟩
  have r3 := Row.new w1 31 (scells (List.replicate 4 0#32) 0)
  have hb3 := hb1.alloc hb1.size (.cells (scells (List.replicate 4 0#32) 0) 31)
  have hS := hb1.size
  go_wp2_with (refine wpList_store_row rfl 31 (.tmp 3) (.tmp 10) rfl w1.heap.size (scells h0 0) rfl rfl 31 (scells (List.replicate 4 0#32) 0) r3 (by rw [Tryd.size31, scells_size, Hh.out]) (by rw [scells_size, scells_size, Hh.out]; rfl) (scells_one _ _) ?_; have p3 := r3.setRow (scells h0 0); have pb := below_setRow hb3 (b := w1.heap.size) (by omega) (scells h0 0); clear r3 hb1 hb3)
  rw [show #[Value.int IntKind.u32 0, Value.int IntKind.u32 0, Value.int IntKind.u32 0, Value.int IntKind.u32 0, Value.int IntKind.u64 0] = scells (List.replicate 4 0#32) 0 from rfl]
  generalize (w1.alloc (.cells (scells (List.replicate 4 0#32) 0) 31)).setRow w1.heap.size (scells h0 0) = w2 at *
  generalize w1.heap.size = S at *
  go_loopw [4] (fun v wr => PaAt w S h0 ks xs v wr) (fun v _ => lenOfV v)
  case atStart => exact ⟨0, A, n, c, by omega, rfl, by rw [Nat.mul_zero, Nat.sub_zero]; exact Hn.out, hnc, hc, Hs.out, p3, pb⟩
  case round =>
    clear p3 pb
    obtain ⟨k, A1, n1, c1, hk, rfl, hn1, hnc1, hc1, hs1, r2, hb⟩ := hrel
    have HN := Lib.hid hn1
    have HK := Lib.hid hk
    by_cases hlt : 64 ≤ n1
    · have hd : decide ((64 : Int) ≤ (n1 : Int)) = true := by simp; omega
      have hc3 : (64 : Int) ≤ (c1 : Int) := by omega
      have HLy := Lib.hid (show ((xs.drop (64 * k)).take 64).length = 64 by rw [List.length_take, List.length_drop]; omega)
      have Hsd := Lib.hid (hs1.drop 64 c1 (by rw [List.length_drop]; omega) (by rw [List.length_drop]; omega))
      have Hby := Lib.hid ((Hx.out.drop (64 * k)).take 64)
      have HB := Lib.hid (show blocksW ks h0 xs (k + 1) = blockW ks (blocksW ks h0 xs k) ((xs.drop (64 * k)).take 64) from rfl)
      have H8 := Lib.hid (blocksW_length ks h0 xs Hh.out k)
      have HD := Lib.hid (show (xs.drop (64 * k)).drop 64 = xs.drop (64 * (k + 1)) by rw [List.drop_drop, show 64 * k + 64 = 64 * (k + 1) by omega])
      rw [HD.out] at Hsd
      obtain ⟨b, o, rfl, hbl, hcell⟩ := (hs1.take 64) (by rw [HLy.out]; omega)
      have HC := Lib.hid ((src_cells hcell).keep hb hbl)
      clear hn1 hk hs1 hcell
      generalize (xs.drop (64 * k)).take 64 = ys at *
      generalize blocksW ks h0 xs k = hs at *
      have hsz := hb.size
      go_wp2_with fail
      refine wp_region_segsT 6 [([1, 2, 0], 3), ([4], 5)] [] (by kernel_rfl) (by kernel_rfl) ⟨by kernel_rfl, by decide⟩ (by kernel_rfl) (by kernel_rfl) (fun _ _ d _ _ h => by cases d <;> exact h) ?_
      refine wpSegsT_next (by simp [pickOps]; rfl) ?_
      repeat (go_big_quiet_step (fail))
      refine wpQuiet_load_cells rfl 31 (.tmp 3) rfl S 0 rfl (scells hs (uq (BitVec.ofNat 64 (64 * k)))) _ r2.drew.cells r2.lt Tryd.underlying31 rfl (by rw [Tryd.size31, scells_size, H8.out]) ?_
      refine wpQuiet_nil ?_
      refine wpOp_alone rfl rfl (fun K hK => ?_)
      go_simp
      refine hK _ _ ⟨Ext.refl _, ?_⟩
      clear hK K
      refine wpSegsT_next (by simp [pickOps]; rfl) ?_
      refine wpQuiet_load_cells rfl 32 (.tmp 18) rfl b o rfl (bcells ys) _ HC.out (by show b < wr.heap.size; omega) Tryd.underlying32 rfl (by rw [Tryd.size32, bcells_size, HLy.out]) ?_
      refine wpQuiet_nil ?_
      refine wpOp_alone rfl rfl (fun K hK => ?_)
      go_simp
      refine (block_any h0 ks hs _ ys _ H8.out HLy.out Hby.out (Ht.out.keep hb.drew) Hks.out).mono ?_
      rintro e w5 ⟨rfl, hb5⟩
      refine hK _ _ ⟨hb5, ?_⟩
      clear hK K
      rw [bytes_next]
      have p2 := r2.drew.keep hb5
      have pb := hb.drew.trans (hb5.mono hb.size)
      have HB8 := Lib.hid (blocksW_length ks h0 xs Hh.out (k + 1))
      rw [← HB.out]
      generalize eH : blocksW ks h0 xs (k + 1) = hs1 at *
      have EH := Lib.hid eH
      clear eH r2 hb hb5 HB
      refine wpSegsT_last (by simp [pickOps]; rfl) ?_
      refine wpQuiet_nil ?_
      refine wpOp_alone rfl rfl (fun K hK => ?_)
      refine wp_store_row 31 (.tmp 3) (.tmp 20) rfl S (scells hs1 (uq (BitVec.ofNat 64 (64 * (k + 1))))) rfl rfl 31 (scells hs (uq (BitVec.ofNat 64 (64 * k)))) p2 (by rw [Tryd.size31, scells_size, HB8.out]) (by rw [scells_size, scells_size, HB8.out, H8.out]) (scells_one _ _) (hK _ _ ?_)
      clear hK K
      have q2 := p2.setRow (scells hs1 (uq (BitVec.ofNat 64 (64 * (k + 1)))))
      have qb := below_setRow pb (b := S) hS (scells hs1 (uq (BitVec.ofNat 64 (64 * (k + 1)))))
      clear p2 pb
      generalize w5.setRow S (scells hs1 (uq (BitVec.ofNat 64 (64 * (k + 1))))) = w6 at *
      go_wp2_with (refine wpList_slice_from rfl 22 5 (.tmp 21) 64 64 rfl rfl Tryd.underlying22 Tryd.one5 (some ⟨b, o, none⟩) n1 c1 rfl hlt ?_)
      refine ⟨⟨k + 1, fromA (some ⟨b, o, none⟩) c1 64, n1 - 64, c1 - 64, by have := HN.out; omega, rfl, by have := HN.out; omega, by omega, by omega, Hsd.out, by rw [EH.out]; exact q2, qb⟩, ?_⟩
      simp only [lenOfV]
      omega
    · have hd : decide ((64 : Int) ≤ (n1 : Int)) = false := by simp; omega
      have H8 := Lib.hid (blocksW_length ks h0 xs Hh.out k)
      have HW := Lib.hid (show endW ks (blocksW ks h0 xs k) (BitVec.ofNat 64 (64 * k)) (xs.drop (64 * k)) = sumW ks h0 xs by
        unfold sumW
        rw [show xs.length / 64 = k by omega])
      have HL := Lib.hid (show n1 = (xs.drop (64 * k)).length by rw [List.length_drop]; exact hn1)
      have H63 := Lib.hid (show (xs.drop (64 * k)).length ≤ 63 by rw [List.length_drop]; omega)
      have H9 := Lib.hid (sumW_length ks h0 xs)
      have HS1 := Lib.hid hs1
      have c8 := r2.cell (scells_last _ _ 4 H8.out)
      have hu : uq (BitVec.ofNat 64 (64 * k)) = ((n : Int) - (n1 : Int)) := by
        unfold uq
        rw [BitVec.toNat_ofNat]
        have := Hn.out
        omega
      rw [hu] at c8
      have hnn : n1 ≤ n := by have := Hn.out; omega
      clear hn1 hk hs1 hu
      go_wp2_with (refine wpList_load_cells_w (by rfl) 31 (.tmp 3) rfl S 0 rfl (scells (blocksW ks h0 xs k) (uq (BitVec.ofNat 64 (64 * k)))) _ r2.cells Tryd.underlying31 rfl (by rw [Tryd.size31, scells_size, H8.out]) ?_)
      refine (end_any h0 ks _ _ A1 n1 c1 (xs.drop (64 * k)) _ H8.out (Ht.out.keep hb) Hks.out HL.out (HS1.out.keep hb) (Hx.out.drop _) H63.out).mono ?_
      rintro e w5 ⟨rfl, hb5⟩
      have pb := hb.trans (hb5.mono hb.size)
      clear r2 hb hb5 c8
      rw [HW.out]
      go_wp2_with fail
      refine (sum_any h0 ks A n c xs _ Hh.out (Ht.out.keep pb) Hks.out Hn.out (Hs.out.keep pb) Hx.out hnc hc).mono ?_
      rintro e w6 ⟨rfl, hb6⟩
      have qb := pb.trans (hb6.mono pb.size)
      clear pb hb6
      have heq := fun w' => eql_sums w' (sumW ks h0 xs) H9.out
      generalize eO : sumW ks h0 xs = out at *
      have EO := Lib.hid eO
      clear eO
      go_wp2_with fail
      clear heq
      refine (text_any h0 ks A n c xs _ Hh.out (Ht.out.keep qb) Hks.out Hn.out (Hs.out.keep qb) Hx.out hnc hc).mono ?_
      rintro e w7 ⟨rfl, hb7⟩
      have pb := qb.trans (hb7.mono qb.size)
      clear qb hb7
      have hsz : (strOfNums (textW (sumW ks h0 xs))).size = 32 := by rw [size_nums, textW_length, sumW_length]
      generalize strOfNums (textW (sumW ks h0 xs)) = txt at *
      go_wp2_with fail
      refine (sum_any h0 ks none 0 0 [] _ Hh.out (Ht.out.keep pb) Hks.out rfl Src.none_ IsBytes.nil (Nat.le_refl _) (by omega)).mono ?_
      rintro e w8 ⟨rfl, hb8⟩
      have qb := pb.trans (hb8.mono pb.size)
      clear pb hb8
      have i0 : ∀ w', (Instr.index 23 (.agg (bcells (sumW ks h0 []))) (.int .i64 0)).run Tryd.prog w' = .ok (.int .u8 212) w' := fun w' => by
        rw [← HE.out]
        exact run_index_array (P := Tryd.prog) w' 23 5 16 _ (bcells (sumW ks h0 [])) 0 _ Tryd.underlying23 Tryd.underlying5 rfl Tryd.one5 (by omega) (bcells_at _ 0 (by rw [sumW_length]; omega))
      generalize bcells (sumW ks h0 []) = cs at *
      go_wp2_with fail
      go_ret
      exact ⟨rfl, qb⟩
set_option maxRecDepth 100000 in
set_option maxHeartbeats 1000000 in
theorem parts_big (h0 ks : List Wd) (b0 o0 m c : Nat) (xs : List Int) (w : World) (hh : h0.length = 4) (ht : Tab w h0 ks) (hks : ks.length = 64) (hn : 4000 = xs.length) (hs0 : Src .u8 w (some ⟨b0, o0, none⟩) xs) (hx : IsBytes xs) (hm : 4000 < m) (hmc : m ≤ c) (hc : c ≤ 9223372036854775807) (hE : (sumW ks h0 []).getD 0 0 = 212) :
    Calls Tryd.prog 5 #[.slice (some ⟨b0, o0, none⟩) m c] w fun e w' => e = .returned (.bool true) ∧ Below w.heap.size w w' := by
  have Hh := Lib.hid hh
  have Hks := Lib.hid hks
  have Hn := Lib.hid hn
  have Hs := Lib.hid hs0
  have Ht := Lib.hid ht
  have Hx := Lib.hid hx
  have HE := Lib.hid hE
  have hd : decide ((4000 : Int) < (m : Int)) = true := by simp; omega
  have hc4 : (4000 : Int) ≤ (c : Int) := by omega
  have hnc : 4000 ≤ c := by omega
  clear hh hks hn hs0 ht hx hE hm hmc
  go_enter Tryd.func5, Tryd.ntmps5
  go_wp2_with fail
  refine (start_any h0 ks _ Hh.out Ht.out).mono ?_
  rintro e w1 ⟨rfl, hb1⟩
  have r3 := Row.new w1 31 (scells (List.replicate 4 0#32) 0)
  have hb3 := hb1.alloc hb1.size (.cells (scells (List.replicate 4 0#32) 0) 31)
  have hS := hb1.size
  go_wp2_with (refine wpList_store_row rfl 31 (.tmp 3) (.tmp 10) rfl w1.heap.size (scells h0 0) rfl rfl 31 (scells (List.replicate 4 0#32) 0) r3 (by rw [Tryd.size31, scells_size, Hh.out]) (by rw [scells_size, scells_size, Hh.out]; rfl) (scells_one _ _) ?_; have p3 := r3.setRow (scells h0 0); have pb := below_setRow hb3 (b := w1.heap.size) (by omega) (scells h0 0); clear r3 hb1 hb3)
  rw [show #[Value.int IntKind.u32 0, Value.int IntKind.u32 0, Value.int IntKind.u32 0, Value.int IntKind.u32 0, Value.int IntKind.u64 0] = scells (List.replicate 4 0#32) 0 from rfl]
  generalize (w1.alloc (.cells (scells (List.replicate 4 0#32) 0) 31)).setRow w1.heap.size (scells h0 0) = w2 at *
  generalize w1.heap.size = S at *
  go_loopw [4] (fun v wr => PaAt w S h0 ks xs v wr) (fun v _ => lenOfV v)
  case atStart => exact ⟨0, (some ⟨b0, o0, none⟩), 4000, c, by omega, rfl, by rw [Nat.mul_zero, Nat.sub_zero]; exact Hn.out, hnc, hc, Hs.out, p3, pb⟩
  case round =>
    clear p3 pb
    obtain ⟨k, A1, n1, c1, hk, rfl, hn1, hnc1, hc1, hs1, r2, hb⟩ := hrel
    have HN := Lib.hid hn1
    have HK := Lib.hid hk
    by_cases hlt : 64 ≤ n1
    · have hd : decide ((64 : Int) ≤ (n1 : Int)) = true := by simp; omega
      have hc3 : (64 : Int) ≤ (c1 : Int) := by omega
      have HLy := Lib.hid (show ((xs.drop (64 * k)).take 64).length = 64 by rw [List.length_take, List.length_drop]; omega)
      have Hsd := Lib.hid (hs1.drop 64 c1 (by rw [List.length_drop]; omega) (by rw [List.length_drop]; omega))
      have Hby := Lib.hid ((Hx.out.drop (64 * k)).take 64)
      have HB := Lib.hid (show blocksW ks h0 xs (k + 1) = blockW ks (blocksW ks h0 xs k) ((xs.drop (64 * k)).take 64) from rfl)
      have H8 := Lib.hid (blocksW_length ks h0 xs Hh.out k)
      have HD := Lib.hid (show (xs.drop (64 * k)).drop 64 = xs.drop (64 * (k + 1)) by rw [List.drop_drop, show 64 * k + 64 = 64 * (k + 1) by omega])
      rw [HD.out] at Hsd
      obtain ⟨b, o, rfl, hbl, hcell⟩ := (hs1.take 64) (by rw [HLy.out]; omega)
      have HC := Lib.hid ((src_cells hcell).keep hb hbl)
      clear hn1 hk hs1 hcell
      generalize (xs.drop (64 * k)).take 64 = ys at *
      generalize blocksW ks h0 xs k = hs at *
      have hsz := hb.size
      go_wp2_with fail
      refine wp_region_segsT 6 [([1, 2, 0], 3), ([4], 5)] [] (by kernel_rfl) (by kernel_rfl) ⟨by kernel_rfl, by decide⟩ (by kernel_rfl) (by kernel_rfl) (fun _ _ d _ _ h => by cases d <;> exact h) ?_
      refine wpSegsT_next (by simp [pickOps]; rfl) ?_
      repeat (go_big_quiet_step (fail))
      refine wpQuiet_load_cells rfl 31 (.tmp 3) rfl S 0 rfl (scells hs (uq (BitVec.ofNat 64 (64 * k)))) _ r2.drew.cells r2.lt Tryd.underlying31 rfl (by rw [Tryd.size31, scells_size, H8.out]) ?_
      refine wpQuiet_nil ?_
      refine wpOp_alone rfl rfl (fun K hK => ?_)
      go_simp
      refine hK _ _ ⟨Ext.refl _, ?_⟩
      clear hK K
      refine wpSegsT_next (by simp [pickOps]; rfl) ?_
      refine wpQuiet_load_cells rfl 32 (.tmp 18) rfl b o rfl (bcells ys) _ HC.out (by show b < wr.heap.size; omega) Tryd.underlying32 rfl (by rw [Tryd.size32, bcells_size, HLy.out]) ?_
      refine wpQuiet_nil ?_
      refine wpOp_alone rfl rfl (fun K hK => ?_)
      go_simp
      refine (block_any h0 ks hs _ ys _ H8.out HLy.out Hby.out (Ht.out.keep hb.drew) Hks.out).mono ?_
      rintro e w5 ⟨rfl, hb5⟩
      refine hK _ _ ⟨hb5, ?_⟩
      clear hK K
      rw [bytes_next]
      have p2 := r2.drew.keep hb5
      have pb := hb.drew.trans (hb5.mono hb.size)
      have HB8 := Lib.hid (blocksW_length ks h0 xs Hh.out (k + 1))
      rw [← HB.out]
      generalize eH : blocksW ks h0 xs (k + 1) = hs1 at *
      have EH := Lib.hid eH
      clear eH r2 hb hb5 HB
      refine wpSegsT_last (by simp [pickOps]; rfl) ?_
      refine wpQuiet_nil ?_
      refine wpOp_alone rfl rfl (fun K hK => ?_)
      refine wp_store_row 31 (.tmp 3) (.tmp 20) rfl S (scells hs1 (uq (BitVec.ofNat 64 (64 * (k + 1))))) rfl rfl 31 (scells hs (uq (BitVec.ofNat 64 (64 * k)))) p2 (by rw [Tryd.size31, scells_size, HB8.out]) (by rw [scells_size, scells_size, HB8.out, H8.out]) (scells_one _ _) (hK _ _ ?_)
      clear hK K
      have q2 := p2.setRow (scells hs1 (uq (BitVec.ofNat 64 (64 * (k + 1)))))
      have qb := below_setRow pb (b := S) hS (scells hs1 (uq (BitVec.ofNat 64 (64 * (k + 1)))))
      clear p2 pb
      generalize w5.setRow S (scells hs1 (uq (BitVec.ofNat 64 (64 * (k + 1))))) = w6 at *
      go_wp2_with (refine wpList_slice_from rfl 22 5 (.tmp 21) 64 64 rfl rfl Tryd.underlying22 Tryd.one5 (some ⟨b, o, none⟩) n1 c1 rfl hlt ?_)
      refine ⟨⟨k + 1, fromA (some ⟨b, o, none⟩) c1 64, n1 - 64, c1 - 64, by have := HN.out; omega, rfl, by have := HN.out; omega, by omega, by omega, Hsd.out, by rw [EH.out]; exact q2, qb⟩, ?_⟩
      simp only [lenOfV]
      omega
    · have hd : decide ((64 : Int) ≤ (n1 : Int)) = false := by simp; omega
      have H8 := Lib.hid (blocksW_length ks h0 xs Hh.out k)
      have HW := Lib.hid (show endW ks (blocksW ks h0 xs k) (BitVec.ofNat 64 (64 * k)) (xs.drop (64 * k)) = sumW ks h0 xs by
        unfold sumW
        rw [show xs.length / 64 = k by omega])
      have HL := Lib.hid (show n1 = (xs.drop (64 * k)).length by rw [List.length_drop]; exact hn1)
      have H63 := Lib.hid (show (xs.drop (64 * k)).length ≤ 63 by rw [List.length_drop]; omega)
      have H9 := Lib.hid (sumW_length ks h0 xs)
      have HS1 := Lib.hid hs1
      have c8 := r2.cell (scells_last _ _ 4 H8.out)
      have hu : uq (BitVec.ofNat 64 (64 * k)) = ((4000 : Int) - (n1 : Int)) := by
        unfold uq
        rw [BitVec.toNat_ofNat]
        have := Hn.out
        omega
      rw [hu] at c8
      have hnn : n1 ≤ 4000 := by have := Hn.out; omega
      clear hn1 hk hs1 hu
      go_wp2_with (refine wpList_load_cells_w (by rfl) 31 (.tmp 3) rfl S 0 rfl (scells (blocksW ks h0 xs k) (uq (BitVec.ofNat 64 (64 * k)))) _ r2.cells Tryd.underlying31 rfl (by rw [Tryd.size31, scells_size, H8.out]) ?_)
      refine (end_any h0 ks _ _ A1 n1 c1 (xs.drop (64 * k)) _ H8.out (Ht.out.keep hb) Hks.out HL.out (HS1.out.keep hb) (Hx.out.drop _) H63.out).mono ?_
      rintro e w5 ⟨rfl, hb5⟩
      have pb := hb.trans (hb5.mono hb.size)
      clear r2 hb hb5 c8
      rw [HW.out]
      go_wp2_with fail
      refine (sum_any h0 ks (some ⟨b0, o0, none⟩) 4000 c xs _ Hh.out (Ht.out.keep pb) Hks.out Hn.out (Hs.out.keep pb) Hx.out hnc hc).mono ?_
      rintro e w6 ⟨rfl, hb6⟩
      have qb := pb.trans (hb6.mono pb.size)
      clear pb hb6
      have heq := fun w' => eql_sums w' (sumW ks h0 xs) H9.out
      generalize eO : sumW ks h0 xs = out at *
      have EO := Lib.hid eO
      clear eO
      go_wp2_with fail
      clear heq
      refine (text_any h0 ks (some ⟨b0, o0, none⟩) 4000 c xs _ Hh.out (Ht.out.keep qb) Hks.out Hn.out (Hs.out.keep qb) Hx.out hnc hc).mono ?_
      rintro e w7 ⟨rfl, hb7⟩
      have pb := qb.trans (hb7.mono qb.size)
      clear qb hb7
      have hsz : (strOfNums (textW (sumW ks h0 xs))).size = 32 := by rw [size_nums, textW_length, sumW_length]
      generalize strOfNums (textW (sumW ks h0 xs)) = txt at *
      go_wp2_with fail
      refine (sum_any h0 ks none 0 0 [] _ Hh.out (Ht.out.keep pb) Hks.out rfl Src.none_ IsBytes.nil (Nat.le_refl _) (by omega)).mono ?_
      rintro e w8 ⟨rfl, hb8⟩
      have qb := pb.trans (hb8.mono pb.size)
      clear pb hb8
      have i0 : ∀ w', (Instr.index 23 (.agg (bcells (sumW ks h0 []))) (.int .i64 0)).run Tryd.prog w' = .ok (.int .u8 212) w' := fun w' => by
        rw [← HE.out]
        exact run_index_array (P := Tryd.prog) w' 23 5 16 _ (bcells (sumW ks h0 [])) 0 _ Tryd.underlying23 Tryd.underlying5 rfl Tryd.one5 (by omega) (bcells_at _ 0 (by rw [sumW_length]; omega))
      generalize bcells (sumW ks h0 []) = cs at *
      go_wp2_with fail
      go_ret
      exact ⟨rfl, qb⟩
end Go.Proofs.YtfjkejdnbegomaaDoor.Md5

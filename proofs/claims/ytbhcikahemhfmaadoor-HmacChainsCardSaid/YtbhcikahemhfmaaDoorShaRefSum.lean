/- What the laws over the sum share. ShaBlocks' walk: any state, any block and any rest: the program's answers are the document's. | The document's Sum: the plain reckoning's, for any bytes. -/
import Derived.Test.YtbhcikahemhfmaaDoorShaRefTabs
import Derived.Test.YtbhcikahemhfmaaDoorShaRefEnd

namespace Go.Proofs.YtbhcikahemhfmaaDoor.Sha3
open Go.RowKit

/-- What is asked of the constants and of the first state. -/
def KeysTell (ks : List Wd) : Prop := ∀ w : World, Calls Tryd.prog 24 #[] w fun e w' => e = .returned (.agg (wcells ks)) ∧ Below w.heap.size w w'
def BeginTells (h0 : List Wd) : Prop := ∀ w : World, Calls Tryd.prog 25 #[] w fun e w' => e = .returned (.agg (scells h0 0)) ∧ Below w.heap.size w w'
theorem rend_any (ks hs : List Wd) (q : Qd) (A : Option Addr) (n c : Nat) (xs : List Int) (w : World) (hh : hs.length = 8) (hks : ks.length = 64) (hs0 : Src .u8 w A xs) (hx : IsBytes xs) (hn : n = xs.length) (hnc : n ≤ c) (hc : c ≤ 9223372036854775807) :
    Calls Tryd.prog 27 #[.agg (scells hs (uq q)), .slice A n c, .agg (wcells ks)] w fun e w' => e = .returned (.agg (bcells (endW ks hs q (xs.take 63)))) ∧ Below w.heap.size w w' := by
  by_cases h : n ≤ 63
  · rw [List.take_of_length_le (by omega)]
    obtain ⟨J, m, hT, hm, ho⟩ := end_blocks ks hs q xs (by omega)
    exact rend_short ks hs q A n c xs _ J m w hh hks hs0 hx hn (by omega) hT hm ho
  · have hs1 := hs0
    obtain ⟨b, o, rfl, _, _⟩ := hs1 (by omega)
    have hl : 63 = (xs.take 63).length := by rw [List.length_take]; omega
    obtain ⟨J, m, hT, hm, ho⟩ := end_blocks ks hs q (xs.take 63) (by omega)
    exact rend_long ks hs q b o n c (xs.take 63) _ J m w hh hks (hs0.take 63) (hx.take 63) hl (by omega) hnc hc hT hm ho
theorem end_all (h0 ks hs : List Wd) (q : Qd) (A : Option Addr) (n c : Nat) (xs : List Int) (w : World) (hh : hs.length = 8) (ht : Tab w h0 ks) (hks : ks.length = 64) (hs0 : Src .u8 w A xs) (hx : IsBytes xs) (hn : n = xs.length) (hnc : n ≤ c) (hc : c ≤ 9223372036854775807) :
    Calls Tryd.prog 23 #[.agg (scells hs (uq q)), .slice A n c] w fun e w' => e = .returned (.agg (bcells (endW ks hs q (xs.take 63)))) ∧ Below w.heap.size w w' := by
  by_cases h : n ≤ 63
  · rw [List.take_of_length_le (by omega)]
    exact end_any h0 ks hs q A n c xs w hh ht hks hn hs0 hx (by omega)
  · have hs1 := hs0
    obtain ⟨b, o, rfl, _, _⟩ := hs1 (by omega)
    exact end_long h0 ks hs q b o n c (xs.take 63) w hh ht hks (hs0.take 63) (hx.take 63) (by rw [List.length_take]; omega) (by omega) hnc hc
end Go.Proofs.YtbhcikahemhfmaaDoor.Sha3

namespace Go.Proofs.YtbhcikahemhfmaaDoor.Sha3
open Go.RowKit

def RsAt (w : World) (G S : Nat) (h0 ks : List Wd) (xs : List Int) (v : Value) (wr : World) : Prop :=
  ∃ (k : Nat) (A : Option Addr) (n c : Nat), 64 * k ≤ xs.length ∧ v = .slice A n c ∧ n = xs.length - 64 * k ∧ n ≤ c ∧ c ≤ 9223372036854775807 ∧ Src .u8 w A (xs.drop (64 * k)) ∧ Row wr w.heap.size 23 (bcells (List.replicate 32 0)) ∧
    Row wr G 45 (wcells ks) ∧ Row wr S 47 (scells (blocksW ks h0 xs k) (uq (BitVec.ofNat 64 (64 * k)))) ∧ Below w.heap.size w wr
set_option maxRecDepth 100000 in
set_option maxHeartbeats 2000000 in
theorem rsum_any (h0 ks : List Wd) (A : Option Addr) (n c : Nat) (xs : List Int) (w : World) (hk : KeysTell ks) (hbg : BeginTells h0) (hh : h0.length = 8) (hks : ks.length = 64) (hn : n = xs.length) (hs0 : Src .u8 w A xs) (hx : IsBytes xs) (hnc : n ≤ c) (hc : c ≤ 9223372036854775807) :
    Calls Tryd.prog 15 #[.slice A n c] w fun e w' => e = .returned (.agg (bcells (sumW ks h0 xs))) ∧ Below w.heap.size w w' := by
  have Hk := Lib.hid hk
  have Hbg := Lib.hid hbg
  have Hh := Lib.hid hh
  have Hks := Lib.hid hks
  have Hn := Lib.hid hn
  have Hs := Lib.hid hs0
  have Hx := Lib.hid hx
  have r0 := Row.new w 23 (bcells (List.replicate 32 0))
  have hb0 : Below w.heap.size w (w.alloc (.cells (bcells (List.replicate 32 0)) 23)) := (Below.refl _ _).alloc (Nat.le_refl _) _
  clear hk hbg hh hks hn hs0 hx
  go_enter Tryd.func15, Tryd.ntmps15
  go_wp2_with fail
  refine (Hk.out _).mono ?_
  rintro e w1 ⟨rfl, hb1⟩
  have q1 := (r0.keep hb1).old (.cells (wcells (List.replicate 64 0#32)) 45)
  have hb2 := hb0.trans (hb1.mono hb0.size)
  have hlt := (r0.keep hb1).lt
  have q2 := Row.new w1 45 (wcells (List.replicate 64 0#32))
  have qb := hb2.alloc hb2.size (.cells (wcells (List.replicate 64 0#32)) 45)
  clear r0 hb0 hb1 hb2
  go_wp2_with (refine wpList_store_row rfl 45 (.tmp 3) (.tmp 5) rfl w1.heap.size (wcells ks) rfl rfl 45 (wcells (List.replicate 64 0#32)) q2 (by rw [Tryd.size33, wcells_size, Hks.out]) (by rw [wcells_size, wcells_size, Hks.out, List.length_replicate]) (wcells_one _) ?_; have p2 := q2.setRow (wcells ks); have p1 := q1.otherRow (b := w1.heap.size) (by omega) (wcells ks); have pb := below_setRow qb (b := w1.heap.size) (by omega) (wcells ks); clear q1 q2 qb)
  refine (Hbg.out _).mono ?_
  rintro e w2 ⟨rfl, hb2⟩
  have r1 := p1.keep hb2
  have r2 := p2.keep hb2
  have hb := pb.trans (hb2.mono pb.size)
  clear p1 p2 pb hb2
  generalize w1.heap.size = G at *
  have hG := r2.lt
  have q1 := r1.old (.cells (scells (List.replicate 8 0#32) 0) 47)
  have q2 := r2.old (.cells (scells (List.replicate 8 0#32) 0) 47)
  have q3 := Row.new w2 47 (scells (List.replicate 8 0#32) 0)
  have qb := hb.alloc hb.size (.cells (scells (List.replicate 8 0#32) 0) 47)
  have hsz := r1.lt
  clear r1 r2 hb
  go_wp2_with (refine wpList_store_row rfl 47 (.tmp 4) (.tmp 6) rfl w2.heap.size (scells h0 0) rfl rfl 47 (scells (List.replicate 8 0#32) 0) q3 (by rw [Tryd.size35, scells_size, Hh.out]) (by rw [scells_size, scells_size, Hh.out]; rfl) (scells_one _ _) ?_; have p3 := q3.setRow (scells h0 0); have p1 := q1.otherRow (b := w2.heap.size) (by omega) (scells h0 0); have p2 := q2.otherRow (b := w2.heap.size) (by omega) (scells h0 0); have pb := below_setRow qb (b := w2.heap.size) (by omega) (scells h0 0); clear q1 q2 q3 qb)
  rw [put_none, show #[Value.int IntKind.u32 0, Value.int IntKind.u32 0, Value.int IntKind.u32 0, Value.int IntKind.u32 0, Value.int IntKind.u32 0, Value.int IntKind.u32 0, Value.int IntKind.u32 0, Value.int IntKind.u32 0, Value.int IntKind.u64 0] = scells (List.replicate 8 0#32) 0 from rfl]
  generalize (w2.alloc (.cells (scells (List.replicate 8 0#32) 0) 47)).setRow w2.heap.size (scells h0 0) = w3 at *
  generalize w2.heap.size = S at *
  go_loopw [0] (fun v wr => RsAt w G S h0 ks xs v wr) (fun v _ => lenOfV v)
  case atStart => exact ⟨0, A, n, c, by omega, rfl, by rw [Nat.mul_zero, Nat.sub_zero]; exact Hn.out, hnc, hc, Hs.out, p1, p2, p3, pb⟩
  case round =>
    clear p1 p2 p3 pb
    obtain ⟨k, A1, n1, c1, hk, rfl, hn1, hnc1, hc1, hs1, r1, r2, r3, hb⟩ := hrel
    have HN := Lib.hid hn1
    have HK := Lib.hid hk
    by_cases hlt64 : 64 ≤ n1
    · have hd : decide ((64 : Int) ≤ (n1 : Int)) = true := by simp; omega
      have HLy := Lib.hid (show ((xs.drop (64 * k)).take 64).length = 64 by rw [List.length_take, List.length_drop]; omega)
      have Hsd := Lib.hid (hs1.drop 64 c1 (by rw [List.length_drop]; omega) (by rw [List.length_drop]; omega))
      have Hby := Lib.hid ((Hx.out.drop (64 * k)).take 64)
      have HB := Lib.hid (show blocksW ks h0 xs (k + 1) = blockW ks (blocksW ks h0 xs k) ((xs.drop (64 * k)).take 64) from rfl)
      have H8 := Lib.hid (blocksW_length ks h0 xs Hh.out k)
      have HD := Lib.hid (show (xs.drop (64 * k)).drop 64 = xs.drop (64 * (k + 1)) by rw [List.drop_drop, show 64 * k + 64 = 64 * (k + 1) by omega])
      rw [HD.out] at Hsd
      obtain ⟨b, o, rfl, hbl, hcell⟩ := (hs1.take 64) (by rw [HLy.out]; omega)
      have HC := Lib.hid (fun (i : Nat) (hi : i < 64) => ((hb.cell (p := ⟨b, o + i, none⟩) hbl).trans (hcell i (by rw [HLy.out]; exact hi))))
      clear hn1 hk hs1 hcell
      generalize (xs.drop (64 * k)).take 64 = ys at *
      generalize blocksW ks h0 xs k = hs at *
      have hsize := hb.size
      have g1 : (64 : Int) ≤ (c1 : Int) := by omega
      have g2 : (c1 : Int) ≤ 9223372036854775807 := by omega
      go_wp2_with fail
      refine wp_region_segsT 5 [([1, 2, 0, 3], 4)] [] (by kernel_rfl) (by kernel_rfl) ⟨by kernel_rfl, by decide⟩ (by kernel_rfl) (by kernel_rfl) (fun _ _ d _ _ h => by cases d <;> exact h) ?_
      refine wpSegsT_next (by simp [pickOps]; rfl) ?_
      repeat (go_big_quiet_step (fail))
      refine wpQuiet_load_cells rfl 47 (.tmp 4) rfl S 0 rfl (scells hs (uq (BitVec.ofNat 64 (64 * k)))) _ r3.drew.cells r3.lt Tryd.underlying47 rfl (by rw [Tryd.size35, scells_size, H8.out]) ?_
      refine wpQuiet_load_cells rfl 45 (.tmp 3) rfl G 0 rfl (wcells ks) _ r2.drew.cells r2.lt Tryd.underlying45 rfl (by rw [Tryd.size33, wcells_size, Hks.out]) ?_
      refine wpQuiet_nil ?_
      refine wpOp_alone rfl rfl (fun K hK => ?_)
      go_simp
      refine (rblock_any ks hs _ b o c1 ys wr.drew H8.out HLy.out Hby.out (by show b < wr.heap.size; omega) (fun i hi => HC.out i hi) Hks.out).mono ?_
      rintro e w5 ⟨rfl, hb5⟩
      refine hK _ _ ⟨hb5, ?_⟩
      clear hK K
      rw [bytes_next]
      have a1 := r1.drew.keep hb5
      have a2 := r2.drew.keep hb5
      have a3 := r3.drew.keep hb5
      have ab := hb.drew.trans (hb5.mono hb.size)
      have HB8 := Lib.hid (blocksW_length ks h0 xs Hh.out (k + 1))
      rw [← HB.out]
      generalize eH : blocksW ks h0 xs (k + 1) = hs2 at *
      have EH := Lib.hid eH
      clear eH r1 r2 r3 hb hb5 HB
      refine wpSegsT_last (by simp [pickOps]; rfl) ?_
      refine wpQuiet_nil ?_
      refine wpOp_alone rfl rfl (fun K hK => ?_)
      refine wp_store_row 47 (.tmp 4) (.tmp 14) rfl S (scells hs2 (uq (BitVec.ofNat 64 (64 * (k + 1))))) rfl rfl 47 (scells hs (uq (BitVec.ofNat 64 (64 * k)))) a3 (by rw [Tryd.size35, scells_size, HB8.out]) (by rw [scells_size, scells_size, HB8.out, H8.out]) (scells_one _ _) (hK _ _ ?_)
      clear hK K
      have b3 := a3.setRow (scells hs2 (uq (BitVec.ofNat 64 (64 * (k + 1)))))
      have b1 := a1.otherRow (b := S) (by omega) (scells hs2 (uq (BitVec.ofNat 64 (64 * (k + 1)))))
      have b2 := a2.otherRow (b := S) (by omega) (scells hs2 (uq (BitVec.ofNat 64 (64 * (k + 1)))))
      have bb := below_setRow ab (b := S) (by omega) (scells hs2 (uq (BitVec.ofNat 64 (64 * (k + 1)))))
      clear a1 a2 a3 ab
      generalize w5.setRow S (scells hs2 (uq (BitVec.ofNat 64 (64 * (k + 1))))) = w6 at *
      go_wp2_with (refine wpList_slice_from rfl 22 5 (.tmp 15) 64 64 rfl rfl Tryd.underlying22 Tryd.one5 (some ⟨b, o, none⟩) n1 c1 rfl hlt64 ?_)
      refine ⟨⟨k + 1, fromA (some ⟨b, o, none⟩) c1 64, n1 - 64, c1 - 64, by have := HN.out; omega, rfl, by have := HN.out; omega, by omega, by omega, Hsd.out, b1, b2, by rw [EH.out]; exact b3, bb⟩, ?_⟩
      simp only [lenOfV]
      omega
    · have hd : decide ((64 : Int) ≤ (n1 : Int)) = false := by simp; omega
      have H8 := Lib.hid (blocksW_length ks h0 xs Hh.out k)
      have HE := Lib.hid (show endW ks (blocksW ks h0 xs k) (BitVec.ofNat 64 (64 * k)) ((xs.drop (64 * k)).take 63) = sumW ks h0 xs by
        unfold sumW
        rw [List.take_of_length_le (by rw [List.length_drop]; omega), show xs.length / 64 = k by omega])
      have HL := Lib.hid (show n1 = (xs.drop (64 * k)).length by rw [List.length_drop]; exact hn1)
      have H9 := Lib.hid (sumW_length ks h0 xs)
      have HS1 := Lib.hid hs1
      clear hn1 hk hs1
      go_wp2_with (first
        | (refine wpList_load_cells rfl 47 (.tmp 4) rfl S 0 rfl (scells (blocksW ks h0 xs k) (uq (BitVec.ofNat 64 (64 * k)))) _ r3.cells Tryd.underlying47 rfl (by rw [Tryd.size35, scells_size, H8.out]) ?_)
        | (refine wpList_load_cells rfl 45 (.tmp 3) rfl G 0 rfl (wcells ks) _ r2.cells Tryd.underlying45 rfl (by rw [Tryd.size33, wcells_size, Hks.out]) ?_))
      refine (rend_any ks _ _ A1 n1 c1 (xs.drop (64 * k)) _ H8.out Hks.out (HS1.out.keep hb) (Hx.out.drop _) HL.out hnc1 hc1).mono ?_
      rintro e w5 ⟨rfl, hb5⟩
      rw [HE.out]
      have p1 := r1.keep hb5
      have pb := hb.trans (hb5.mono hb.size)
      clear r1 r2 r3 hb hb5
      generalize eO : sumW ks h0 xs = out at *
      have EO := Lib.hid eO
      clear eO
      go_wp2_with (refine wpList_store_row rfl 23 (.tmp 2) (.tmp 20) rfl w.heap.size (bcells out) rfl rfl 23 (bcells (List.replicate 32 0)) p1 (by rw [Tryd.size23, bcells_size, H9.out]) (by rw [bcells_size, bcells_size, H9.out, List.length_replicate]) (bcells_one _) ?_)
      refine bodyPost_ret (v := .agg (bcells out)) ?_ rfl ?_
      · exact results_cell_row Tryd.results15 _ _ w.heap.size 23 (bcells out) (0, 0) _ rfl (p1.setRow _) Tryd.underlying23 rfl (by rw [Tryd.size23, bcells_size, H9.out])
      · exact ⟨by rw [← EO.out], below_setRow pb (Nat.le_refl _) _⟩
end Go.Proofs.YtbhcikahemhfmaaDoor.Sha3

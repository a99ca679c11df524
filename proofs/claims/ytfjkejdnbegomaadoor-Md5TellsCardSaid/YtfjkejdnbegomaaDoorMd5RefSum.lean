/- The document's Sum and Text: the plain reckoning's, for any bytes. -/
import Derived.Test.YtfjkejdnbegomaaDoorMd5RefState
import Derived.BigQuiet
import Derived.Deep.QuietTactic
namespace Go.Proofs.YtfjkejdnbegomaaDoor.Md5
open Go.RowKit

def RsAt (w : World) (S : Nat) (h0 ks : List Wd) (xs : List Int) (v : Value) (wr : World) : Prop :=
  ∃ (k : Nat) (A : Option Addr) (n c : Nat), 64 * k ≤ xs.length ∧ v = .slice A n c ∧ n = xs.length - 64 * k ∧ n ≤ c ∧ c ≤ 9223372036854775807 ∧ Src .u8 w A (xs.drop (64 * k)) ∧ Row wr w.heap.size 23 (bcells (List.replicate 16 0)) ∧
    Row wr S 33 (scells (blocksW ks h0 xs k) (uq (BitVec.ofNat 64 (64 * k)))) ∧ Below w.heap.size w wr
set_option maxRecDepth 100000 in
set_option maxHeartbeats 2000000 in
theorem rsum_any (h0 ks : List Wd) (A : Option Addr) (n c : Nat) (xs : List Int) (w : World) (hst : SinesTell ks) (hbg : BeginTells h0) (hh : h0.length = 4) (hks : ks.length = 64) (hn : n = xs.length) (hs0 : Src .u8 w A xs) (hx : IsBytes xs) (hnc : n ≤ c) (hc : c ≤ 9223372036854775807) :
    Calls Tryd.prog 7 #[.slice A n c] w fun e w' => e = .returned (.agg (bcells (sumW ks h0 xs))) ∧ Below w.heap.size w w' := by
  have Hst := Lib.hid hst
  have Hbg := Lib.hid hbg
  have Hh := Lib.hid hh
  have Hks := Lib.hid hks
  have Hn := Lib.hid hn
  have Hs := Lib.hid hs0
  have Hx := Lib.hid hx
  have r0 := Row.new w 23 (bcells (List.replicate 16 0))
  have hb0 : Below w.heap.size w (w.alloc (.cells (bcells (List.replicate 16 0)) 23)) := (Below.refl _ _).alloc (Nat.le_refl _) _
  clear hst hbg hh hks hn hs0 hx
  go_enter Tryd.func7, Tryd.ntmps7
  go_wp2_with fail
  refine (Hbg.out _).mono ?_
  rintro e w2 ⟨rfl, hb2⟩
  have r1 := r0.keep hb2
  have hb := hb0.trans (hb2.mono hb0.size)
  clear r0 hb0 hb2
  have q1 := r1.old (.cells (scells (List.replicate 4 0#32) 0) 33)
  have q3 := Row.new w2 33 (scells (List.replicate 4 0#32) 0)
  have qb := hb.alloc hb.size (.cells (scells (List.replicate 4 0#32) 0) 33)
  have hsz := r1.lt
  clear r1 hb
  go_wp2_with (refine wpList_store_row rfl 33 (.tmp 3) (.tmp 4) rfl w2.heap.size (scells h0 0) rfl rfl 33 (scells (List.replicate 4 0#32) 0) q3 (by rw [Tryd.size33, scells_size, Hh.out]) (by rw [scells_size, scells_size, Hh.out]; rfl) (scells_one _ _) ?_; have p3 := q3.setRow (scells h0 0); have p1 := q1.otherRow (b := w2.heap.size) (by omega) (scells h0 0); have pb := below_setRow qb (b := w2.heap.size) (by omega) (scells h0 0); clear q1 q3 qb)
  rw [put_none, show #[Value.int IntKind.u32 0, Value.int IntKind.u32 0, Value.int IntKind.u32 0, Value.int IntKind.u32 0, Value.int IntKind.u64 0] = scells (List.replicate 4 0#32) 0 from rfl]
  generalize (w2.alloc (.cells (scells (List.replicate 4 0#32) 0) 33)).setRow w2.heap.size (scells h0 0) = w3 at *
  generalize w2.heap.size = S at *
  go_loopw [0] (fun v wr => RsAt w S h0 ks xs v wr) (fun v _ => lenOfV v)
  case atStart => exact ⟨0, A, n, c, by omega, rfl, by rw [Nat.mul_zero, Nat.sub_zero]; exact Hn.out, hnc, hc, Hs.out, p1, p3, pb⟩
  case round =>
    clear p1 p3 pb
    obtain ⟨k, A1, n1, c1, hk, rfl, hn1, hnc1, hc1, hs1, r1, r3, hb⟩ := hrel
    have HN := Lib.hid hn1
    have HK := Lib.hid hk
    by_cases hlt64 : 64 ≤ n1
    · have hd : decide ((64 : Int) ≤ (n1 : Int)) = true := by simp; omega
      have HLy := Lib.hid (show ((xs.drop (64 * k)).take 64).length = 64 by rw [List.length_take, List.length_drop]; omega)
      have Hsd := Lib.hid (hs1.drop 64 c1 (by rw [List.length_drop]; omega) (by rw [List.length_drop]; omega))
      have Hby := Lib.hid ((Hx.out.drop (64 * k)).take 64)
      have HB := Lib.hid (show blocksW ks h0 xs (k + 1) = blockW ks (blocksW ks h0 xs k) ((xs.drop (64 * k)).take 64) from rfl)
      have H8 := Lib.hid (blocksW_length ks h0 xs Hh.out k)
      have HD := Lib.hid (show (xs.drop (64 * k)).drop 64 = xs.drop (64 * (k + 1)) by rw [List.drop_drop, show 64 * k + 64 = 64 * (k + 1) by omega])
      rw [HD.out] at Hsd
      obtain ⟨b, o, rfl, hbl, hcell⟩ := (hs1.take 64) (by rw [HLy.out]; omega)
      have HC := Lib.hid (fun (i : Nat) (hi : i < 64) => ((hb.cell (p := ⟨b, o + i, none⟩) hbl).trans (hcell i (by rw [HLy.out]; exact hi))))
      clear hn1 hk hs1 hcell
      generalize (xs.drop (64 * k)).take 64 = ys at *
      generalize blocksW ks h0 xs k = hs at *
      have hsize := hb.size
      have g1 : (64 : Int) ≤ (c1 : Int) := by omega
      have g2 : (c1 : Int) ≤ 9223372036854775807 := by omega
      go_wp2_with fail
      refine wp_region_segsT 4 [([1, 2, 0], 3)] [] (by kernel_rfl) (by kernel_rfl) ⟨by kernel_rfl, by decide⟩ (by kernel_rfl) (by kernel_rfl) (fun _ _ d _ _ h => by cases d <;> exact h) ?_
      refine wpSegsT_next (by simp [pickOps]; rfl) ?_
      repeat (go_big_quiet_step (fail))
      refine wpQuiet_load_cells rfl 33 (.tmp 3) rfl S 0 rfl (scells hs (uq (BitVec.ofNat 64 (64 * k)))) _ r3.drew.cells r3.lt Tryd.underlying33 rfl (by rw [Tryd.size33, scells_size, H8.out]) ?_
      refine wpQuiet_nil ?_
      refine wpOp_alone rfl rfl (fun K hK => ?_)
      go_simp
      refine (rblock_any ks hs _ b o c1 ys wr.drew Hst.out H8.out HLy.out Hby.out (by show b < wr.heap.size; omega) (fun i hi => HC.out i hi) Hks.out).mono ?_
      rintro e w5 ⟨rfl, hb5⟩
      refine hK _ _ ⟨hb5, ?_⟩
      clear hK K
      rw [bytes_next]
      have a1 := r1.drew.keep hb5
      have a3 := r3.drew.keep hb5
      have ab := hb.drew.trans (hb5.mono hb.size)
      have HB8 := Lib.hid (blocksW_length ks h0 xs Hh.out (k + 1))
      rw [← HB.out]
      generalize eH : blocksW ks h0 xs (k + 1) = hs2 at *
      have EH := Lib.hid eH
      clear eH r1 r3 hb hb5 HB
      refine wpSegsT_last (by simp [pickOps]; rfl) ?_
      refine wpQuiet_nil ?_
      refine wpOp_alone rfl rfl (fun K hK => ?_)
      refine wp_store_row 33 (.tmp 3) (.tmp 11) rfl S (scells hs2 (uq (BitVec.ofNat 64 (64 * (k + 1))))) rfl rfl 33 (scells hs (uq (BitVec.ofNat 64 (64 * k)))) a3 (by rw [Tryd.size33, scells_size, HB8.out]) (by rw [scells_size, scells_size, HB8.out, H8.out]) (scells_one _ _) (hK _ _ ?_)
      clear hK K
      have b3 := a3.setRow (scells hs2 (uq (BitVec.ofNat 64 (64 * (k + 1)))))
      have b1 := a1.otherRow (b := S) (by omega) (scells hs2 (uq (BitVec.ofNat 64 (64 * (k + 1)))))
      have bb := below_setRow ab (b := S) (by omega) (scells hs2 (uq (BitVec.ofNat 64 (64 * (k + 1)))))
      clear a1 a3 ab
      generalize w5.setRow S (scells hs2 (uq (BitVec.ofNat 64 (64 * (k + 1))))) = w6 at *
      go_wp2_with (refine wpList_slice_from rfl 22 5 (.tmp 12) 64 64 rfl rfl Tryd.underlying22 Tryd.one5 (some ⟨b, o, none⟩) n1 c1 rfl hlt64 ?_)
      refine ⟨⟨k + 1, fromA (some ⟨b, o, none⟩) c1 64, n1 - 64, c1 - 64, by have := HN.out; omega, rfl, by have := HN.out; omega, by omega, by omega, Hsd.out, b1, by rw [EH.out]; exact b3, bb⟩, ?_⟩
      simp only [lenOfV]
      omega
    · have hd : decide ((64 : Int) ≤ (n1 : Int)) = false := by simp; omega
      have H8 := Lib.hid (blocksW_length ks h0 xs Hh.out k)
      have HE := Lib.hid (show endW ks (blocksW ks h0 xs k) (BitVec.ofNat 64 (64 * k)) ((xs.drop (64 * k)).take 63) = sumW ks h0 xs by
        unfold sumW
        rw [List.take_of_length_le (by rw [List.length_drop]; omega), show xs.length / 64 = k by omega])
      have HL := Lib.hid (show n1 = (xs.drop (64 * k)).length by rw [List.length_drop]; exact hn1)
      have H9 := Lib.hid (sumW_length ks h0 xs)
      have HS1 := Lib.hid hs1
      clear hn1 hk hs1
      go_wp2_with (first
        | (refine wpList_load_cells rfl 33 (.tmp 3) rfl S 0 rfl (scells (blocksW ks h0 xs k) (uq (BitVec.ofNat 64 (64 * k)))) _ r3.cells Tryd.underlying33 rfl (by rw [Tryd.size33, scells_size, H8.out]) ?_))
      refine (rend_any ks _ _ A1 n1 c1 (xs.drop (64 * k)) _ H8.out Hst.out Hks.out (HS1.out.keep hb) (Hx.out.drop _) HL.out hnc1 hc1).mono ?_
      rintro e w5 ⟨rfl, hb5⟩
      rw [HE.out]
      have p1 := r1.keep hb5
      have pb := hb.trans (hb5.mono hb.size)
      clear r1 r3 hb hb5
      generalize eO : sumW ks h0 xs = out at *
      have EO := Lib.hid eO
      clear eO
      go_wp2_with (refine wpList_store_row rfl 23 (.tmp 2) (.tmp 16) rfl w.heap.size (bcells out) rfl rfl 23 (bcells (List.replicate 16 0)) p1 (by rw [Tryd.size23, bcells_size, H9.out]) (by rw [bcells_size, bcells_size, H9.out, List.length_replicate]) (bcells_one _) ?_)
      refine bodyPost_ret (v := .agg (bcells out)) ?_ rfl ?_
      · exact results_cell_row Tryd.results7 _ _ w.heap.size 23 (bcells out) (0, 0) _ rfl (p1.setRow _) Tryd.underlying23 rfl (by rw [Tryd.size23, bcells_size, H9.out])
      · exact ⟨by rw [← EO.out], below_setRow pb (Nat.le_refl _) _⟩
theorem digit_cut : ∀ m : Fin 16, digitsB.extract m.val (m.val + 1) = strOfNums [digI (m.val : Int)] := by decide
theorem run_bound {P : Program} (w : World) (k : IntKind) (n : Int) (j y : Nat) (c : BoundsCode) (hn : n = (j : Int)) (h : j ≤ y) : (Instr.sliceBound (.int k n) y c).run P w = .ok j w := by
  subst hn
  unfold Instr.sliceBound
  have ha : (asIntOf (.int k (j : Int))).run P w = .ok (k, (j : Int)) w := by simp [asIntOf]
  simp only [Sem.run_bind, ha, Result.andThen_ok]
  rw [if_pos (by omega)]
  rfl
theorem run_cut_digit {P : Program} (w : World) (t : TypeId) (d e : Int) (hu : P.underlying t = some .string) (h0 : 0 ≤ d) (h1 : d < 16) (he : d + 1 = e) :
    (Instr.sliceAt t (.string digitsB) (some (.int .u8 d)) (some (.int .u8 e)) none).run P w = .ok (.string (strOfNums [digI d])) w := by
  subst he
  obtain ⟨m, rfl⟩ := Int.eq_ofNat_of_zero_le h0
  have hm : m < 16 := by omega
  have hd := digit_cut ⟨m, hm⟩
  have hs : digitsB.size = 16 := rfl
  unfold Instr.sliceAt
  simp only [Sem.run_bind, run_underlying hu w, Result.andThen_ok]
  unfold Instr.slice Instr.sliceBounds
  simp only [Sem.run_bind, run_underlying hu w, hs, Result.andThen_ok, Sem.run_pure, Option.isSome_none, Bool.false_eq_true, if_false, run_bound w .u8 ((m : Int) + 1) (m + 1) 16 _ rfl (by omega), run_bound w .u8 (m : Int) m (m + 1) _ rfl (by omega)]
  rw [hd]
theorem nums_append (xs ys : List Int) : strOfNums xs ++ strOfNums ys = strOfNums (xs ++ ys) := by
  unfold strOfNums
  apply ByteArray.ext
  simp
theorem nums_size (xs : List Int) : (strOfNums xs).size = xs.length := by
  unfold strOfNums
  simp [ByteArray.size]
def RtAt (w : World) (V : Nat) (l : List Int) (t i : Value) (wr : World) : Prop :=
  ∃ k : Nat, k ≤ 16 ∧ i = .int .i64 k ∧ t = .string (strOfNums ((textW l).take (2 * k))) ∧ Row wr V 23 (bcells l) ∧ Below w.heap.size w wr
theorem text_next (l : List Int) (k : Nat) (h : k < l.length) : (textW l).take (2 * k) ++ [digI (l.getD k 0 / 16)] ++ [digI (l.getD k 0 % 16)] = (textW l).take (2 * (k + 1)) := by
  rw [← textW_even l k h, ← textW_odd l k h, take_next _ _ (by rw [textW_length]; omega), take_next _ _ (by rw [textW_length]; omega)]
  rfl
set_option maxRecDepth 100000 in
set_option maxHeartbeats 2000000 in
theorem rtext_any (h0 ks : List Wd) (A : Option Addr) (n c : Nat) (xs : List Int) (w : World) (hst : SinesTell ks) (hbg : BeginTells h0) (hh : h0.length = 4) (hks : ks.length = 64) (hn : n = xs.length) (hs0 : Src .u8 w A xs) (hx : IsBytes xs) (hnc : n ≤ c) (hc : c ≤ 9223372036854775807) :
    Calls Tryd.prog 9 #[.slice A n c] w fun e w' => e = .returned (.string (strOfNums (textW (sumW ks h0 xs)))) ∧ Below w.heap.size w w' := by
  have Hcall := Lib.hid (rsum_any h0 ks A n c xs w hst hbg hh hks hn hs0 hx hnc hc)
  clear hst hbg hh hks hn hs0 hx hnc hc
  go_enter Tryd.func9, Tryd.ntmps9
  go_wp2_with fail
  refine Hcall.out.mono ?_
  rintro e w1 ⟨rfl, hb1⟩
  have HL := Lib.hid (sumW_length ks h0 xs)
  have HB := Lib.hid (bytes_sum ks h0 xs)
  generalize eO : sumW ks h0 xs = l at *
  have EO := Lib.hid eO
  clear eO
  have q1 := Row.new w1 23 (bcells (List.replicate 16 0))
  have qb := hb1.alloc hb1.size (.cells (bcells (List.replicate 16 0)) 23)
  have hsz := hb1.size
  clear hb1 Hcall
  go_wp2_with (refine wpList_store_row rfl 23 (.tmp 3) (.tmp 7) rfl w1.heap.size (bcells l) rfl rfl 23 (bcells (List.replicate 16 0)) q1 (by rw [Tryd.size23, bcells_size, HL.out]) (by rw [bcells_size, bcells_size, HL.out, List.length_replicate]) (bcells_one _) ?_; have p1 := q1.setRow (bcells l); have pb := below_setRow qb (b := w1.heap.size) (by omega) (bcells l); clear q1 qb)
  have hR : RtAt w w1.heap.size l (.string ⟨#[]⟩) (.int .i64 0) _ := ⟨0, Nat.zero_le _, rfl, rfl, p1, pb⟩
  clear p1 pb
  generalize w1.heap.size = V at *
  go_loopw [4, 5] (fun t i wr => RtAt w V l t i wr) (fun _ i _ => 16 - (intOf i).toNat)
  case atStart => exact hR
  case round =>
    clear hR
    obtain ⟨k, hk, rfl, rfl, r1, hb⟩ := hrel
    have HL2 := Lib.hid (textW_length l)
    by_cases hlt : k < 16
    · have ck := r1.cell (bcells_at l k (by rw [HL.out]; exact hlt))
      have HN := Lib.hid (text_next l k (by rw [HL.out]; exact hlt))
      obtain ⟨x0, x1⟩ := HB.out.at_ k
      generalize l.getD k 0 = x at *
      obtain ⟨d, hd⟩ : ∃ d, x / 16 = d := ⟨_, rfl⟩
      obtain ⟨m, hm⟩ : ∃ m, x % 16 = m := ⟨_, rfl⟩
      obtain ⟨d1, hd1⟩ : ∃ y, d + 1 = y := ⟨_, rfl⟩
      obtain ⟨m1, hm1⟩ : ∃ y, m + 1 = y := ⟨_, rfl⟩
      have b0 : 0 ≤ d := by omega
      have b1 : d < 16 := by omega
      have b2 : 0 ≤ m := by omega
      have b3 : m < 16 := by omega
      have hd2 : x.tdiv 16 = d := by rw [Int.tdiv_eq_ediv_of_nonneg x0]; exact hd
      have hm2 : x.tmod 16 = m := by rw [Int.tmod_eq_emod_of_nonneg x0]; exact hm
      have w1 : IntKind.u8.wrap d = d := by rw [IntKind.wrap_u8']; omega
      have w2 : IntKind.u8.wrap (d + 1) = d1 := by rw [IntKind.wrap_u8']; omega
      have w3 : IntKind.u8.wrap (m + 1) = m1 := by rw [IntKind.wrap_u8']; omega
      have w4 : IntKind.u8.wrap m = m := by rw [IntKind.wrap_u8']; omega
      have s1 := fun w' => run_cut_digit (P := Tryd.prog) w' 9 d d1 Tryd.underlying9 b0 b1 hd1
      have s2 := fun w' => run_cut_digit (P := Tryd.prog) w' 9 m m1 Tryd.underlying9 b2 b3 hm1
      unfold digitsB at s1 s2
      have hk16 : (k : Int) < 16 := by omega
      have HA := Lib.hid (show strOfNums ((textW l).take (2 * k)) ++ strOfNums [digI d] ++ strOfNums [digI m] = strOfNums ((textW l).take (2 * (k + 1))) by
        rw [nums_append, nums_append, ← HN.out, hd, hm])
      have hsz1 : (strOfNums ((textW l).take (2 * k))).size ≤ 32 := by rw [nums_size, List.length_take, HL2.out, HL.out]; omega
      have hsz2 : (strOfNums [digI d]).size = 1 := nums_size _
      have hsz3 : (strOfNums [digI m]).size = 1 := nums_size _
      clear x0 x1 hd hm hd1 hm1
      generalize strOfNums ((textW l).take (2 * k)) = T at *
      generalize strOfNums [digI d] = D at *
      generalize strOfNums [digI m] = M at *
      go_wp2_with fail
      go_quiet (fail)
      go_wp2_with fail
      refine ⟨⟨k + 1, by omega, by go_num, by rw [← HA.out], r1.drewN _, below_drewN hb _⟩, ?_⟩
      simp [intOf]; omega
    · obtain rfl : k = 16 := by omega
      have HT := Lib.hid (show (textW l).take (2 * 16) = textW l by rw [List.take_of_length_le (by rw [HL2.out, HL.out]; exact Nat.le_refl _)])
      rw [show ((16 : Nat) : Int) = (16 : Int) from rfl, HT.out]
      go_wp2_with fail
      go_ret
      exact ⟨by rw [EO.out]; rfl, hb⟩
end Go.Proofs.YtfjkejdnbegomaaDoor.Md5

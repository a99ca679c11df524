/- HmacZeros' walk: a key with zeros behind it, up to 64 bytes, has the codes of that key; a chain goes on from where one ends. -/
import Derived.Test.YtbhcikahemhfmaaDoorHmChain
import Derived.Test.YtbhcikahemhfmaaDoorMask
namespace Go.Proofs.YtbhcikahemhfmaaDoor.Sha3.Hm
open Go.RowKit

/-- The text x. -/
def exB : ByteArray := ⟨#[120]⟩
theorem exB_nums : numsOf exB = [120] := by decide
theorem row_strs {w : World} {g : Nat} {ss : List ByteArray} (h : Row w g 9 (ss.map Value.string).toArray) : StrSrc w (some ⟨g, 0, none⟩) ss := fun _ =>
  ⟨g, 0, rfl, h.lt, fun i hi => by
    rw [Nat.zero_add]
    exact h.cell (by simp [List.getD_eq_getElem?_getD, List.getElem?_eq_getElem hi])⟩
theorem size_strOf (xs : List Int) : (strOfNums xs).size = xs.length := by
  unfold strOfNums
  show (xs.map fun n => UInt8.ofNat n.toNat).toArray.size = _
  rw [List.size_toArray, List.length_map]
theorem two_small (b : List Int) (h : b.length ≤ 500) : ∀ i, i < [strOfNums b, exB].length → ([strOfNums b, exB].getD i ⟨#[]⟩).size ≤ 900000 := fun i hi => by
  rcases (show i = 0 ∨ i = 1 by simp at hi; omega) with rfl | rfl
  · show (strOfNums b).size ≤ 900000
    rw [size_strOf]
    omega
  · show exB.size ≤ 900000
    decide
theorem one_small : ∀ i, i < [exB].length → ([exB].getD i ⟨#[]⟩).size ≤ 900000 := fun i hi => by
  obtain rfl : i = 0 := by simp at hi; exact hi
  show exB.size ≤ 900000
  decide
/-- At a round's head: k zeros are behind the key, or as many as fit. -/
def ZeAt (w : World) (key : List Int) (N : Int) (v i : Value) (wr : World) : Prop :=
  ∃ (k : Nat) (A : Option Addr) (n c : Nat), (k : Int) ≤ N ∧ key.length + k ≤ 64 ∧ i = .int .i64 k ∧ v = .slice A n c ∧ n = (key ++ zerosI k).length ∧ Own wr w.heap.size A c (key ++ zerosI k) ∧ Below w.heap.size w wr
theorem zeros_bytes (k : Nat) : IsBytes (zerosI k) := fun x hx => by
  have := (List.mem_replicate.1 hx).2
  omega
theorem zeros_next (key : List Int) (k : Nat) : key ++ zerosI (k + 1) = (key ++ zerosI k) ++ [0] := by
  unfold zerosI
  rw [List.replicate_succ', List.append_assoc]
set_option maxRecDepth 100000 in
set_option maxHeartbeats 4000000 in
theorem zeros_ss (h0 ks : List Wd) (A : Option Addr) (n c : Nat) (key : List Int) (a : Int) (A2 : Option Addr) (m d : Nat) (b : List Int) (w : World) (hh : h0.length = 8) (ht : Tab w h0 ks) (hks : ks.length = 64)
    (hn : n = key.length) (hlen : n ≤ 64) (hs0 : Src .u8 w A key) (hx : IsBytes key) (hnc : n ≤ c) (hc : c ≤ 9223372036854775807) (hm : m = b.length) (hlem : m ≤ 500) (hs1 : Src .u8 w A2 b) (hx1 : IsBytes b) :
    Calls Tryd.prog 5 #[.slice A n c, .int .i64 a, .slice A2 m d] w fun e w' => e = .returned (.bool true) ∧ Below w.heap.size w w' := by
  have t1 : decide ((64 : Int) < (n : Int)) = false := by simp; omega
  have hn1 : (n : Int) ≤ 64 := by omega
  have t2 : decide ((500 : Int) < (m : Int)) = false := by simp; omega
  have hm1 : (m : Int) ≤ 500 := by omega
  obtain ⟨M, hM⟩ : ∃ M, bits .and .i64 a 63 = M := ⟨_, rfl⟩
  have hb63 := mask_and a 63 (by omega)
  rw [show ((63 : Nat) : Int) = 63 from rfl, hM] at hb63
  obtain ⟨hM0, hM1⟩ := hb63
  have HnL : Hid (n ≤ 64) := Lib.hid (by omega)
  have HN := Lib.hid hn
  have HS := Lib.hid hs0
  have HX := Lib.hid hx
  have Hks := Lib.hid hks
  have Hh := Lib.hid hh
  have Ht := Lib.hid ht
  have HMb := Lib.hid hm
  have HSb := Lib.hid hs1
  have HXb := Lib.hid hx1
  have HlM : Hid (m ≤ 500) := Lib.hid (by omega)
  have HNc : Hid (n ≤ c) := Lib.hid (by omega)
  have HC : Hid (c ≤ 9223372036854775807) := Lib.hid hc
  have HTx := Lib.hid (fun w1 (b1 : Below w.heap.size w w1) => mtext_any h0 ks A n c key A2 m d b w1 hh (ht.keep b1) hks hn (hs0.keep b1) hx (by omega) hc hm (hs1.keep b1) hx1 (by omega))
  have o1 : Own _ w.heap.size _ _ _ := own_made w w.heap.size (Nat.le_refl _)
  have b1 : Below w.heap.size w (w.alloc (.cells #[] 5)) := (Below.refl _ _).alloc (Nat.le_refl _) _
  clear hh ht hks hn hlen hs0 hx hnc hc hm hlem hs1 hx1
  go_enter Tryd.func5, Tryd.ntmps5
  go_wp2_with (refine wpList_append_src rfl (.tmp 23) (.tmp 24) rfl w.heap.size (some ⟨w.heap.size, 0, none⟩) 0 0 [] rfl rfl o1 A n c key rfl HN.out (HS.out.keep b1) (by have := HnL.out; omega) b1.size ?_; rintro v w2 ⟨A3, n3, c3, rfl, hn3, ho3, hb3⟩; have HR : Hid (ZeAt w key M (.slice A3 n3 c3) (.int .i64 (0 : Nat)) w2) := Lib.hid ⟨0, A3, n3, c3, hM0, (by have := HnL.out; have := HN.out; omega), rfl, rfl, (by rw [hn3]; unfold zerosI; simp), (by unfold zerosI; simpa using ho3), b1.trans hb3⟩; clear hn3 ho3 hb3 o1 b1)
  go_loopw [7, 8] (fun v i wr => ZeAt w key M v i wr) (fun _ i _ => 64 - (intOf i).toNat)
  case atStart => exact HR.out
  case round =>
    clear HR
    obtain ⟨k, A4, n4, c4, hkM, hk64, rfl, rfl, hn4, ho4, hb⟩ := hrel
    have HN4 := Lib.hid hn4
    have HO4 := Lib.hid ho4
    have hl4 : n4 = key.length + k := by rw [hn4, List.length_append]; unfold zerosI; rw [List.length_replicate]
    clear hn4 ho4
    by_cases hgo : (k : Int) < M ∧ key.length + k < 64
    · obtain ⟨hg1, hg2⟩ := hgo
      have e1 : decide ((k : Int) < M) = true := by simp; omega
      have e2 : decide ((n4 : Int) < 64) = true := by simp; omega
      have HZ := Lib.hid (zeros_next key k)
      have s1 := fun w' => Lib.hid (src_new w' 0)
      have b1 := Lib.hid (hb.alloc hb.size (.cells #[.int .u8 0] 5))
      go_wp2_with (refine wpList_append_src rfl (.tmp 36) (.tmp 37) rfl w.heap.size A4 n4 c4 (key ++ zerosI k) rfl HN4.out (HO4.out.keep ((Below.refl _ _).alloc (Nat.le_refl _) _)) _ 1 1 [0] rfl rfl (s1 _).out (by omega) b1.out.size ?_; rintro v w7 ⟨A7, n7, c7, rfl, hn7, ho7, hb7⟩; have HN7 := Lib.hid hn7; have HO7 := Lib.hid ho7; have HB7 := Lib.hid (b1.out.trans hb7); clear hn7 ho7 hb7)
      refine ⟨⟨k + 1, A7, n7, c7, by omega, by omega, by go_num, rfl, by rw [HZ.out]; exact HN7.out, by rw [HZ.out]; exact HO7.out, HB7.out⟩, ?_⟩
      simp [intOf]; omega
    · by_cases hg1 : (k : Int) < M
      · have e1 : decide ((k : Int) < M) = true := by simp; omega
        have e2 : decide ((n4 : Int) < 64) = false := by simp; omega
        clear hl4 hgo
        have HMZ := Lib.hid (macW_zeros ks h0 key b k hk64)
        have HZX := Lib.hid (HX.out.append (zeros_bytes k))
        go_wp2_with fail
        refine (mac_any h0 ks A n c key A2 m d b wr Hh.out (Ht.out.keep hb) Hks.out HN.out (HS.out.keep hb) HX.out HNc.out HC.out HMb.out (HSb.out.keep hb) HXb.out (by have := HlM.out; omega)).mono ?_
        rintro e w5 ⟨rfl, hb5⟩
        have b5 := hb.trans (hb5.mono hb.size)
        have HO5 := Lib.hid (HO4.out.keep hb5)
        have HML := Lib.hid (macW_length ks h0 key b)
        have HMB := Lib.hid (macW_bytes ks h0 key b)
        have HC2 := Lib.hid (show chainW ks h0 key ([strOfNums b, exB].map numsOf) = macW ks h0 (macW ks h0 key b) [120] by simp only [List.map_cons, List.map_nil, numsOf_strOfNums b HXb.out, exB_nums]; rfl)
        have HC1 := Lib.hid (show chainW ks h0 (macW ks h0 key b) ([exB].map numsOf) = macW ks h0 (macW ks h0 key b) [120] by simp only [List.map_cons, List.map_nil, exB_nums]; rfl)
        generalize eM : macW ks h0 key b = out at *
        have EM := Lib.hid eM
        clear eM hb5 hb HO4
        have qt := fun w' (h : Src .u8 w' A2 b) => run_text w' A2 m d b HMb.out h
        go_wp2_with (first
          | (refine wpList_alloc32 rfl rfl ?_; intro w6 q6 c6 z6)
          | (refine wpList_store32 rfl (.tmp 9) (.tmp 41) rfl rfl w5.heap.size out (List.replicate 32 0) rfl rfl q6 HML.out zeros32 ?_; intro w7 p7 c7 z7; have cc := c6.trans c7; have b7 := b5.trans (cc.mono b5.size); have HO7 := Lib.hid (HO5.out.keep cc); have P7 := Lib.hid p7; have qt7 := qt w7 (HSb.out.keep b7); clear q6 c6 c7 p7 z6 z7 b5 cc HO5 qt))
        have S8 := row_strs (ss := [strOfNums b, exB]) (Row.new w7 9 #[.string (strOfNums b), .string exB])
        have B8 : Below w7.heap.size w7 (w7.alloc (.cells #[.string (strOfNums b), .string exB] 9)) := (Below.refl _ _).alloc (Nat.le_refl _) _
        have b8 := b7.trans (B8.mono b7.size)
        refine (chain_any h0 ks A n c key (some ⟨w7.heap.size, 0, none⟩) 2 2 [strOfNums b, exB] _ Hh.out (Ht.out.keep b8) Hks.out HN.out (HS.out.keep b8) HX.out (by have := HnL.out; omega) rfl S8 (two_small b (by rw [← HMb.out]; exact HlM.out)) (by omega)).mono ?_
        rintro e w9 ⟨A9, n9, c9, rfl, hn9, hs9, hk9, hc9, hb9⟩
        rw [HC2.out] at hn9 hs9
        have HTL := Lib.hid (macW_length ks h0 out [120])
        have HTB := Lib.hid (macW_bytes ks h0 out [120])
        obtain rfl : n9 = 32 := by rw [hn9, HTL.out]
        generalize macW ks h0 out [120] = two at *
        have HS9 := Lib.hid hs9
        have b9 := b8.trans (hb9.mono b8.size)
        have P9 := Lib.hid ((P7.out.keep B8).keep hb9)
        have HO9 := Lib.hid ((HO7.out.keep B8).keep hb9)
        clear hn9 hs9 hk9 hc9 hb9 b7 b8 B8 S8 P7 HO7 qt7 HC2
        go_wp2_with fail
        have hq := fun w' => eql_sums w' out HML.out
        refine wp_region_segs [([0, 1, 3], 2), ([4, 5, 6, 7], 8), ([], 9), ([], 10), ([11, 12, 13, 14, 15, 16, 17, 18, 19], 20)] [21, 22, 23, 24] (by kernel_rfl) (by kernel_rfl) (by kernel_rfl) (by kernel_rfl) (fun _ _ d _ _ h => by cases d <;> exact h) ?_
        refine wpSegs_next (by simp [pickOps]; rfl) ?_
        repeat (go_big_quiet_step (fail))
        refine wpQuiet_load_cells rfl 23 (.tmp 9) rfl w5.heap.size 0 rfl (bcells out) _ P9.out.drew.cells P9.out.lt Tryd.underlying23 rfl (by rw [Tryd.size23, bcells_size, HML.out]) ?_
        refine wpQuiet_nil ?_
        refine wpOp_alone rfl rfl (fun K hK => ?_)
        go_simp
        obtain ⟨S4, k4, m4⟩ := own_src HO9.out HN4.out
        refine (mac_any h0 ks A4 n4 c4 (key ++ zerosI k) A2 m d b w9.drew Hh.out (Ht.out.keep b9.drew) Hks.out HN4.out (S4.keep (Below.refl _ _).drew) HZX.out k4 m4 HMb.out (HSb.out.keep b9.drew) HXb.out (by have := HlM.out; omega)).mono ?_
        rintro e w10 ⟨rfl, hb10⟩
        rw [HMZ.out]
        refine hK _ _ ⟨hb10, ?_⟩
        clear hK K
        have b10 := b9.drew.trans (hb10.mono b9.size)
        have P10 := Lib.hid (P9.out.drew.keep hb10)
        have HS10 := Lib.hid ((HS9.out.keep (Below.refl _ _).drew).keep hb10)
        clear S4 k4 m4 hb10 b9 P9 HS9 HO9
        refine wpSegs_next (by simp [pickOps]; rfl) ?_
        repeat (go_big_quiet_step (fail))
        refine wpQuiet_nil ?_
        refine wpOp_alone rfl rfl (fun K hK => ?_)
        go_simp
        have S11 := row_strs (ss := [exB]) (Row.new w10 9 #[.string exB])
        have B11 : Below w10.heap.size w10 (w10.alloc (.cells #[.string exB] 9)) := (Below.refl _ _).alloc (Nat.le_refl _) _
        refine hK _ _ ⟨B11, ?_⟩
        clear hK K
        have b11 := b10.trans (B11.mono b10.size)
        have P11 := Lib.hid (P10.out.keep B11)
        have HS11 := Lib.hid (HS10.out.keep B11)
        clear b10 P10 HS10 B11 hq
        refine wpSegs_next (by simp [pickOps]; rfl) ?_
        refine wpQuiet_nil ?_
        refine wpOp_alone rfl rfl (fun K hK => ?_)
        go_simp
        refine (chain_any h0 ks (some ⟨w5.heap.size, 0, none⟩) 32 32 out (some ⟨w10.heap.size, 0, none⟩) 1 1 [exB] _ Hh.out (Ht.out.keep b11) Hks.out HML.out.symm (sum_row P11.out) HMB.out (by omega) rfl S11 one_small (by omega)).mono ?_
        rintro e w12 ⟨A12, n12, c12, rfl, hn12, hs12, hk12, hc12, hb12⟩
        rw [HC1.out] at hn12 hs12
        refine hK _ _ ⟨hb12, ?_⟩
        clear hK K
        obtain rfl : n12 = 32 := by rw [hn12, HTL.out]
        have b12 := b11.trans (hb12.mono b11.size)
        have HS12 := Lib.hid (HS11.out.keep hb12)
        have HSc := Lib.hid hs12
        clear hn12 hs12 hk12 hc12 hb12 S11 b11 P11 HS11
        refine wpSegs_next (by simp [pickOps]; rfl) ?_
        refine wpQuiet_nil ?_
        refine wpOp_alone rfl rfl (fun K hK => ?_)
        go_simp
        refine (same_any A9 32 c9 two A12 32 c12 two w12 HTL.out.symm HS12.out HTB.out HTL.out.symm HSc.out HTB.out (by omega)).mono ?_
        rintro e w13 ⟨rfl, rfl⟩
        rw [decide_eq_true rfl]
        refine hK _ _ ⟨Below.refl _ _, ?_⟩
        clear hK K HS12 HSc
        refine wpSegs_next (by simp [pickOps]; rfl) ?_
        repeat (go_big_quiet_step (fail))
        refine wpQuiet_nil ?_
        refine wpOp_alone rfl rfl (fun K hK => ?_)
        go_simp
        refine (HTx.out w13 b12).mono ?_
        rintro e w14 ⟨rfl, hb14⟩
        refine hK _ _ ⟨hb14, ?_⟩
        clear hK K
        have b14 := b12.trans (hb14.mono b12.size)
        have hlen : (strOfNums (hexW out)).size = 64 := by rw [size_strOf, hexW_length, HML.out]
        generalize strOfNums (hexW out) = T at *
        clear b12 hb14 HTx
        refine wpSegs_last (by simp [pickOps]; rfl) ?_
        repeat (go_big_quiet_step (fail))
        refine wpQuiet_nil ?_
        go_wp2_with fail
        go_ret
        exact ⟨rfl, b14⟩
      · have e1 : decide ((k : Int) < M) = false := by simp; omega
        clear hl4 hgo
        have HMZ := Lib.hid (macW_zeros ks h0 key b k hk64)
        have HZX := Lib.hid (HX.out.append (zeros_bytes k))
        go_wp2_with fail
        refine (mac_any h0 ks A n c key A2 m d b wr Hh.out (Ht.out.keep hb) Hks.out HN.out (HS.out.keep hb) HX.out HNc.out HC.out HMb.out (HSb.out.keep hb) HXb.out (by have := HlM.out; omega)).mono ?_
        rintro e w5 ⟨rfl, hb5⟩
        have b5 := hb.trans (hb5.mono hb.size)
        have HO5 := Lib.hid (HO4.out.keep hb5)
        have HML := Lib.hid (macW_length ks h0 key b)
        have HMB := Lib.hid (macW_bytes ks h0 key b)
        have HC2 := Lib.hid (show chainW ks h0 key ([strOfNums b, exB].map numsOf) = macW ks h0 (macW ks h0 key b) [120] by simp only [List.map_cons, List.map_nil, numsOf_strOfNums b HXb.out, exB_nums]; rfl)
        have HC1 := Lib.hid (show chainW ks h0 (macW ks h0 key b) ([exB].map numsOf) = macW ks h0 (macW ks h0 key b) [120] by simp only [List.map_cons, List.map_nil, exB_nums]; rfl)
        generalize eM : macW ks h0 key b = out at *
        have EM := Lib.hid eM
        clear eM hb5 hb HO4
        have qt := fun w' (h : Src .u8 w' A2 b) => run_text w' A2 m d b HMb.out h
        go_wp2_with (first
          | (refine wpList_alloc32 rfl rfl ?_; intro w6 q6 c6 z6)
          | (refine wpList_store32 rfl (.tmp 9) (.tmp 41) rfl rfl w5.heap.size out (List.replicate 32 0) rfl rfl q6 HML.out zeros32 ?_; intro w7 p7 c7 z7; have cc := c6.trans c7; have b7 := b5.trans (cc.mono b5.size); have HO7 := Lib.hid (HO5.out.keep cc); have P7 := Lib.hid p7; have qt7 := qt w7 (HSb.out.keep b7); clear q6 c6 c7 p7 z6 z7 b5 cc HO5 qt))
        have S8 := row_strs (ss := [strOfNums b, exB]) (Row.new w7 9 #[.string (strOfNums b), .string exB])
        have B8 : Below w7.heap.size w7 (w7.alloc (.cells #[.string (strOfNums b), .string exB] 9)) := (Below.refl _ _).alloc (Nat.le_refl _) _
        have b8 := b7.trans (B8.mono b7.size)
        refine (chain_any h0 ks A n c key (some ⟨w7.heap.size, 0, none⟩) 2 2 [strOfNums b, exB] _ Hh.out (Ht.out.keep b8) Hks.out HN.out (HS.out.keep b8) HX.out (by have := HnL.out; omega) rfl S8 (two_small b (by rw [← HMb.out]; exact HlM.out)) (by omega)).mono ?_
        rintro e w9 ⟨A9, n9, c9, rfl, hn9, hs9, hk9, hc9, hb9⟩
        rw [HC2.out] at hn9 hs9
        have HTL := Lib.hid (macW_length ks h0 out [120])
        have HTB := Lib.hid (macW_bytes ks h0 out [120])
        obtain rfl : n9 = 32 := by rw [hn9, HTL.out]
        generalize macW ks h0 out [120] = two at *
        have HS9 := Lib.hid hs9
        have b9 := b8.trans (hb9.mono b8.size)
        have P9 := Lib.hid ((P7.out.keep B8).keep hb9)
        have HO9 := Lib.hid ((HO7.out.keep B8).keep hb9)
        clear hn9 hs9 hk9 hc9 hb9 b7 b8 B8 S8 P7 HO7 qt7 HC2
        go_wp2_with fail
        have hq := fun w' => eql_sums w' out HML.out
        refine wp_region_segs [([0, 1, 3], 2), ([4, 5, 6, 7], 8), ([], 9), ([], 10), ([11, 12, 13, 14, 15, 16, 17, 18, 19], 20)] [21, 22, 23, 24] (by kernel_rfl) (by kernel_rfl) (by kernel_rfl) (by kernel_rfl) (fun _ _ d _ _ h => by cases d <;> exact h) ?_
        refine wpSegs_next (by simp [pickOps]; rfl) ?_
        repeat (go_big_quiet_step (fail))
        refine wpQuiet_load_cells rfl 23 (.tmp 9) rfl w5.heap.size 0 rfl (bcells out) _ P9.out.drew.cells P9.out.lt Tryd.underlying23 rfl (by rw [Tryd.size23, bcells_size, HML.out]) ?_
        refine wpQuiet_nil ?_
        refine wpOp_alone rfl rfl (fun K hK => ?_)
        go_simp
        obtain ⟨S4, k4, m4⟩ := own_src HO9.out HN4.out
        refine (mac_any h0 ks A4 n4 c4 (key ++ zerosI k) A2 m d b w9.drew Hh.out (Ht.out.keep b9.drew) Hks.out HN4.out (S4.keep (Below.refl _ _).drew) HZX.out k4 m4 HMb.out (HSb.out.keep b9.drew) HXb.out (by have := HlM.out; omega)).mono ?_
        rintro e w10 ⟨rfl, hb10⟩
        rw [HMZ.out]
        refine hK _ _ ⟨hb10, ?_⟩
        clear hK K
        have b10 := b9.drew.trans (hb10.mono b9.size)
        have P10 := Lib.hid (P9.out.drew.keep hb10)
        have HS10 := Lib.hid ((HS9.out.keep (Below.refl _ _).drew).keep hb10)
        clear S4 k4 m4 hb10 b9 P9 HS9 HO9
        refine wpSegs_next (by simp [pickOps]; rfl) ?_
        repeat (go_big_quiet_step (fail))
        refine wpQuiet_nil ?_
        refine wpOp_alone rfl rfl (fun K hK => ?_)
        go_simp
        have S11 := row_strs (ss := [exB]) (Row.new w10 9 #[.string exB])
        have B11 : Below w10.heap.size w10 (w10.alloc (.cells #[.string exB] 9)) := (Below.refl _ _).alloc (Nat.le_refl _) _
        refine hK _ _ ⟨B11, ?_⟩
        clear hK K
        have b11 := b10.trans (B11.mono b10.size)
        have P11 := Lib.hid (P10.out.keep B11)
        have HS11 := Lib.hid (HS10.out.keep B11)
        clear b10 P10 HS10 B11 hq
        refine wpSegs_next (by simp [pickOps]; rfl) ?_
        refine wpQuiet_nil ?_
        refine wpOp_alone rfl rfl (fun K hK => ?_)
        go_simp
        refine (chain_any h0 ks (some ⟨w5.heap.size, 0, none⟩) 32 32 out (some ⟨w10.heap.size, 0, none⟩) 1 1 [exB] _ Hh.out (Ht.out.keep b11) Hks.out HML.out.symm (sum_row P11.out) HMB.out (by omega) rfl S11 one_small (by omega)).mono ?_
        rintro e w12 ⟨A12, n12, c12, rfl, hn12, hs12, hk12, hc12, hb12⟩
        rw [HC1.out] at hn12 hs12
        refine hK _ _ ⟨hb12, ?_⟩
        clear hK K
        obtain rfl : n12 = 32 := by rw [hn12, HTL.out]
        have b12 := b11.trans (hb12.mono b11.size)
        have HS12 := Lib.hid (HS11.out.keep hb12)
        have HSc := Lib.hid hs12
        clear hn12 hs12 hk12 hc12 hb12 S11 b11 P11 HS11
        refine wpSegs_next (by simp [pickOps]; rfl) ?_
        refine wpQuiet_nil ?_
        refine wpOp_alone rfl rfl (fun K hK => ?_)
        go_simp
        refine (same_any A9 32 c9 two A12 32 c12 two w12 HTL.out.symm HS12.out HTB.out HTL.out.symm HSc.out HTB.out (by omega)).mono ?_
        rintro e w13 ⟨rfl, rfl⟩
        rw [decide_eq_true rfl]
        refine hK _ _ ⟨Below.refl _ _, ?_⟩
        clear hK K HS12 HSc
        refine wpSegs_next (by simp [pickOps]; rfl) ?_
        repeat (go_big_quiet_step (fail))
        refine wpQuiet_nil ?_
        refine wpOp_alone rfl rfl (fun K hK => ?_)
        go_simp
        refine (HTx.out w13 b12).mono ?_
        rintro e w14 ⟨rfl, hb14⟩
        refine hK _ _ ⟨hb14, ?_⟩
        clear hK K
        have b14 := b12.trans (hb14.mono b12.size)
        have hlen : (strOfNums (hexW out)).size = 64 := by rw [size_strOf, hexW_length, HML.out]
        generalize strOfNums (hexW out) = T at *
        clear b12 hb14 HTx
        refine wpSegs_last (by simp [pickOps]; rfl) ?_
        repeat (go_big_quiet_step (fail))
        refine wpQuiet_nil ?_
        go_wp2_with fail
        go_ret
        exact ⟨rfl, b14⟩
set_option maxRecDepth 100000 in
set_option maxHeartbeats 4000000 in
theorem zeros_sb (h0 ks : List Wd) (A : Option Addr) (n c : Nat) (key : List Int) (a : Int) (A2 : Option Addr) (m d : Nat) (b : List Int) (w : World) (hh : h0.length = 8) (ht : Tab w h0 ks) (hks : ks.length = 64)
    (hn : n = key.length) (hlen : n ≤ 64) (hs0 : Src .u8 w A key) (hx : IsBytes key) (hnc : n ≤ c) (hc : c ≤ 9223372036854775807) (hm : 500 = b.length) (hlem : 500 < m) (hs1 : Src .u8 w A2 b) (hx1 : IsBytes b) (hmd : m ≤ d) (hd : d ≤ 9223372036854775807) :
    Calls Tryd.prog 5 #[.slice A n c, .int .i64 a, .slice A2 m d] w fun e w' => e = .returned (.bool true) ∧ Below w.heap.size w w' := by
  have t1 : decide ((64 : Int) < (n : Int)) = false := by simp; omega
  have hn1 : (n : Int) ≤ 64 := by omega
  have t2 : decide ((500 : Int) < (m : Int)) = true := by simp; omega
  have hm1 : (500 : Int) ≤ (d : Int) := by omega
  have hm2 : (d : Int) ≤ 9223372036854775807 := by omega
  obtain ⟨M, hM⟩ : ∃ M, bits .and .i64 a 63 = M := ⟨_, rfl⟩
  have hb63 := mask_and a 63 (by omega)
  rw [show ((63 : Nat) : Int) = 63 from rfl, hM] at hb63
  obtain ⟨hM0, hM1⟩ := hb63
  have HnL : Hid (n ≤ 64) := Lib.hid (by omega)
  have HN := Lib.hid hn
  have HS := Lib.hid hs0
  have HX := Lib.hid hx
  have Hks := Lib.hid hks
  have Hh := Lib.hid hh
  have Ht := Lib.hid ht
  have HMb := Lib.hid hm
  have HSb := Lib.hid hs1
  have HXb := Lib.hid hx1
  have HlM : Hid (500 ≤ 500) := Lib.hid (by omega)
  have HNc : Hid (n ≤ c) := Lib.hid (by omega)
  have HC : Hid (c ≤ 9223372036854775807) := Lib.hid hc
  have HTx := Lib.hid (fun w1 (b1 : Below w.heap.size w w1) => mtext_any h0 ks A n c key A2 500 d b w1 hh (ht.keep b1) hks hn (hs0.keep b1) hx (by omega) hc hm (hs1.keep b1) hx1 (by omega))
  have o1 : Own _ w.heap.size _ _ _ := own_made w w.heap.size (Nat.le_refl _)
  have b1 : Below w.heap.size w (w.alloc (.cells #[] 5)) := (Below.refl _ _).alloc (Nat.le_refl _) _
  clear hh ht hks hn hlen hs0 hx hnc hc hm hlem hs1 hx1 hmd hd
  go_enter Tryd.func5, Tryd.ntmps5
  go_wp2_with (refine wpList_append_src rfl (.tmp 23) (.tmp 24) rfl w.heap.size (some ⟨w.heap.size, 0, none⟩) 0 0 [] rfl rfl o1 A n c key rfl HN.out (HS.out.keep b1) (by have := HnL.out; omega) b1.size ?_; rintro v w2 ⟨A3, n3, c3, rfl, hn3, ho3, hb3⟩; have HR : Hid (ZeAt w key M (.slice A3 n3 c3) (.int .i64 (0 : Nat)) w2) := Lib.hid ⟨0, A3, n3, c3, hM0, (by have := HnL.out; have := HN.out; omega), rfl, rfl, (by rw [hn3]; unfold zerosI; simp), (by unfold zerosI; simpa using ho3), b1.trans hb3⟩; clear hn3 ho3 hb3 o1 b1)
  go_loopw [7, 8] (fun v i wr => ZeAt w key M v i wr) (fun _ i _ => 64 - (intOf i).toNat)
  case atStart => exact HR.out
  case round =>
    clear HR
    obtain ⟨k, A4, n4, c4, hkM, hk64, rfl, rfl, hn4, ho4, hb⟩ := hrel
    have HN4 := Lib.hid hn4
    have HO4 := Lib.hid ho4
    have hl4 : n4 = key.length + k := by rw [hn4, List.length_append]; unfold zerosI; rw [List.length_replicate]
    clear hn4 ho4
    by_cases hgo : (k : Int) < M ∧ key.length + k < 64
    · obtain ⟨hg1, hg2⟩ := hgo
      have e1 : decide ((k : Int) < M) = true := by simp; omega
      have e2 : decide ((n4 : Int) < 64) = true := by simp; omega
      have HZ := Lib.hid (zeros_next key k)
      have s1 := fun w' => Lib.hid (src_new w' 0)
      have b1 := Lib.hid (hb.alloc hb.size (.cells #[.int .u8 0] 5))
      go_wp2_with (refine wpList_append_src rfl (.tmp 36) (.tmp 37) rfl w.heap.size A4 n4 c4 (key ++ zerosI k) rfl HN4.out (HO4.out.keep ((Below.refl _ _).alloc (Nat.le_refl _) _)) _ 1 1 [0] rfl rfl (s1 _).out (by omega) b1.out.size ?_; rintro v w7 ⟨A7, n7, c7, rfl, hn7, ho7, hb7⟩; have HN7 := Lib.hid hn7; have HO7 := Lib.hid ho7; have HB7 := Lib.hid (b1.out.trans hb7); clear hn7 ho7 hb7)
      refine ⟨⟨k + 1, A7, n7, c7, by omega, by omega, by go_num, rfl, by rw [HZ.out]; exact HN7.out, by rw [HZ.out]; exact HO7.out, HB7.out⟩, ?_⟩
      simp [intOf]; omega
    · by_cases hg1 : (k : Int) < M
      · have e1 : decide ((k : Int) < M) = true := by simp; omega
        have e2 : decide ((n4 : Int) < 64) = false := by simp; omega
        clear hl4 hgo
        have HMZ := Lib.hid (macW_zeros ks h0 key b k hk64)
        have HZX := Lib.hid (HX.out.append (zeros_bytes k))
        go_wp2_with fail
        refine (mac_any h0 ks A n c key A2 500 d b wr Hh.out (Ht.out.keep hb) Hks.out HN.out (HS.out.keep hb) HX.out HNc.out HC.out HMb.out (HSb.out.keep hb) HXb.out (by have := HlM.out; omega)).mono ?_
        rintro e w5 ⟨rfl, hb5⟩
        have b5 := hb.trans (hb5.mono hb.size)
        have HO5 := Lib.hid (HO4.out.keep hb5)
        have HML := Lib.hid (macW_length ks h0 key b)
        have HMB := Lib.hid (macW_bytes ks h0 key b)
        have HC2 := Lib.hid (show chainW ks h0 key ([strOfNums b, exB].map numsOf) = macW ks h0 (macW ks h0 key b) [120] by simp only [List.map_cons, List.map_nil, numsOf_strOfNums b HXb.out, exB_nums]; rfl)
        have HC1 := Lib.hid (show chainW ks h0 (macW ks h0 key b) ([exB].map numsOf) = macW ks h0 (macW ks h0 key b) [120] by simp only [List.map_cons, List.map_nil, exB_nums]; rfl)
        generalize eM : macW ks h0 key b = out at *
        have EM := Lib.hid eM
        clear eM hb5 hb HO4
        have qt := fun w' (h : Src .u8 w' A2 b) => run_text w' A2 500 d b HMb.out h
        go_wp2_with (first
          | (refine wpList_alloc32 rfl rfl ?_; intro w6 q6 c6 z6)
          | (refine wpList_store32 rfl (.tmp 9) (.tmp 41) rfl rfl w5.heap.size out (List.replicate 32 0) rfl rfl q6 HML.out zeros32 ?_; intro w7 p7 c7 z7; have cc := c6.trans c7; have b7 := b5.trans (cc.mono b5.size); have HO7 := Lib.hid (HO5.out.keep cc); have P7 := Lib.hid p7; have qt7 := qt w7 (HSb.out.keep b7); clear q6 c6 c7 p7 z6 z7 b5 cc HO5 qt))
        have S8 := row_strs (ss := [strOfNums b, exB]) (Row.new w7 9 #[.string (strOfNums b), .string exB])
        have B8 : Below w7.heap.size w7 (w7.alloc (.cells #[.string (strOfNums b), .string exB] 9)) := (Below.refl _ _).alloc (Nat.le_refl _) _
        have b8 := b7.trans (B8.mono b7.size)
        refine (chain_any h0 ks A n c key (some ⟨w7.heap.size, 0, none⟩) 2 2 [strOfNums b, exB] _ Hh.out (Ht.out.keep b8) Hks.out HN.out (HS.out.keep b8) HX.out (by have := HnL.out; omega) rfl S8 (two_small b (by rw [← HMb.out]; exact HlM.out)) (by omega)).mono ?_
        rintro e w9 ⟨A9, n9, c9, rfl, hn9, hs9, hk9, hc9, hb9⟩
        rw [HC2.out] at hn9 hs9
        have HTL := Lib.hid (macW_length ks h0 out [120])
        have HTB := Lib.hid (macW_bytes ks h0 out [120])
        obtain rfl : n9 = 32 := by rw [hn9, HTL.out]
        generalize macW ks h0 out [120] = two at *
        have HS9 := Lib.hid hs9
        have b9 := b8.trans (hb9.mono b8.size)
        have P9 := Lib.hid ((P7.out.keep B8).keep hb9)
        have HO9 := Lib.hid ((HO7.out.keep B8).keep hb9)
        clear hn9 hs9 hk9 hc9 hb9 b7 b8 B8 S8 P7 HO7 qt7 HC2
        go_wp2_with fail
        have hq := fun w' => eql_sums w' out HML.out
        refine wp_region_segs [([0, 1, 3], 2), ([4, 5, 6, 7], 8), ([], 9), ([], 10), ([11, 12, 13, 14, 15, 16, 17, 18, 19], 20)] [21, 22, 23, 24] (by kernel_rfl) (by kernel_rfl) (by kernel_rfl) (by kernel_rfl) (fun _ _ d _ _ h => by cases d <;> exact h) ?_
        refine wpSegs_next (by simp [pickOps]; rfl) ?_
        repeat (go_big_quiet_step (fail))
        refine wpQuiet_load_cells rfl 23 (.tmp 9) rfl w5.heap.size 0 rfl (bcells out) _ P9.out.drew.cells P9.out.lt Tryd.underlying23 rfl (by rw [Tryd.size23, bcells_size, HML.out]) ?_
        refine wpQuiet_nil ?_
        refine wpOp_alone rfl rfl (fun K hK => ?_)
        go_simp
        obtain ⟨S4, k4, m4⟩ := own_src HO9.out HN4.out
        refine (mac_any h0 ks A4 n4 c4 (key ++ zerosI k) A2 500 d b w9.drew Hh.out (Ht.out.keep b9.drew) Hks.out HN4.out (S4.keep (Below.refl _ _).drew) HZX.out k4 m4 HMb.out (HSb.out.keep b9.drew) HXb.out (by have := HlM.out; omega)).mono ?_
        rintro e w10 ⟨rfl, hb10⟩
        rw [HMZ.out]
        refine hK _ _ ⟨hb10, ?_⟩
        clear hK K
        have b10 := b9.drew.trans (hb10.mono b9.size)
        have P10 := Lib.hid (P9.out.drew.keep hb10)
        have HS10 := Lib.hid ((HS9.out.keep (Below.refl _ _).drew).keep hb10)
        clear S4 k4 m4 hb10 b9 P9 HS9 HO9
        refine wpSegs_next (by simp [pickOps]; rfl) ?_
        repeat (go_big_quiet_step (fail))
        refine wpQuiet_nil ?_
        refine wpOp_alone rfl rfl (fun K hK => ?_)
        go_simp
        have S11 := row_strs (ss := [exB]) (Row.new w10 9 #[.string exB])
        have B11 : Below w10.heap.size w10 (w10.alloc (.cells #[.string exB] 9)) := (Below.refl _ _).alloc (Nat.le_refl _) _
        refine hK _ _ ⟨B11, ?_⟩
        clear hK K
        have b11 := b10.trans (B11.mono b10.size)
        have P11 := Lib.hid (P10.out.keep B11)
        have HS11 := Lib.hid (HS10.out.keep B11)
        clear b10 P10 HS10 B11 hq
        refine wpSegs_next (by simp [pickOps]; rfl) ?_
        refine wpQuiet_nil ?_
        refine wpOp_alone rfl rfl (fun K hK => ?_)
        go_simp
        refine (chain_any h0 ks (some ⟨w5.heap.size, 0, none⟩) 32 32 out (some ⟨w10.heap.size, 0, none⟩) 1 1 [exB] _ Hh.out (Ht.out.keep b11) Hks.out HML.out.symm (sum_row P11.out) HMB.out (by omega) rfl S11 one_small (by omega)).mono ?_
        rintro e w12 ⟨A12, n12, c12, rfl, hn12, hs12, hk12, hc12, hb12⟩
        rw [HC1.out] at hn12 hs12
        refine hK _ _ ⟨hb12, ?_⟩
        clear hK K
        obtain rfl : n12 = 32 := by rw [hn12, HTL.out]
        have b12 := b11.trans (hb12.mono b11.size)
        have HS12 := Lib.hid (HS11.out.keep hb12)
        have HSc := Lib.hid hs12
        clear hn12 hs12 hk12 hc12 hb12 S11 b11 P11 HS11
        refine wpSegs_next (by simp [pickOps]; rfl) ?_
        refine wpQuiet_nil ?_
        refine wpOp_alone rfl rfl (fun K hK => ?_)
        go_simp
        refine (same_any A9 32 c9 two A12 32 c12 two w12 HTL.out.symm HS12.out HTB.out HTL.out.symm HSc.out HTB.out (by omega)).mono ?_
        rintro e w13 ⟨rfl, rfl⟩
        rw [decide_eq_true rfl]
        refine hK _ _ ⟨Below.refl _ _, ?_⟩
        clear hK K HS12 HSc
        refine wpSegs_next (by simp [pickOps]; rfl) ?_
        repeat (go_big_quiet_step (fail))
        refine wpQuiet_nil ?_
        refine wpOp_alone rfl rfl (fun K hK => ?_)
        go_simp
        refine (HTx.out w13 b12).mono ?_
        rintro e w14 ⟨rfl, hb14⟩
        refine hK _ _ ⟨hb14, ?_⟩
        clear hK K
        have b14 := b12.trans (hb14.mono b12.size)
        have hlen : (strOfNums (hexW out)).size = 64 := by rw [size_strOf, hexW_length, HML.out]
        generalize strOfNums (hexW out) = T at *
        clear b12 hb14 HTx
        refine wpSegs_last (by simp [pickOps]; rfl) ?_
        repeat (go_big_quiet_step (fail))
        refine wpQuiet_nil ?_
        go_wp2_with fail
        go_ret
        exact ⟨rfl, b14⟩
      · have e1 : decide ((k : Int) < M) = false := by simp; omega
        clear hl4 hgo
        have HMZ := Lib.hid (macW_zeros ks h0 key b k hk64)
        have HZX := Lib.hid (HX.out.append (zeros_bytes k))
        go_wp2_with fail
        refine (mac_any h0 ks A n c key A2 500 d b wr Hh.out (Ht.out.keep hb) Hks.out HN.out (HS.out.keep hb) HX.out HNc.out HC.out HMb.out (HSb.out.keep hb) HXb.out (by have := HlM.out; omega)).mono ?_
        rintro e w5 ⟨rfl, hb5⟩
        have b5 := hb.trans (hb5.mono hb.size)
        have HO5 := Lib.hid (HO4.out.keep hb5)
        have HML := Lib.hid (macW_length ks h0 key b)
        have HMB := Lib.hid (macW_bytes ks h0 key b)
        have HC2 := Lib.hid (show chainW ks h0 key ([strOfNums b, exB].map numsOf) = macW ks h0 (macW ks h0 key b) [120] by simp only [List.map_cons, List.map_nil, numsOf_strOfNums b HXb.out, exB_nums]; rfl)
        have HC1 := Lib.hid (show chainW ks h0 (macW ks h0 key b) ([exB].map numsOf) = macW ks h0 (macW ks h0 key b) [120] by simp only [List.map_cons, List.map_nil, exB_nums]; rfl)
        generalize eM : macW ks h0 key b = out at *
        have EM := Lib.hid eM
        clear eM hb5 hb HO4
        have qt := fun w' (h : Src .u8 w' A2 b) => run_text w' A2 500 d b HMb.out h
        go_wp2_with (first
          | (refine wpList_alloc32 rfl rfl ?_; intro w6 q6 c6 z6)
          | (refine wpList_store32 rfl (.tmp 9) (.tmp 41) rfl rfl w5.heap.size out (List.replicate 32 0) rfl rfl q6 HML.out zeros32 ?_; intro w7 p7 c7 z7; have cc := c6.trans c7; have b7 := b5.trans (cc.mono b5.size); have HO7 := Lib.hid (HO5.out.keep cc); have P7 := Lib.hid p7; have qt7 := qt w7 (HSb.out.keep b7); clear q6 c6 c7 p7 z6 z7 b5 cc HO5 qt))
        have S8 := row_strs (ss := [strOfNums b, exB]) (Row.new w7 9 #[.string (strOfNums b), .string exB])
        have B8 : Below w7.heap.size w7 (w7.alloc (.cells #[.string (strOfNums b), .string exB] 9)) := (Below.refl _ _).alloc (Nat.le_refl _) _
        have b8 := b7.trans (B8.mono b7.size)
        refine (chain_any h0 ks A n c key (some ⟨w7.heap.size, 0, none⟩) 2 2 [strOfNums b, exB] _ Hh.out (Ht.out.keep b8) Hks.out HN.out (HS.out.keep b8) HX.out (by have := HnL.out; omega) rfl S8 (two_small b (by rw [← HMb.out]; exact HlM.out)) (by omega)).mono ?_
        rintro e w9 ⟨A9, n9, c9, rfl, hn9, hs9, hk9, hc9, hb9⟩
        rw [HC2.out] at hn9 hs9
        have HTL := Lib.hid (macW_length ks h0 out [120])
        have HTB := Lib.hid (macW_bytes ks h0 out [120])
        obtain rfl : n9 = 32 := by rw [hn9, HTL.out]
        generalize macW ks h0 out [120] = two at *
        have HS9 := Lib.hid hs9
        have b9 := b8.trans (hb9.mono b8.size)
        have P9 := Lib.hid ((P7.out.keep B8).keep hb9)
        have HO9 := Lib.hid ((HO7.out.keep B8).keep hb9)
        clear hn9 hs9 hk9 hc9 hb9 b7 b8 B8 S8 P7 HO7 qt7 HC2
        go_wp2_with fail
        have hq := fun w' => eql_sums w' out HML.out
        refine wp_region_segs [([0, 1, 3], 2), ([4, 5, 6, 7], 8), ([], 9), ([], 10), ([11, 12, 13, 14, 15, 16, 17, 18, 19], 20)] [21, 22, 23, 24] (by kernel_rfl) (by kernel_rfl) (by kernel_rfl) (by kernel_rfl) (fun _ _ d _ _ h => by cases d <;> exact h) ?_
        refine wpSegs_next (by simp [pickOps]; rfl) ?_
        repeat (go_big_quiet_step (fail))
        refine wpQuiet_load_cells rfl 23 (.tmp 9) rfl w5.heap.size 0 rfl (bcells out) _ P9.out.drew.cells P9.out.lt Tryd.underlying23 rfl (by rw [Tryd.size23, bcells_size, HML.out]) ?_
        refine wpQuiet_nil ?_
        refine wpOp_alone rfl rfl (fun K hK => ?_)
        go_simp
        obtain ⟨S4, k4, m4⟩ := own_src HO9.out HN4.out
        refine (mac_any h0 ks A4 n4 c4 (key ++ zerosI k) A2 500 d b w9.drew Hh.out (Ht.out.keep b9.drew) Hks.out HN4.out (S4.keep (Below.refl _ _).drew) HZX.out k4 m4 HMb.out (HSb.out.keep b9.drew) HXb.out (by have := HlM.out; omega)).mono ?_
        rintro e w10 ⟨rfl, hb10⟩
        rw [HMZ.out]
        refine hK _ _ ⟨hb10, ?_⟩
        clear hK K
        have b10 := b9.drew.trans (hb10.mono b9.size)
        have P10 := Lib.hid (P9.out.drew.keep hb10)
        have HS10 := Lib.hid ((HS9.out.keep (Below.refl _ _).drew).keep hb10)
        clear S4 k4 m4 hb10 b9 P9 HS9 HO9
        refine wpSegs_next (by simp [pickOps]; rfl) ?_
        repeat (go_big_quiet_step (fail))
        refine wpQuiet_nil ?_
        refine wpOp_alone rfl rfl (fun K hK => ?_)
        go_simp
        have S11 := row_strs (ss := [exB]) (Row.new w10 9 #[.string exB])
        have B11 : Below w10.heap.size w10 (w10.alloc (.cells #[.string exB] 9)) := (Below.refl _ _).alloc (Nat.le_refl _) _
        refine hK _ _ ⟨B11, ?_⟩
        clear hK K
        have b11 := b10.trans (B11.mono b10.size)
        have P11 := Lib.hid (P10.out.keep B11)
        have HS11 := Lib.hid (HS10.out.keep B11)
        clear b10 P10 HS10 B11 hq
        refine wpSegs_next (by simp [pickOps]; rfl) ?_
        refine wpQuiet_nil ?_
        refine wpOp_alone rfl rfl (fun K hK => ?_)
        go_simp
        refine (chain_any h0 ks (some ⟨w5.heap.size, 0, none⟩) 32 32 out (some ⟨w10.heap.size, 0, none⟩) 1 1 [exB] _ Hh.out (Ht.out.keep b11) Hks.out HML.out.symm (sum_row P11.out) HMB.out (by omega) rfl S11 one_small (by omega)).mono ?_
        rintro e w12 ⟨A12, n12, c12, rfl, hn12, hs12, hk12, hc12, hb12⟩
        rw [HC1.out] at hn12 hs12
        refine hK _ _ ⟨hb12, ?_⟩
        clear hK K
        obtain rfl : n12 = 32 := by rw [hn12, HTL.out]
        have b12 := b11.trans (hb12.mono b11.size)
        have HS12 := Lib.hid (HS11.out.keep hb12)
        have HSc := Lib.hid hs12
        clear hn12 hs12 hk12 hc12 hb12 S11 b11 P11 HS11
        refine wpSegs_next (by simp [pickOps]; rfl) ?_
        refine wpQuiet_nil ?_
        refine wpOp_alone rfl rfl (fun K hK => ?_)
        go_simp
        refine (same_any A9 32 c9 two A12 32 c12 two w12 HTL.out.symm HS12.out HTB.out HTL.out.symm HSc.out HTB.out (by omega)).mono ?_
        rintro e w13 ⟨rfl, rfl⟩
        rw [decide_eq_true rfl]
        refine hK _ _ ⟨Below.refl _ _, ?_⟩
        clear hK K HS12 HSc
        refine wpSegs_next (by simp [pickOps]; rfl) ?_
        repeat (go_big_quiet_step (fail))
        refine wpQuiet_nil ?_
        refine wpOp_alone rfl rfl (fun K hK => ?_)
        go_simp
        refine (HTx.out w13 b12).mono ?_
        rintro e w14 ⟨rfl, hb14⟩
        refine hK _ _ ⟨hb14, ?_⟩
        clear hK K
        have b14 := b12.trans (hb14.mono b12.size)
        have hlen : (strOfNums (hexW out)).size = 64 := by rw [size_strOf, hexW_length, HML.out]
        generalize strOfNums (hexW out) = T at *
        clear b12 hb14 HTx
        refine wpSegs_last (by simp [pickOps]; rfl) ?_
        repeat (go_big_quiet_step (fail))
        refine wpQuiet_nil ?_
        go_wp2_with fail
        go_ret
        exact ⟨rfl, b14⟩
end Go.Proofs.YtbhcikahemhfmaaDoor.Sha3.Hm

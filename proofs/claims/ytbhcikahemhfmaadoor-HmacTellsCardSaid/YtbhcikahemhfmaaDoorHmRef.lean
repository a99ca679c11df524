/- The document's pad, Mac, Text and Chain tell the same as the plain reckoning. Conditions: the document's sum of any bytes has the constants and the first state (KeysTell, BeginTells); the bytes, the key and each part are at most 900000. -/
import Derived.Test.YtbhcikahemhfmaaDoorHmChain
import Derived.Test.YtbhcikahemhfmaaDoorShaRefSum
import Derived.Test.YtbhcikahemhfmaaDoorHexRef
namespace Go.Proofs.YtbhcikahemhfmaaDoor.Sha3.Hm
open Go.RowKit

theorem xor8_zero (t : Int) (h : 0 ≤ t ∧ t < 256) : bits .xor .u8 0 t = t := by
  have e : bits .xor .u8 0 t = IntKind.u8.wrap ((BitVec.ofInt 8 0 ^^^ BitVec.ofInt 8 t).toNat : Int) := rfl
  obtain ⟨m, rfl⟩ := Int.eq_ofNat_of_zero_le h.1
  rw [e, show BitVec.ofInt 8 0 = 0#8 from rfl, BitVec.zero_xor, BitVec.ofInt_natCast, BitVec.toNat_ofNat, IntKind.wrap_u8']
  omega
theorem padW_next (t : Int) (key : List Int) (k : Nat) (h : k < 64) : (padW t key).take (k + 1) = (padW t key).take k ++ [bits .xor .u8 (key.getD k 0) t] := by
  have hl : k < (padW t key).length := by rw [padW_length]; exact h
  have e : (padW t key)[k]? = some (bits .xor .u8 (key.getD k 0) t) := by
    unfold padW padK
    rw [List.getElem?_map, List.getElem?_range h]
    simp only [Option.map_some]
    rw [if_pos h]
  rw [List.take_succ_eq_append_getElem hl]
  rw [List.getElem?_eq_getElem hl] at e
  rw [Option.some.inj e]
/-- At a round's head: k bytes are there. -/
def RpAt (w : World) (t : Int) (kk : List Int) (v i : Value) (wr : World) : Prop :=
  ∃ (k : Nat) (A : Option Addr) (n c : Nat), k ≤ 64 ∧ i = .int .i64 k ∧ v = .slice A n c ∧ n = ((padW t kk).take k).length ∧ Own wr w.heap.size A c ((padW t kk).take k) ∧ Below w.heap.size w wr
set_option maxRecDepth 100000 in
set_option maxHeartbeats 2000000 in
theorem rpad_any (h0 ks : List Wd) (t : Int) (A : Option Addr) (n c : Nat) (key : List Int) (w : World) (hk : KeysTell ks) (hbg : BeginTells h0) (hh : h0.length = 8) (hks : ks.length = 64) (ht : 0 ≤ t ∧ t < 256) (hn : n = key.length) (hs0 : Src .u8 w A key) (hx : IsBytes key) (hnc : n ≤ c) (hc : c ≤ 9223372036854775807) :
    Calls Tryd.prog 16 #[.slice A n c, .int .u8 t] w fun e w' => Gives w (padW t (keyW ks h0 key)) e w' := by
  unfold keyW
  by_cases hlt : 64 < key.length
  · rw [if_pos hlt]
    have hd : decide ((64 : Int) < (n : Int)) = true := by simp; omega
    have HC := Lib.hid (rsum_any h0 ks A n c key w hk hbg hh hks hn hs0 hx hnc hc)
    have HL := Lib.hid (sumW_length ks h0 key)
    clear hk hbg hh hks hn hs0 hx hnc hc hlt
    generalize eO : sumW ks h0 key = l at *
    have EO := Lib.hid eO
    clear eO
    go_enter Tryd.func16, Tryd.ntmps16
    go_wp2_with fail
    refine HC.out.mono ?_
    rintro e w1 ⟨rfl, b1⟩
    clear HC
    go_wp2_with (first
      | (refine wpList_alloc32 rfl rfl ?_; intro w2 q2 c2 z2)
      | (refine wpList_store32 rfl (.tmp 5) (.tmp 13) rfl rfl w1.heap.size l (List.replicate 32 0) rfl rfl q2 HL.out zeros32 ?_; intro w3 p3 c3 z3; have b3 := b1.trans ((c2.trans c3).mono b1.size); have HSk := Lib.hid (sum_row p3); have HNk := Lib.hid HL.out.symm; clear q2 c2 c3 p3 z2 z3 b1))
    go_loopw [6, 7] (fun v i wr => RpAt w3 t l v i wr) (fun _ i _ => 64 - (intOf i).toNat)
    case atStart => exact ⟨0, none, 0, 0, Nat.zero_le _, rfl, rfl, by rw [List.take_zero]; rfl, by rw [List.take_zero]; exact own_nil _ _, Below.refl _ _⟩
    case round =>
      obtain ⟨k, A6, n6, c6, hk, rfl, rfl, hn6, ho6, hb⟩ := hrel
      have HN6 := Lib.hid hn6
      have HO6 := Lib.hid ho6
      have hn6k : n6 = k := by rw [hn6, List.length_take, padW_length]; omega
      clear hn6 ho6
      by_cases hlt : k < 64
      · have HT := Lib.hid (padW_next t l k hlt)
        by_cases hin : k < 32
        · obtain ⟨b, o, hA, hbl, hcell⟩ := HSk.out (by rw [← HNk.out]; omega)
          have hc1 := (hb.cell (p := ⟨b, o + k, none⟩) hbl).trans (hcell k (by rw [← HNk.out]; exact hin))
          cases hA; rw [Nat.zero_add] at hc1
          clear hcell
          have HB := Lib.hid (xor8_byte (l.getD k 0) t)
          generalize l.getD k 0 = x at *
          generalize eX : bits .xor .u8 x t = y at *
          have s1 := fun w' => Lib.hid (src_new w' y)
          have b1 := Lib.hid (hb.alloc hb.size (.cells #[.int .u8 y] 5))
          go_wp2_with (refine wpList_append_src rfl (.tmp 30) (.tmp 32) rfl w3.heap.size A6 n6 c6 ((padW t l).take k) rfl HN6.out (HO6.out.keep ((Below.refl _ _).alloc (Nat.le_refl _) _)) _ 1 1 [y] rfl rfl (s1 _).out (by omega) b1.out.size ?_; rintro v w7 ⟨A7, n7, c7, rfl, hn7, ho7, hb7⟩; have HN7 := Lib.hid hn7; have HO7 := Lib.hid ho7; have HB7 := Lib.hid (b1.out.trans hb7); clear hn7 ho7 hb7)
          refine ⟨⟨k + 1, A7, n7, c7, by omega, by go_num, rfl, by rw [HT.out]; exact HN7.out, by rw [HT.out]; exact HO7.out, HB7.out⟩, ?_⟩
          simp [intOf]; omega
        · have HZ := Lib.hid (show bits .xor .u8 (l.getD k 0) t = t by rw [List.getD_eq_getElem?_getD, List.getElem?_eq_none (by rw [← HNk.out]; omega)]; exact xor8_zero t ht)
          rw [HZ.out] at HT
          have s1 := fun w' => Lib.hid (src_new w' t)
          have b1 := Lib.hid (hb.alloc hb.size (.cells #[.int .u8 t] 5))
          go_wp2_with (refine wpList_append_src rfl (.tmp 30) (.tmp 32) rfl w3.heap.size A6 n6 c6 ((padW t l).take k) rfl HN6.out (HO6.out.keep ((Below.refl _ _).alloc (Nat.le_refl _) _)) _ 1 1 [t] rfl rfl (s1 _).out (by omega) b1.out.size ?_; rintro v w7 ⟨A7, n7, c7, rfl, hn7, ho7, hb7⟩; have HN7 := Lib.hid hn7; have HO7 := Lib.hid ho7; have HB7 := Lib.hid (b1.out.trans hb7); clear hn7 ho7 hb7)
          refine ⟨⟨k + 1, A7, n7, c7, by omega, by go_num, rfl, by rw [HT.out]; exact HN7.out, by rw [HT.out]; exact HO7.out, HB7.out⟩, ?_⟩
          simp [intOf]; omega
      · obtain rfl : k = 64 := by omega
        have HE := Lib.hid (show (padW t l).take 64 = padW t l by rw [List.take_of_length_le (by rw [padW_length]; omega)])
        rw [HE.out] at HN6 HO6
        go_wp2_with fail
        go_ret
        exact ⟨_, rfl, A6, n6, c6, rfl, HN6.out, HO6.out.more b3.size, b3.trans (hb.mono b3.size)⟩
  · rw [if_neg hlt]
    have hd : decide ((64 : Int) < (n : Int)) = false := by simp; omega
    have HNk := Lib.hid hn
    have HSk := Lib.hid hs0
    clear hk hbg hh hks hn hs0 hx hnc hc hlt
    go_enter Tryd.func16, Tryd.ntmps16
    go_wp2_with fail
    go_loopw [6, 7] (fun v i wr => RpAt w t key v i wr) (fun _ i _ => 64 - (intOf i).toNat)
    case atStart => exact ⟨0, none, 0, 0, Nat.zero_le _, rfl, rfl, by rw [List.take_zero]; rfl, by rw [List.take_zero]; exact own_nil _ _, Below.refl _ _⟩
    case round =>
      obtain ⟨k, A6, n6, c6, hk, rfl, rfl, hn6, ho6, hb⟩ := hrel
      have HN6 := Lib.hid hn6
      have HO6 := Lib.hid ho6
      have hn6k : n6 = k := by rw [hn6, List.length_take, padW_length]; omega
      clear hn6 ho6
      by_cases hlt : k < 64
      · have HT := Lib.hid (padW_next t key k hlt)
        by_cases hin : k < n
        · obtain ⟨b, o, hA, hbl, hcell⟩ := HSk.out (by rw [← HNk.out]; omega)
          have hc1 := (hb.cell (p := ⟨b, o + k, none⟩) hbl).trans (hcell k (by rw [← HNk.out]; exact hin))
          subst hA
          clear hcell
          have HB := Lib.hid (xor8_byte (key.getD k 0) t)
          generalize key.getD k 0 = x at *
          generalize eX : bits .xor .u8 x t = y at *
          have s1 := fun w' => Lib.hid (src_new w' y)
          have b1 := Lib.hid (hb.alloc hb.size (.cells #[.int .u8 y] 5))
          go_wp2_with (refine wpList_append_src rfl (.tmp 30) (.tmp 32) rfl w.heap.size A6 n6 c6 ((padW t key).take k) rfl HN6.out (HO6.out.keep ((Below.refl _ _).alloc (Nat.le_refl _) _)) _ 1 1 [y] rfl rfl (s1 _).out (by omega) b1.out.size ?_; rintro v w7 ⟨A7, n7, c7, rfl, hn7, ho7, hb7⟩; have HN7 := Lib.hid hn7; have HO7 := Lib.hid ho7; have HB7 := Lib.hid (b1.out.trans hb7); clear hn7 ho7 hb7)
          refine ⟨⟨k + 1, A7, n7, c7, by omega, by go_num, rfl, by rw [HT.out]; exact HN7.out, by rw [HT.out]; exact HO7.out, HB7.out⟩, ?_⟩
          simp [intOf]; omega
        · have HZ := Lib.hid (show bits .xor .u8 (key.getD k 0) t = t by rw [List.getD_eq_getElem?_getD, List.getElem?_eq_none (by rw [← HNk.out]; omega)]; exact xor8_zero t ht)
          rw [HZ.out] at HT
          have s1 := fun w' => Lib.hid (src_new w' t)
          have b1 := Lib.hid (hb.alloc hb.size (.cells #[.int .u8 t] 5))
          go_wp2_with (refine wpList_append_src rfl (.tmp 30) (.tmp 32) rfl w.heap.size A6 n6 c6 ((padW t key).take k) rfl HN6.out (HO6.out.keep ((Below.refl _ _).alloc (Nat.le_refl _) _)) _ 1 1 [t] rfl rfl (s1 _).out (by omega) b1.out.size ?_; rintro v w7 ⟨A7, n7, c7, rfl, hn7, ho7, hb7⟩; have HN7 := Lib.hid hn7; have HO7 := Lib.hid ho7; have HB7 := Lib.hid (b1.out.trans hb7); clear hn7 ho7 hb7)
          refine ⟨⟨k + 1, A7, n7, c7, by omega, by go_num, rfl, by rw [HT.out]; exact HN7.out, by rw [HT.out]; exact HO7.out, HB7.out⟩, ?_⟩
          simp [intOf]; omega
      · obtain rfl : k = 64 := by omega
        have HE := Lib.hid (show (padW t key).take 64 = padW t key by rw [List.take_of_length_le (by rw [padW_length]; omega)])
        rw [HE.out] at HN6 HO6
        go_wp2_with fail
        go_ret
        exact ⟨_, rfl, A6, n6, c6, rfl, HN6.out, HO6.out, hb⟩
set_option maxRecDepth 100000 in
set_option maxHeartbeats 2000000 in
theorem rmac_any (h0 ks : List Wd) (A : Option Addr) (n c : Nat) (key : List Int) (A2 : Option Addr) (n2 c2 : Nat) (b : List Int) (w : World) (hk : KeysTell ks) (hbg : BeginTells h0) (hh : h0.length = 8) (hks : ks.length = 64)
    (hn : n = key.length) (hs : Src .u8 w A key) (hx : IsBytes key) (hnc : n ≤ c) (hc : c ≤ 9223372036854775807) (hn2 : n2 = b.length) (hs2 : Src .u8 w A2 b) (hx2 : IsBytes b) (hl : n2 ≤ 900000) :
    Calls Tryd.prog 7 #[.slice A n c, .slice A2 n2 c2] w fun e w' => e = .returned (.agg (bcells (macW ks h0 key b))) ∧ Below w.heap.size w w' := by
  have Hk := Lib.hid hk
  have Hbg := Lib.hid hbg
  have Hh := Lib.hid hh
  have Hks := Lib.hid hks
  have Hn := Lib.hid hn
  have Hs := Lib.hid hs
  have Hx := Lib.hid hx
  have Hnc : Hid (n ≤ c) := Lib.hid hnc
  have Hc : Hid (c ≤ 9223372036854775807) := Lib.hid hc
  have Hn2 := Lib.hid hn2
  have Hs2 := Lib.hid hs2
  have Hx2 := Lib.hid hx2
  have Hl := Lib.hid hl
  obtain ⟨kk, hkk⟩ : ∃ kk, keyW ks h0 key = kk := ⟨_, rfl⟩
  have HK := Lib.hid hkk
  have HM := Lib.hid (show sumW ks h0 (padW 92 kk ++ sumW ks h0 (padW 54 kk ++ b)) = macW ks h0 key b by unfold macW; rw [hkk])
  clear hk hbg hh hks hn hs hx hnc hc hn2 hs2 hx2 hl hkk
  go_enter Tryd.func7, Tryd.ntmps7
  go_wp2_with (refine wpList_alloc32 rfl rfl ?_; intro w2 r2 b2 z1)
  refine (rpad_any h0 ks 54 A n c key w2 Hk.out Hbg.out Hh.out Hks.out (by omega) Hn.out (Hs.out.keep b2) Hx.out Hnc.out Hc.out).mono ?_
  rw [HK.out]
  rintro e w3 ⟨v, rfl, A4, n4, c4, rfl, hn4, ho4, hb3⟩
  have l2 := r2.lt
  have HN4 := Lib.hid hn4
  have HO4 := Lib.hid ho4
  have HB3 := Lib.hid hb3
  clear hn4 ho4 hb3 z1
  go_wp2_with (refine wpList_append_src rfl (.tmp 7) (.tmp 8) rfl w2.heap.size A4 n4 c4 (padW 54 kk) rfl HN4.out HO4.out A2 n2 c2 b rfl Hn2.out (Hs2.out.keep (b2.trans (HB3.out.mono b2.size))) (by have := HN4.out; have := Hl.out; rw [padW_length] at *; omega) HB3.out.size ?_; rintro v w4 ⟨A5, n5, c5, rfl, hn5, ho5, hb5⟩; have HN5 := Lib.hid hn5; have HO5 := Lib.hid ho5; have HB5 := Lib.hid (HB3.out.trans hb5); clear hn5 ho5 hb5 HN4 HO4 HB3)
  obtain ⟨S5, k5, m5⟩ := own_src HO5.out HN5.out
  have HS5 := Lib.hid S5
  clear S5
  have Hbb := Lib.hid ((padW_bytes 54 kk).append Hx2.out)
  refine (rsum_any h0 ks A5 n5 c5 _ w4 Hk.out Hbg.out Hh.out Hks.out HN5.out HS5.out Hbb.out k5 m5).mono ?_
  rintro e w5 ⟨rfl, hb6⟩
  have b5 := HB5.out.trans (hb6.mono HB5.out.size)
  have r5 := r2.keep b5
  have b6 := b2.trans (b5.mono b2.size)
  have l5 := r5.lt
  have HSL := Lib.hid (sumW_length ks h0 (padW 54 kk ++ b))
  have HSB := Lib.hid (bytes_sum ks h0 (padW 54 kk ++ b))
  generalize eI : sumW ks h0 (padW 54 kk ++ b) = inner at *
  clear eI hb6 b5 HB5 HS5 HO5 HN5 r2 b2 k5 m5 Hbb l2
  go_wp2_with (first
    | (refine wpList_alloc32 rfl rfl ?_; intro w6 q6 c6 z6)
    | (refine wpList_store32 rfl (.tmp 5) (.tmp 10) rfl rfl w5.heap.size inner (List.replicate 32 0) rfl rfl q6 HSL.out zeros32 ?_; intro w7 p6 c7 z7; have cc := c6.trans c7; have p1 := r5.keep cc; have pb := b6.trans (cc.mono b6.size); have l7 : w5.heap.size < w7.heap.size := p6.lt; have P6 := Lib.hid p6; clear q6 r5 b6 c6 c7 cc z6 z7 p6))
  refine wp_region_segsU 3 [([0, 2], 1)] [] [3, 4, 5] (by kernel_rfl) (by kernel_rfl) ⟨by kernel_rfl, by decide⟩ (by kernel_rfl) (by kernel_rfl) (fun _ _ d _ _ h => by cases d <;> exact h) ?_
  refine wpSegsU_next (by simp [pickOps]; rfl) ?_
  go_simp
  repeat (go_big_quiet_step (fail))
  refine wpQuiet_nil ?_
  refine wpOp_alone rfl rfl (fun K hK => ?_)
  go_simp
  refine (rpad_any h0 ks 92 A n c key w7.drew Hk.out Hbg.out Hh.out Hks.out (by omega) Hn.out (Hs.out.keep pb.drew) Hx.out Hnc.out Hc.out).mono ?_
  rw [HK.out]
  rintro e w8 ⟨v, rfl, A8, n8, c8, rfl, hn8, ho8, hb8⟩
  refine hK _ _ ⟨hb8, ?_⟩
  clear hK K
  have HN8 := Lib.hid hn8
  have HO8 := Lib.hid ho8
  have p8 := p1.drew.keep hb8
  have b8 := pb.drew.trans (hb8.mono pb.size)
  have P8 := Lib.hid (P6.out.drew.keep hb8)
  have l8 : w7.heap.size ≤ w8.heap.size := hb8.size
  clear hn8 ho8 hb8 p1 pb P6
  refine wpSegsU_last (by simp [pickOps]; rfl) ?_
  refine wpQuiet_nil ?_
  refine wpOp_alone rfl rfl (fun K hK => ?_)
  refine wp_append_src (.tmp 12) (.tmp 13) rfl w7.drew.heap.size A8 n8 c8 (padW 92 kk) rfl HN8.out HO8.out _ 32 32 inner rfl HSL.out.symm (sum_row P8.out) (by have := HN8.out; rw [padW_length] at this; omega) l8 ?_
  rintro v w9 ⟨A9, n9, c9, rfl, hn9, ho9, hb9⟩
  refine hK _ _ ?_
  clear hK K
  have HN9 := Lib.hid hn9
  have HO9 := Lib.hid ho9
  have l70 : w.heap.size < w7.drew.heap.size := Nat.lt_trans l5 l7
  have p9 := p8.keepB hb9 l70
  have b9 := b8.trans (hb9.mono (Nat.le_of_lt l70))
  clear hn9 ho9 hb9 p8 b8 P8 HO8 HN8 l8
  refine wpOp_alone rfl rfl (fun K hK => ?_)
  go_simp
  obtain ⟨S9, k9, m9⟩ := own_src HO9.out HN9.out
  refine (rsum_any h0 ks A9 n9 c9 _ w9 Hk.out Hbg.out Hh.out Hks.out HN9.out S9 ((padW_bytes 92 kk).append HSB.out) k9 m9).mono ?_
  rintro e w10 ⟨rfl, hb10⟩
  rw [HM.out]
  refine hK _ _ ?_
  clear hK K
  have p10 := p9.keep hb10
  have b10 := b9.trans (hb10.mono b9.size)
  have HML := Lib.hid (macW_length ks h0 key b)
  generalize eM : macW ks h0 key b = m at *
  have EM := Lib.hid eM
  clear eM hb10 p9 b9 S9 k9 m9 HO9 HN9
  refine wpOp_alone rfl rfl (fun K hK => ?_)
  refine wp_store32 (.tmp 4) (.tmp 15) rfl rfl w.heap.size m (List.replicate 32 0) rfl rfl p10 HML.out zeros32 ?_
  intro w11 p11 c11 z11
  refine hK _ _ ?_
  clear hK K
  unfold wpTail
  have b11 := b10.trans c11
  go_wp2_with fail
  refine bodyPost_ret (v := .agg (bcells m)) ?_ rfl ?_
  · exact results_cell_row Tryd.results7 _ _ w.heap.size 23 (bcells m) (0, 0) _ rfl p11 Tryd.underlying23 rfl (by rw [Tryd.size23, bcells_size, HML.out])
  · exact ⟨by rw [← EM.out], b11⟩
set_option maxRecDepth 100000 in
set_option maxHeartbeats 2000000 in
theorem rmtext_any (h0 ks : List Wd) (A : Option Addr) (n c : Nat) (key : List Int) (A2 : Option Addr) (n2 c2 : Nat) (b : List Int) (w : World) (hk : KeysTell ks) (hbg : BeginTells h0) (hh : h0.length = 8) (hks : ks.length = 64)
    (hn : n = key.length) (hs : Src .u8 w A key) (hx : IsBytes key) (hnc : n ≤ c) (hc : c ≤ 9223372036854775807) (hn2 : n2 = b.length) (hs2 : Src .u8 w A2 b) (hx2 : IsBytes b) (hl : n2 ≤ 900000) :
    Calls Tryd.prog 9 #[.slice A n c, .slice A2 n2 c2] w fun e w' => e = .returned (.string (strOfNums (hexW (macW ks h0 key b)))) ∧ Below w.heap.size w w' := by
  have HC := Lib.hid (rmac_any h0 ks A n c key A2 n2 c2 b w hk hbg hh hks hn hs hx hnc hc hn2 hs2 hx2 hl)
  have HML := Lib.hid (macW_length ks h0 key b)
  have HMB := Lib.hid (macW_bytes ks h0 key b)
  clear hk hbg hh hks hn hs hx hnc hc hn2 hs2 hx2 hl
  go_enter Tryd.func9, Tryd.ntmps9
  go_wp2_with fail
  refine HC.out.mono ?_
  rintro e w1 ⟨rfl, b1⟩
  generalize eM : macW ks h0 key b = m at *
  have EM := Lib.hid eM
  clear eM HC
  go_wp2_with (first
    | (refine wpList_alloc32 rfl rfl ?_; intro w2 q2 c2' z2)
    | (refine wpList_store32 rfl (.tmp 5) (.tmp 8) rfl rfl w1.heap.size m (List.replicate 32 0) rfl rfl q2 HML.out zeros32 ?_; intro w3 p3 c3 z3; have b3 := b1.trans ((c2'.trans c3).mono b1.size); have P3 := Lib.hid p3; clear q2 c2' c3 p3 z2 z3 b1))
  refine (hexRef_any (some ⟨w1.heap.size, 0, none⟩) 32 32 m w3 HML.out.symm (sum_row P3.out) HMB.out (by omega)).mono ?_
  rintro e w4 ⟨rfl, hb4⟩
  have b4 := b3.trans (hb4.mono b3.size)
  go_wp2_with fail
  go_ret
  exact ⟨by rw [EM.out]; rfl, b4⟩
set_option maxRecDepth 100000 in
set_option maxHeartbeats 2000000 in
theorem rchain_any (h0 ks : List Wd) (A : Option Addr) (n c : Nat) (key : List Int) (A2 : Option Addr) (n2 c2 : Nat) (ss : List ByteArray) (w : World) (hkt : KeysTell ks) (hbg : BeginTells h0) (hh : h0.length = 8) (hks : ks.length = 64)
    (hn : n = key.length) (hs : Src .u8 w A key) (hx : IsBytes key) (hnc : n ≤ c) (hc : c ≤ 9223372036854775807) (hn2 : n2 = ss.length) (hs2 : StrSrc w A2 ss) (hl2 : ∀ i, i < ss.length → (ss.getD i ⟨#[]⟩).size ≤ 900000) (hm2 : n2 ≤ 9223372036854775807) :
    Calls Tryd.prog 11 #[.slice A n c, .slice A2 n2 c2] w fun e w' => GivesSrc w (chainW ks h0 key (ss.map numsOf)) e w' := by
  have Hk := Lib.hid hkt
  have Hbg := Lib.hid hbg
  have Hh := Lib.hid hh
  have Hks := Lib.hid hks
  have Hx := Lib.hid hx
  have Hn2 := Lib.hid hn2
  have Hs2 := Lib.hid hs2
  have Hl2 := Lib.hid hl2
  have HR : ChAt w h0 ks key (ss.map numsOf) (.slice A n c) (.int .i64 (0 : Nat)) w := ⟨0, A, n, c, Nat.zero_le _, rfl, rfl, hn, hs, hnc, hc, Below.refl _ _⟩
  have HP := Lib.hid (show (ss.map numsOf).length = n2 by rw [List.length_map, hn2])
  have hm : (n2 : Int) ≤ 9223372036854775807 := by omega
  have HG := Lib.hid (fun i (hi : i < n2) => (show (ss.map numsOf).getD i [] = numsOf (ss.getD i ⟨#[]⟩) by
    have h1 : i < ss.length := by omega
    rw [List.getD_eq_getElem?_getD, List.getD_eq_getElem?_getD, List.getElem?_map, List.getElem?_eq_getElem h1]
    rfl))
  generalize eP : ss.map numsOf = ps at *
  have EP := Lib.hid eP
  clear hkt hbg hh hks hn hs hx hnc hc hn2 hs2 hl2 hm2 eP
  go_enter Tryd.func11, Tryd.ntmps11
  go_wp2_with fail
  go_loopw [0, 5] (fun v i wr => ChAt w h0 ks key ps v i wr) (fun _ i _ => n2 - (intOf i).toNat)
  case atStart => exact HR
  case round =>
    clear HR
    obtain ⟨k, A3, n3, c3, hk, rfl, rfl, hn3, hs3, hk3, hm3, hb⟩ := hrel
    have HN3 := Lib.hid hn3
    have HS3 := Lib.hid hs3
    have HK3 : Hid (n3 ≤ c3) := Lib.hid hk3
    have HM3 : Hid (c3 ≤ 9223372036854775807) := Lib.hid hm3
    clear hn3 hs3 hk3 hm3
    by_cases hlt : k < n2
    · obtain ⟨b, o, rfl, hbl, hcell⟩ := Hs2.out (by rw [← Hn2.out]; omega)
      have d1 := (hb.cell (p := ⟨b, o + k, none⟩) hbl).trans (hcell k (by rw [← Hn2.out]; exact hlt))
      have HT := Lib.hid (chainW_next ks h0 key ps k (by rw [HP.out]; exact hlt))
      have HG1 := Lib.hid (HG.out k hlt)
      have HL1 := Lib.hid (Hl2.out k (by rw [← Hn2.out]; exact hlt))
      rw [HG1.out] at HT
      have HX1 := Lib.hid (chainW_bytes ks h0 (ps.take k) Hx.out)
      generalize chainW ks h0 key (ps.take k) = xs at *
      generalize ss.getD k ⟨#[]⟩ = s at *
      clear hcell HG1
      go_wp2_with (refine wpList_bytes_of rfl (.tmp 17) rfl s rfl (by have := HL1.out; omega) ?_; intro w4 c4 s4 k4 m4 b4; have S4 := Lib.hid s4; have B4 := Lib.hid b4; clear s4 b4)
      have hb4 := hb.trans (B4.out.mono hb.size)
      refine (rmac_any h0 ks A3 n3 c3 xs _ s.size c4 (numsOf s) w4 Hk.out Hbg.out Hh.out Hks.out HN3.out (HS3.out.keep B4.out) HX1.out HK3.out HM3.out (numsOf_length s).symm S4.out (numsOf_bytes s) HL1.out).mono ?_
      rintro e w5 ⟨rfl, hb5⟩
      rw [← HT.out]
      have b5 := hb4.trans (hb5.mono hb4.size)
      have HML := Lib.hid (HT.out ▸ macW_length ks h0 xs (numsOf s) : (chainW ks h0 key (ps.take (k + 1))).length = 32)
      generalize eM : chainW ks h0 key (ps.take (k + 1)) = m at *
      have EM := Lib.hid eM
      clear eM hb4 hb5 hb B4 S4 HS3 HT d1
      go_wp2_with (first
        | (refine wpList_alloc32 rfl rfl ?_; intro w6 q6 c6 z6)
        | (refine wpList_store32 rfl (.tmp 6) (.tmp 19) rfl rfl w5.heap.size m (List.replicate 32 0) rfl rfl q6 HML.out zeros32 ?_; intro w7 p7 c7 z7; have b7 := b5.trans ((c6.trans c7).mono b5.size); have P7 := Lib.hid p7; have o8 := Lib.hid (fun w' : World => own_made w' w'.heap.size (Nat.le_refl _)); have Z7 := Lib.hid b7.size; have b8 := Lib.hid (b7.alloc b7.size (.cells #[] 5)); clear q6 c6 c7 p7 z6 z7 b5 b7)
        | (refine wpList_append_src rfl (.tmp 20) (.tmp 21) rfl w7.heap.size _ 0 0 [] rfl rfl (o8.out _) _ 32 32 m rfl HML.out.symm ((sum_row P7.out).keep ((Below.refl _ _).alloc (Nat.le_refl _) _)) (by omega) (by simp) ?_; rintro v w9 ⟨A9, n9, c9, rfl, hn9, ho9, hb9⟩; have HN9 := Lib.hid hn9; have HO9 := Lib.hid ho9; have HB9 := Lib.hid (b8.out.trans (hb9.mono Z7.out)); clear hn9 ho9 hb9))
      refine ⟨⟨k + 1, A9, n9, c9, by rw [HP.out]; omega, by go_num, rfl, by rw [EM.out]; exact HN9.out, ?_, ?_, ?_, HB9.out⟩, ?_⟩
      · rw [EM.out]; exact (own_src HO9.out HN9.out).1
      · exact (own_src HO9.out HN9.out).2.1
      · exact (own_src HO9.out HN9.out).2.2
      · simp [intOf]; omega
    · obtain rfl : k = n2 := by have := HP.out; omega
      have HE := Lib.hid (show ps.take k = ps by rw [List.take_of_length_le (by rw [HP.out]; exact Nat.le_refl _)])
      rw [HE.out] at HN3 HS3
      go_wp2_with fail
      go_ret
      exact ⟨A3, n3, c3, rfl, HN3.out, HS3.out, HK3.out, HM3.out, hb⟩
end Go.Proofs.YtbhcikahemhfmaaDoor.Sha3.Hm

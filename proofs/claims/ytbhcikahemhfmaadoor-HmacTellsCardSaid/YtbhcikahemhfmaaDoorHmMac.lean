/- Mac and Text tell the document's code by any key, and its digits; nothing that was there is written. Conditions: the bytes are at most 900000. -/
import Derived.Test.YtbhcikahemhfmaaDoorHmPad
import Derived.Test.YtbhcikahemhfmaaDoorDrawTail
import Derived.Test.YtbhcikahemhfmaaDoorHex
import Derived.Deep.QuietTactic
namespace Go.Proofs.YtbhcikahemhfmaaDoor.Sha3.Hm
open Go.RowKit

theorem own_src {w : World} {B : Nat} {A : Option Addr} {n c : Nat} {xs : List Int} (h : Own w B A c xs) (hn : n = xs.length) : Src .u8 w A xs ∧ n ≤ c ∧ c ≤ 9223372036854775807 := by
  have := h.cap
  unfold maxLen at this
  exact ⟨h.src, by omega, this.2⟩
set_option maxRecDepth 100000 in
set_option maxHeartbeats 2000000 in
theorem mac_any (h0 ks : List Wd) (A : Option Addr) (n c : Nat) (key : List Int) (A2 : Option Addr) (n2 c2 : Nat) (b : List Int) (w : World) (hh : h0.length = 8) (ht : Tab w h0 ks) (hks : ks.length = 64)
    (hn : n = key.length) (hs : Src .u8 w A key) (hx : IsBytes key) (hnc : n ≤ c) (hc : c ≤ 9223372036854775807) (hn2 : n2 = b.length) (hs2 : Src .u8 w A2 b) (hx2 : IsBytes b) (hl : n2 ≤ 900000) :
    Calls Tryd.prog 6 #[.slice A n c, .slice A2 n2 c2] w fun e w' => e = .returned (.agg (bcells (macW ks h0 key b))) ∧ Below w.heap.size w w' := by
  have Hh := Lib.hid hh
  have Hks := Lib.hid hks
  have Hn := Lib.hid hn
  have Hs := Lib.hid hs
  have Ht := Lib.hid ht
  have Hx := Lib.hid hx
  have Hnc : Hid (n ≤ c) := Lib.hid hnc
  have Hc : Hid (c ≤ 9223372036854775807) := Lib.hid hc
  have Hn2 := Lib.hid hn2
  have Hs2 := Lib.hid hs2
  have Hx2 := Lib.hid hx2
  have Hl := Lib.hid hl
  obtain ⟨kk, hkk⟩ : ∃ kk, keyW ks h0 key = kk := ⟨_, rfl⟩
  have HK := Lib.hid hkk
  have HX := Lib.hid (hkk ▸ keyW_bytes ks h0 hx : IsBytes kk)
  have HL := Lib.hid (hkk ▸ keyW_length ks h0 key : kk.length ≤ 64)
  have HM := Lib.hid (show sumW ks h0 (padW 92 kk ++ sumW ks h0 (padW 54 kk ++ b)) = macW ks h0 key b by unfold macW; rw [hkk])
  clear hh hks hn hs ht hx hnc hc hn2 hs2 hx2 hl hkk
  go_enter Tryd.func6, Tryd.ntmps6
  go_wp2_with (refine wpList_alloc32 rfl rfl ?_; intro w1 r1 b1 z1)
  refine (padsOf_any h0 ks A n c key w1 Hh.out (Ht.out.keep b1) Hks.out Hn.out (Hs.out.keep b1) Hx.out Hnc.out Hc.out).mono ?_
  rw [HK.out]
  rintro e w2 ⟨B, A3, n3, c3, rfl, hcell, hn3, hs3, hb2⟩
  have r2 := r1.keep hb2
  have b2 := b1.trans (hb2.mono b1.size)
  have hB := World.block_lt_of_cell? w2 _ hcell
  have l2 := r2.lt
  have HC := Lib.hid hcell
  have HN3 := Lib.hid hn3
  have HS3 := Lib.hid hs3
  clear r1 b1 hb2 z1 hcell hn3 hs3
  go_wp2_with fail
  refine (pad_any B 54 A3 n3 c3 kk w2 HC.out HN3.out HS3.out HX.out (by have := HN3.out; have := HL.out; omega)).mono ?_
  rintro e w3 ⟨v, rfl, A4, n4, c4, rfl, hn4, ho4, hb3⟩
  have HN4 := Lib.hid hn4
  have HO4 := Lib.hid ho4
  have HB3 := Lib.hid hb3
  clear hn4 ho4 hb3
  go_wp2_with (refine wpList_append_src rfl (.tmp 10) (.tmp 11) rfl w2.heap.size A4 n4 c4 (padW 54 kk) rfl HN4.out HO4.out A2 n2 c2 b rfl Hn2.out (Hs2.out.keep (b2.trans (HB3.out.mono b2.size))) (by have := HN4.out; have := Hl.out; rw [padW_length] at *; omega) HB3.out.size ?_; rintro v w4 ⟨A5, n5, c5, rfl, hn5, ho5, hb5⟩; have HN5 := Lib.hid hn5; have HO5 := Lib.hid ho5; have HB5 := Lib.hid (HB3.out.trans hb5); clear hn5 ho5 hb5 HN4 HO4 HB3)
  obtain ⟨S5, k5, m5⟩ := own_src HO5.out HN5.out
  have HS5 := Lib.hid S5
  clear S5
  have Hbb := Lib.hid ((padW_bytes 54 kk).append Hx2.out)
  refine (sum_any h0 ks A5 n5 c5 _ w4 Hh.out (Ht.out.keep (b2.trans (HB5.out.mono b2.size))) Hks.out HN5.out HS5.out Hbb.out k5 m5).mono ?_
  rintro e w5 ⟨rfl, hb6⟩
  have b5 := HB5.out.trans (hb6.mono HB5.out.size)
  have r5 := r2.keep b5
  have HC5 := Lib.hid ((b5.cell (p := ⟨B, 0, none⟩) hB).trans HC.out)
  have HS5' := Lib.hid (HS3.out.keep b5)
  have b6 := b2.trans (b5.mono b2.size)
  have hB5 : B < w5.heap.size := Nat.lt_of_lt_of_le hB b5.size
  have l5 := r5.lt
  have HSL := Lib.hid (sumW_length ks h0 (padW 54 kk ++ b))
  have HSB := Lib.hid (bytes_sum ks h0 (padW 54 kk ++ b))
  generalize eI : sumW ks h0 (padW 54 kk ++ b) = inner at *
  clear eI hb6 b5 HC HS3 HB5 HS5 HO5 HN5 r2 b2 k5 m5 Hbb l2 hB
  go_wp2_with (first
    | (refine wpList_alloc32 rfl rfl ?_; intro w6 q6 c6 z6)
    | (refine wpList_store32 rfl (.tmp 6) (.tmp 13) rfl rfl w5.heap.size inner (List.replicate 32 0) rfl rfl q6 HSL.out zeros32 ?_; intro w7 p6 c7 z7; have cc := c6.trans c7; have p1 := r5.keep cc; have pb := b6.trans (cc.mono b6.size); have d7 := Lib.hid ((cc.cell (p := ⟨B, 0, none⟩) hB5).trans HC5.out); have s7 := Lib.hid (HS5'.out.keep cc); have l7 : w5.heap.size < w7.heap.size := p6.lt; have P6 := Lib.hid p6; clear q6 r5 b6 c6 c7 cc z6 z7 p6 HC5 HS5'))
  refine wp_region_segsU 3 [([0, 2], 1)] [] [3, 4, 5] (by kernel_rfl) (by kernel_rfl) ⟨by kernel_rfl, by decide⟩ (by kernel_rfl) (by kernel_rfl) (fun _ _ d _ _ h => by cases d <;> exact h) ?_
  refine wpSegsU_next (by simp [pickOps]; rfl) ?_
  go_simp
  repeat (go_big_quiet_step (fail))
  refine wpQuiet_nil ?_
  refine wpOp_alone rfl rfl (fun K hK => ?_)
  go_simp
  refine (pad_any B 92 A3 n3 c3 kk w7.drew d7.out HN3.out (s7.out.keep (Below.refl _ _).drew) HX.out (by have := HN3.out; have := HL.out; omega)).mono ?_
  rintro e w8 ⟨v, rfl, A8, n8, c8, rfl, hn8, ho8, hb8⟩
  refine hK _ _ ⟨hb8, ?_⟩
  clear hK K
  have HN8 := Lib.hid hn8
  have HO8 := Lib.hid ho8
  have p8 := p1.drew.keep hb8
  have b8 := pb.drew.trans (hb8.mono pb.size)
  have P8 := Lib.hid (P6.out.drew.keep hb8)
  have l8 : w7.heap.size ≤ w8.heap.size := hb8.size
  clear hn8 ho8 hb8 p1 pb P6 d7 s7
  refine wpSegsU_last (by simp [pickOps]; rfl) ?_
  refine wpQuiet_nil ?_
  refine wpOp_alone rfl rfl (fun K hK => ?_)
  refine wp_append_src (.tmp 15) (.tmp 16) rfl w7.drew.heap.size A8 n8 c8 (padW 92 kk) rfl HN8.out HO8.out _ 32 32 inner rfl HSL.out.symm (sum_row P8.out) (by have := HN8.out; rw [padW_length] at this; omega) l8 ?_
  rintro v w9 ⟨A9, n9, c9, rfl, hn9, ho9, hb9⟩
  refine hK _ _ ?_
  clear hK K
  have HN9 := Lib.hid hn9
  have HO9 := Lib.hid ho9
  have l70 : w.heap.size < w7.drew.heap.size := Nat.lt_trans l5 l7
  have p9 := p8.keepB hb9 l70
  have b9 := b8.trans (hb9.mono (Nat.le_of_lt l70))
  clear hn9 ho9 hb9 p8 b8 P8 HO8 HN8 l8
  refine wpOp_alone rfl rfl (fun K hK => ?_)
  go_simp
  obtain ⟨S9, k9, m9⟩ := own_src HO9.out HN9.out
  refine (sum_any h0 ks A9 n9 c9 _ w9 Hh.out (Ht.out.keep b9) Hks.out HN9.out S9 ((padW_bytes 92 kk).append HSB.out) k9 m9).mono ?_
  rintro e w10 ⟨rfl, hb10⟩
  rw [HM.out]
  refine hK _ _ ?_
  clear hK K
  have p10 := p9.keep hb10
  have b10 := b9.trans (hb10.mono b9.size)
  have HML := Lib.hid (macW_length ks h0 key b)
  generalize eM : macW ks h0 key b = m at *
  have EM := Lib.hid eM
  clear eM hb10 p9 b9 S9 k9 m9 HO9 HN9
  refine wpOp_alone rfl rfl (fun K hK => ?_)
  refine wp_store32 (.tmp 4) (.tmp 18) rfl rfl w.heap.size m (List.replicate 32 0) rfl rfl p10 HML.out zeros32 ?_
  intro w11 p11 c11 z11
  refine hK _ _ ?_
  clear hK K
  unfold wpTail
  have b11 := b10.trans c11
  go_wp2_with fail
  refine bodyPost_ret (v := .agg (bcells m)) ?_ rfl ?_
  · exact results_cell_row Tryd.results6 _ _ w.heap.size 23 (bcells m) (0, 0) _ rfl p11 Tryd.underlying23 rfl (by rw [Tryd.size23, bcells_size, HML.out])
  · exact ⟨by rw [← EM.out], b11⟩
end Go.Proofs.YtbhcikahemhfmaaDoor.Sha3.Hm

/- Seal: any label that is right has its 512 bytes, in memory of the call's own, and its sector; any other its error; nothing that was there is written. No conditions but those that stand in each lemma. -/
import Derived.Test.YtcolicmefehcnaaDoorLblRight
import Derived.Test.YtcolicmefehcnaaDoorPtrPut
import Derived.Test.YtcolicmefehcnaaDoorGo
namespace Go.Proofs.YtcolicmefehcnaaDoor
open Go.RowKit

theorem uv_wrap64 (s : Wd) : IntKind.u64.wrap (uv s) = uv s := by rw [IntKind.wrap_u64]; have := uv_lo s; have := uv_hi s; omega
theorem uv_num (s : Wd) : ∀ y ∈ [uv s], 0 ≤ y ∧ y < 18446744073709551616 := one_num (uv_lo s) (by have := uv_hi s; omega)
theorem alloc_le (w : World) (o : Obj) : w.heap.size ≤ (w.alloc o).heap.size := by rw [alloc_size]; omega
theorem letters_text : numsOf ⟨#[83, 66, 88, 49]⟩ = lettersB := rfl
/-- What Seal answers. -/
def SealEnds (l : Lb) (w : World) (e : Ending) (w' : World) : Prop :=
  Below w.heap.size w w' ∧
    ((l.right = true ∧ ∃ g c, e = .returned (.tuple #[.slice (some ⟨g, 0, none⟩) 512 c, .int .i64 (l.epoch.tmod 2), .int .i64 0]) ∧ Own w' w.heap.size (some ⟨g, 0, none⟩) c (sealB l)) ∨
     (l.right = false ∧ e = .returned (.tuple #[.slice none 0 0, .int .i64 0, .int .i64 2])))
set_option maxRecDepth 100000 in
set_option maxHeartbeats 4000000 in
theorem seal_any (l : Lb) (w : World) (hl : l.Ok) (ht : Tab w) : Calls Tryd.prog 7 #[.agg (lcells l)] w (SealEnds l w) := by
  have r1 := Row.new w 27 (lcells l)
  have b1 : Below w.heap.size w (w.alloc (.cells (lcells l) 27)) := (Below.refl _ _).alloc (Nat.le_refl _) _
  have HS := Lib.hid hl.root.shaL
  have HO := Lib.hid hl
  have HT := Lib.hid ht
  have HB := Lib.hid (bodyB_bytes l hl.root.shaB)
  clear hl ht
  go_enter Tryd.func7, Tryd.ntmps7
  go_wp2_with (refine wpList_loadL (.tmp 1) _ ltL rfl rfl w.heap.size rfl l HS.out r1 ?_)
  refine (lright_any l _ HO.out).mono ?_
  rintro e w2 ⟨rfl, hb2⟩
  have r2 := r1.keep hb2
  have b2 := b1.trans (hb2.mono b1.size)
  clear r1 b1 hb2
  cases hR : l.right with
  | false =>
    go_wp2_with fail
    go_ret3
    exact ⟨b2, .inr ⟨hR, rfl⟩⟩
  | true =>
    have HR := Lib.hid hR
    clear hR
    have ce := lrow_epoch r2
    have e1 := u64w_wrap l.epoch
    go_wp2_with fail
    have q2 := r2.old (.cells #[.int .u64 (u64w l.epoch)] 51)
    have a2 := b2.alloc b2.size (.cells #[.int .u64 (u64w l.epoch)] 51)
    refine (fixed_any none 0 0 [] 8 _ 1 1 [(u64w l.epoch)] _ rfl Src.none_ (by omega) rfl (one_src _ _ _ rfl) (by omega) (one_num (u64w_lo _) (u64w_hi _))).mono ?_
    rintro e w3 ⟨v1, rfl, A1, n1, c1, rfl, hn1, ho1, hb3⟩
    have r3 := q2.keep hb3
    have b3 := a2.trans (hb3.mono a2.size)
    obtain ⟨xs1, hx1⟩ : ∃ l', l' = [] ++ fixedOf 8 [u64w l.epoch] := ⟨_, rfl⟩
    rw [← hx1] at hn1 ho1
    have HX1 := Lib.hid (show xs1 = e8 l.epoch from hx1)
    obtain rfl : n1 = 8 := by rw [hn1, HX1.out, e8_length]
    have Hn1 := Lib.hid hn1
    have HO1 := Lib.hid (ho1.more (alloc_le w2 _))
    have lt2 := r2.lt
    have le3 : w2.heap.size ≤ w3.heap.size := Nat.le_trans (alloc_le w2 _) hb3.size
    have s2 := b2.size
    clear hx1 hn1 ho1 a2 q2 hb3 b2 r2 ce e1
    have e2 := u64w_wrap l.next
    go_wp2_with (at_builtin; refine wpList_append_text rfl _ _ rfl w2.heap.size A1 8 c1 xs1 rfl Hn1.out HO1.out (by omega) ⟨#[83, 66, 88, 49]⟩ rfl (by have : (⟨#[83, 66, 88, 49]⟩ : ByteArray).size = 4 := rfl; omega) le3 ?_; rintro v w4 ⟨A2, n2, c2, rfl, hn2, ho2, hb4⟩; have r4 := r3.keepB hb4 lt2; have b4 := b3.trans (hb4.mono s2); have cn := lrow_next r4 HS.out; have HN2 := Lib.hid hn2; have HO2 := Lib.hid ho2; clear r3 b3 hb4 hn2 ho2)
    obtain ⟨xs2, hx2⟩ : ∃ l', l' = xs1 ++ numsOf ⟨#[83, 66, 88, 49]⟩ := ⟨_, rfl⟩
    rw [← hx2] at HN2 HO2
    have HX2 := Lib.hid (show xs2 = e8 l.epoch ++ lettersB by rw [hx2, HX1.out, letters_text])
    obtain rfl : n2 = 12 := by rw [HN2.out, HX2.out, List.length_append, e8_length]; rfl
    have q4 := r4.old (.cells #[.int .u64 (u64w l.next)] 51)
    have a4 := b4.alloc b4.size (.cells #[.int .u64 (u64w l.next)] 51)
    clear hx2 HX1 Hn1 HO1
    refine (fixed_any A2 12 c2 xs2 8 _ 1 1 [(u64w l.next)] _ HN2.out ((HO2.out.keep ((Below.refl _ _).alloc (Nat.le_refl _) _)).src) (by omega) rfl (one_src _ _ _ rfl) (by omega) (one_num (u64w_lo _) (u64w_hi _))).mono ?_
    rintro e w5 ⟨v3, rfl, A3, n3, c3, rfl, hn3, ho3, hb5⟩
    have r5 := q4.keep hb5
    have b5 := a4.trans (hb5.mono a4.size)
    obtain ⟨xs3, hx3⟩ : ∃ l', l' = xs2 ++ fixedOf 8 [u64w l.next] := ⟨_, rfl⟩
    rw [← hx3] at hn3 ho3
    have HX3 := Lib.hid (show xs3 = firstB l by rw [hx3, HX2.out]; rfl)
    obtain rfl : n3 = 20 := by rw [hn3, HX3.out, firstB_length]
    have HN3 := Lib.hid hn3
    have HO3 := Lib.hid ho3
    clear hx3 hn3 ho3 HX2 HN2 HO2 q4 a4 hb5 b4 r4 cn e2
    go_wp2_with (refine wpList_loadRoot (.tmp 23) rfl rfl w.heap.size rfl l HS.out r5 ?_)
    refine (put_any A3 20 c3 xs3 l.root _ HO.out.root HN3.out HO3.out.src (by omega)).mono ?_
    rintro e w6 ⟨v4, rfl, A4, n4, c4, rfl, hn4, ho4, hb6⟩
    have r6 := r5.keep hb6
    have b6 := b5.trans (hb6.mono b5.size)
    obtain ⟨xs4, hx4⟩ : ∃ l', l' = xs3 ++ putOf l.root := ⟨_, rfl⟩
    rw [← hx4] at hn4 ho4
    have HX4 := Lib.hid (show xs4 = headB l by rw [hx4, HX3.out]; rfl)
    obtain rfl : n4 = 72 := by rw [hn4, HX4.out, headB_length l HS.out]
    have HN4 := Lib.hid hn4
    have HO4 := Lib.hid ho4
    have lt5 := r5.lt
    have s5 := b5.size
    have le6 := hb6.size
    clear hx4 hn4 ho4 HX3 HN3 HO3 hb6 b5 r5
    go_wp2_with (at_builtin; refine wpList_append_zeros rfl _ _ rfl w5.heap.size A4 72 c4 xs4 rfl HN4.out (by omega) HO4.out 428 (by omega) rfl (by omega) le6 ?_; rintro v w7 ⟨A5, n5, c5, rfl, hn5, ho5, hb7⟩; have r7 := r6.keepB hb7 lt5; have b7 := b6.trans (hb7.mono s5); have HN5 := Lib.hid hn5; have HO5 := Lib.hid ho5; clear r6 b6 hb7 hn5 ho5)
    obtain ⟨xs5, hx5⟩ : ∃ l', l' = xs4 ++ zerosL 428 := ⟨_, rfl⟩
    rw [← hx5] at HN5 HO5
    have HX5 := Lib.hid (show xs5 = bodyB l by rw [hx5, HX4.out]; rfl)
    obtain rfl : n5 = 500 := by rw [HN5.out, HX5.out, bodyB_length l HS.out]
    clear hx5 HX4 HN4 HO4
    refine (sum_any A5 500 c5 xs5 _ (HT.out.keep b7) HN5.out HO5.out.src (by rw [HX5.out]; exact HB.out) (by omega)).mono ?_
    rintro e w8 ⟨rfl, hb8⟩
    have r8 := r7.keep hb8
    have b8 := b7.trans (hb8.mono b7.size)
    have HO5' := Lib.hid (HO5.out.keep hb8)
    obtain ⟨sm, hsm⟩ : ∃ s, s = goW 0#32 xs5 := ⟨_, rfl⟩
    rw [← hsm]
    have HSM := Lib.hid (show sm = sumB l by rw [hsm, HX5.out]; rfl)
    have e3 := uv_wrap64 sm
    clear hsm HO5 hb8 r7 b7
    go_wp2_with fail
    have q8 := r8.old (.cells #[.int .u64 (uv sm)] 51)
    have a8 := b8.alloc b8.size (.cells #[.int .u64 (uv sm)] 51)
    refine (fixed_any A5 500 c5 xs5 4 _ 1 1 [(uv sm)] _ HN5.out ((HO5'.out.keep ((Below.refl _ _).alloc (Nat.le_refl _) _)).src) (by omega) rfl (one_src _ _ _ rfl) (by omega) (uv_num _)).mono ?_
    rintro e w9 ⟨v6, rfl, A6, n6, c6, rfl, hn6, ho6, hb9⟩
    have r9 := q8.keep hb9
    have b9 := a8.trans (hb9.mono a8.size)
    obtain ⟨xs6, hx6⟩ : ∃ l', l' = xs5 ++ fixedOf 4 [uv sm] := ⟨_, rfl⟩
    rw [← hx6] at hn6 ho6
    have HX6 := Lib.hid (show xs6 = bodyB l ++ e4 (sumB l) by rw [hx6, HX5.out, HSM.out]; rfl)
    obtain rfl : n6 = 504 := by rw [hn6, HX6.out, List.length_append, bodyB_length l HS.out, e4_length]
    have HN6 := Lib.hid hn6
    have HO6 := Lib.hid ho6
    have ce := lrow_epoch r9
    have e1 := u64w_wrap l.epoch
    clear hx6 hn6 ho6 HX5 HN5 HO5' HSM q8 a8 hb9 b8 r8 e3
    go_wp2_with fail
    have q9 := r9.old (.cells #[.int .u64 (u64w l.epoch)] 51)
    have a9 := b9.alloc b9.size (.cells #[.int .u64 (u64w l.epoch)] 51)
    refine (fixed_any A6 504 c6 xs6 8 _ 1 1 [(u64w l.epoch)] _ HN6.out ((HO6.out.keep ((Below.refl _ _).alloc (Nat.le_refl _) _)).src) (by omega) rfl (one_src _ _ _ rfl) (by omega) (one_num (u64w_lo _) (u64w_hi _))).mono ?_
    rintro e w10 ⟨v7, rfl, A7, n7, c7, rfl, hn7, ho7, hb10⟩
    have r10 := q9.keep hb10
    have b10 := a9.trans (hb10.mono a9.size)
    obtain ⟨xs7, hx7⟩ : ∃ l', l' = xs6 ++ fixedOf 8 [u64w l.epoch] := ⟨_, rfl⟩
    rw [← hx7] at hn7 ho7
    have HX7 := Lib.hid (show xs7 = sealB l by rw [hx7, HX6.out]; rfl)
    obtain rfl : n7 = 512 := by rw [hn7, HX7.out, sealB_length l HS.out]
    obtain ⟨g, cap, hv, _, _⟩ := World.ownsRow.form ho7 (by rw [HX7.out, sealB_length l HS.out]; omega)
    obtain ⟨rfl, rfl⟩ : A7 = some ⟨g, 0, none⟩ ∧ c7 = cap := by injection hv with h1 _ h3; exact ⟨h1, h3⟩
    have HO7 := Lib.hid (ho7.more (Nat.le_trans b9.size (alloc_le _ _)))
    clear hx7 hn7 ho7 hv HX6 HN6 HO6 q9 a9 hb10 b9 r9 ce e1
    go_wp2_with (refine wpList_loadL (.tmp 1) _ ltL rfl rfl w.heap.size rfl l HS.out r10 ?_)
    refine (place_any l _).mono ?_
    rintro e w11 ⟨rfl, hb11⟩
    have b11 := b10.trans (hb11.mono b10.size)
    have HO8 := Lib.hid (HO7.out.keep hb11)
    clear r10 b10 hb11 HO7
    go_wp2_with fail
    go_ret3
    exact ⟨b11, .inl ⟨HR.out, g, c7, rfl, by rw [← HX7.out]; exact HO8.out⟩⟩
end Go.Proofs.YtcolicmefehcnaaDoor

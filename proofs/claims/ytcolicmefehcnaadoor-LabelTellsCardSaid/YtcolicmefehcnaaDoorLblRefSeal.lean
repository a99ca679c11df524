/- The document's Seal: as the program's. No conditions but those that stand in each lemma. -/
import Derived.Test.YtcolicmefehcnaaDoorLblRefRight
import Derived.Test.YtcolicmefehcnaaDoorLblSeal
import Derived.Test.YtcolicmefehcnaaDoorPtrRefPut
import Derived.Test.YtcolicmefehcnaaDoorCrcRef
namespace Go.Proofs.YtcolicmefehcnaaDoor
open Go.RowKit

def sliceLen : Value → Nat
  | .slice _ n _ => n
  | _ => 0
theorem zerosL_snoc (k : Nat) : zerosL k ++ [0] = zerosL (k + 1) := by unfold zerosL; rw [List.replicate_succ']
/-- At a round's head: so many bytes are laid. -/
def PadAt (w0 : World) (l : Lb) (B : Nat) (v : Value) (wr : World) : Prop :=
  ∃ N A c, 72 ≤ N ∧ N ≤ 500 ∧ v = .slice A N c ∧ N = (headB l ++ zerosL (N - 72)).length ∧ Own wr B A c (headB l ++ zerosL (N - 72)) ∧ Row wr w0.heap.size 34 (lcells l) ∧ Below w0.heap.size w0 wr ∧ w0.heap.size < B ∧ B ≤ wr.heap.size
set_option maxRecDepth 100000 in
set_option maxHeartbeats 4000000 in
theorem rseal_any (l : Lb) (w : World) (hl : l.Ok) : Calls Tryd.prog 8 #[.agg (lcells l)] w (SealEnds l w) := by
  have r1 := Row.new w 34 (lcells l)
  have b1 : Below w.heap.size w (w.alloc (.cells (lcells l) 34)) := (Below.refl _ _).alloc (Nat.le_refl _) _
  have HS := Lib.hid hl.root.shaL
  have HO := Lib.hid hl
  have HB := Lib.hid (bodyB_bytes l hl.root.shaB)
  clear hl
  go_enter Tryd.func8, Tryd.ntmps8
  go_wp2_with (refine wpList_loadL (.tmp 1) _ ltR rfl rfl w.heap.size rfl l HS.out r1 ?_)
  refine (rlright_any l _ HO.out).mono ?_
  rintro e w2 ⟨rfl, hb2⟩
  have r2 := r1.keep hb2
  have b2 := b1.trans (hb2.mono b1.size)
  clear r1 b1 hb2
  cases hR : l.right with
  | false =>
    go_wp2_with fail
    go_ret3
    exact ⟨b2, .inr ⟨hR, rfl⟩⟩
  | true =>
    have hep := (Lb.right_iff.1 hR).1
    have hmd : IntKind.i64.wrap (l.epoch.tmod 2) = l.epoch.tmod 2 := IntWalk.i64_in _ (by rw [Int.tmod_eq_emod_of_nonneg (by omega)]; omega)
    have HM := Lib.hid hmd
    have HR := Lib.hid hR
    clear hR hep hmd
    have ce := lrow_epoch r2
    have e1 := u64w_wrap l.epoch
    go_wp2_with fail
    refine (fixedRef_any none 0 0 [] 8 (u64w l.epoch) _ rfl Src.none_ (by omega) (u64w_lo _) (u64w_hi _)).mono ?_
    rintro e w3 ⟨v1, rfl, A1, n1, c1, rfl, hn1, ho1, hb3⟩
    have r3 := r2.keep hb3
    have b3 := b2.trans (hb3.mono b2.size)
    obtain ⟨xs1, hx1⟩ : ∃ l', l' = [] ++ fixedOf 8 [u64w l.epoch] := ⟨_, rfl⟩
    rw [← hx1] at hn1 ho1
    have HX1 := Lib.hid (show xs1 = e8 l.epoch from hx1)
    obtain rfl : n1 = 8 := by rw [hn1, HX1.out, e8_length]
    have Hn1 := Lib.hid hn1
    have HO1 := Lib.hid ho1
    have lt2 := r2.lt
    have le3 := hb3.size
    have s2 := b2.size
    clear hx1 hn1 ho1 hb3 b2 r2 ce e1
    have e2 := u64w_wrap l.next
    go_wp2_with (at_builtin; refine wpList_append_text rfl _ _ rfl w2.heap.size A1 8 c1 xs1 rfl Hn1.out HO1.out (by omega) ⟨#[83, 66, 88, 49]⟩ rfl (by have : (⟨#[83, 66, 88, 49]⟩ : ByteArray).size = 4 := rfl; omega) le3 ?_; rintro v w4 ⟨A2, n2, c2, rfl, hn2, ho2, hb4⟩; have r4 := r3.keepB hb4 lt2; have b4 := b3.trans (hb4.mono s2); have cn := lrow_next r4 HS.out; have HN2 := Lib.hid hn2; have HO2 := Lib.hid ho2; clear r3 b3 hb4 hn2 ho2)
    obtain ⟨xs2, hx2⟩ : ∃ l', l' = xs1 ++ numsOf ⟨#[83, 66, 88, 49]⟩ := ⟨_, rfl⟩
    rw [← hx2] at HN2 HO2
    have HX2 := Lib.hid (show xs2 = e8 l.epoch ++ lettersB by rw [hx2, HX1.out, letters_text])
    obtain rfl : n2 = 12 := by rw [HN2.out, HX2.out, List.length_append, e8_length]; rfl
    clear hx2 HX1 Hn1 HO1
    refine (fixedRef_any A2 12 c2 xs2 8 (u64w l.next) _ HN2.out HO2.out.src (by omega) (u64w_lo _) (u64w_hi _)).mono ?_
    rintro e w5 ⟨v3, rfl, A3, n3, c3, rfl, hn3, ho3, hb5⟩
    have r5 := r4.keep hb5
    have b5 := b4.trans (hb5.mono b4.size)
    obtain ⟨xs3, hx3⟩ : ∃ l', l' = xs2 ++ fixedOf 8 [u64w l.next] := ⟨_, rfl⟩
    rw [← hx3] at hn3 ho3
    have HX3 := Lib.hid (show xs3 = firstB l by rw [hx3, HX2.out]; rfl)
    obtain rfl : n3 = 20 := by rw [hn3, HX3.out, firstB_length]
    have HN3 := Lib.hid hn3
    have HO3 := Lib.hid ho3
    clear hx3 hn3 ho3 HX2 HN2 HO2 hb5 b4 r4 cn e2
    go_wp2_with (refine wpList_loadRoot (.tmp 21) rfl rfl w.heap.size rfl l HS.out r5 ?_)
    refine (refPut_any A3 20 c3 xs3 l.root _ HO.out.root HN3.out HO3.out.src (by omega)).mono ?_
    rintro e w6 ⟨v4, rfl, A4, n4, c4, rfl, hn4, ho4, hb6⟩
    have r6 := r5.keep hb6
    have b6 := b5.trans (hb6.mono b5.size)
    obtain ⟨xs4, hx4⟩ : ∃ l', l' = xs3 ++ putOf l.root := ⟨_, rfl⟩
    rw [← hx4] at hn4 ho4
    have HX4 := Lib.hid (show xs4 = headB l by rw [hx4, HX3.out]; rfl)
    obtain rfl : n4 = 72 := by rw [hn4, HX4.out, headB_length l HS.out]
    have lt5 := r5.lt
    have s5 := b5.size
    have start : PadAt w l w5.heap.size (.slice A4 72 c4) w6 :=
      ⟨72, A4, c4, Nat.le_refl _, by omega, rfl, by rw [List.length_append, headB_length l HS.out, zerosL_length], by rw [show headB l ++ zerosL (72 - 72) = headB l by unfold zerosL; simp, ← HX4.out]; exact ho4, r6, b6, lt5, hb6.size⟩
    clear hx4 hn4 ho4 HX3 HN3 HO3 HX4 hb6 b5 r5 r6 b6
    generalize w5.heap.size = B at *
    go_wp2_with fail
    go_loopw [5] (fun v wr => PadAt w l B v wr) (fun v _ => 500 - sliceLen v)
    case atStart => exact start
    case round =>
      clear start
      obtain ⟨N, A, c, hN1, hN2, rfl, hn, ho, r7, b7, hB1, hB2⟩ := hrel
      have HN := Lib.hid hn
      have HOw := Lib.hid ho
      obtain ⟨xs5, hx5⟩ : ∃ l', l' = headB l ++ zerosL (N - 72) := ⟨_, rfl⟩
      rw [← hx5] at HN HOw
      clear hn ho
      by_cases hlt : N < 500
      · have g1 : decide ((N : Int) < 500) = true := by simp; omega
        have g2 : decide (N < 500) = true := by simp; omega
        have hs1 := src_new wr 0
        have hb8 : Below wr.heap.size wr (wr.alloc (.cells #[.int .u8 0] 5)) := (Below.refl _ _).alloc (Nat.le_refl _) _
        have HO8 := Lib.hid (HOw.out.keep hb8)
        have HX5 := Lib.hid hx5
        have hB3 := Nat.le_trans hB2 hb8.size
        have r8 := r7.keep hb8
        have b8 := b7.trans (hb8.mono b7.size)
        have s7 := Nat.le_of_lt hB1
        clear hx5 HOw r7 b7 hb8
        go_wp2_with (at_builtin; refine wpList_append_src rfl _ _ rfl B A N c xs5 rfl HN.out HO8.out _ 1 1 [0] rfl rfl hs1 (by omega) hB3 ?_; rintro v w9 ⟨A9, n9, c9, rfl, hn9, ho9, hb9⟩; have r9 := r8.keepB hb9 hB1; have b9 := b8.trans (hb9.mono s7); have hB4 := Nat.le_trans hB3 hb9.size; have HN9 := Lib.hid hn9; have HO9 := Lib.hid ho9; clear r8 b8 hb9 hn9 ho9)
        have HX9 : Hid (xs5 ++ [0] = headB l ++ zerosL (N + 1 - 72)) := Lib.hid (by rw [HX5.out, List.append_assoc, zerosL_snoc, show N - 72 + 1 = N + 1 - 72 by omega])
        obtain rfl : n9 = N + 1 := by rw [HN9.out, List.length_append, ← HN.out]; rfl
        go_roundw
        case rel => exact ⟨N + 1, A9, c9, by omega, by omega, rfl, by rw [← HX9.out]; exact HN9.out, by rw [← HX9.out]; exact HO9.out, r9, b9, hB1, hB4⟩
        case measure => simp [sliceLen]; omega
      · obtain rfl : N = 500 := by omega
        have HX5 := Lib.hid (show xs5 = bodyB l by rw [hx5]; rfl)
        have s7 := b7.size
        clear hx5 hlt hN1 hN2
        go_wp2_with fail
        refine (refGo_any 0#32 A 500 c xs5 _ HN.out HOw.out.src (by rw [HX5.out]; exact HB.out) (by omega)).mono ?_
        rintro e w' ⟨rfl, rfl⟩
        obtain ⟨sm, hsm⟩ : ∃ s, s = goW 0#32 xs5 := ⟨_, rfl⟩
        rw [← hsm]
        have HSM := Lib.hid (show sm = sumB l by rw [hsm, HX5.out]; rfl)
        have e3 := uv_wrap64 sm
        clear hsm
        go_wp2_with fail
        refine (fixedRef_any A 500 c xs5 4 (uv sm) _ HN.out HOw.out.src (by omega) (uv_lo _) (by have := uv_hi sm; omega)).mono ?_
        rintro e w9 ⟨v6, rfl, A6, n6, c6, rfl, hn6, ho6, hb9⟩
        have r9 := r7.keep hb9
        have b9 := b7.trans (hb9.mono b7.size)
        obtain ⟨xs6, hx6⟩ : ∃ l', l' = xs5 ++ fixedOf 4 [uv sm] := ⟨_, rfl⟩
        rw [← hx6] at hn6 ho6
        have HX6 := Lib.hid (show xs6 = bodyB l ++ e4 (sumB l) by rw [hx6, HX5.out, HSM.out]; rfl)
        obtain rfl : n6 = 504 := by rw [hn6, HX6.out, List.length_append, bodyB_length l HS.out, e4_length]
        have HN6 := Lib.hid hn6
        have HO6 := Lib.hid ho6
        have r9d := r9.drew
        have b9d := b9.drew
        have ce : ∀ x : Above w9.drew, x.1.cell? ⟨w.heap.size, 0, none⟩ = some (.int .i64 l.epoch) := r9d.above (lcells_0 l)
        have e1 := u64w_wrap l.epoch
        have hmd := HM.out
        clear hx6 hn6 ho6 HX5 HN HOw HSM hb9 b7 r7 e3
        go_wp2_with fail
        refine wp_region_segs [([0, 1, 2, 3, 5, 6, 7], 4)] [8, 9, 10] (by kernel_rfl) (by kernel_rfl) (by kernel_rfl) (by kernel_rfl) (fun _ _ d _ _ h => by cases d <;> exact h) ?_
        refine wpSegs_next (by simp [pickOps]; rfl) ?_
        repeat (go_big_quiet_step (fail))
        refine wpQuiet_nil ?_
        refine wpOp_alone rfl rfl (fun K hK => ?_)
        go_simp
        refine (fixedRef_any A6 504 c6 xs6 8 (u64w l.epoch) _ HN6.out (HO6.out.keep (Ext.drew _)).src (by omega) (u64w_lo _) (u64w_hi _)).mono ?_
        rintro e w10 ⟨v7, rfl, A7, n7, c7, rfl, hn7, ho7, hb10⟩
        have b10 := b9d.trans (hb10.mono b9d.size)
        obtain ⟨xs7, hx7⟩ : ∃ l', l' = xs6 ++ fixedOf 8 [u64w l.epoch] := ⟨_, rfl⟩
        rw [← hx7] at hn7 ho7
        have HX7 := Lib.hid (show xs7 = sealB l by rw [hx7, HX6.out]; rfl)
        obtain rfl : n7 = 512 := by rw [hn7, HX7.out, sealB_length l HS.out]
        obtain ⟨g, cap, hv, _, _⟩ := World.ownsRow.form ho7 (by rw [HX7.out, sealB_length l HS.out]; omega)
        obtain ⟨rfl, rfl⟩ : A7 = some ⟨g, 0, none⟩ ∧ c7 = cap := by injection hv with h1 _ h3; exact ⟨h1, h3⟩
        have HO7 := Lib.hid (ho7.more b9d.size)
        refine hK _ _ ⟨hb10, ?_⟩
        clear hK K hx7 hn7 ho7 hv HX6 HN6 HO6 hb10 b9 r9 r9d b9d ce e1
        refine wpSegs_last (by simp [pickOps]; rfl) ?_
        repeat (go_big_quiet_step (fail))
        refine wpQuiet_nil ?_
        go_wp2_with fail
        go_ret3
        exact ⟨b10, .inl ⟨HR.out, g, c7, rfl, by rw [← HX7.out]; exact HO7.out⟩⟩
end Go.Proofs.YtcolicmefehcnaaDoor

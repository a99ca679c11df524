/- The document's Put: for any pointer behind any bytes (at most 889000): as the program's. -/
import Derived.Test.YtnoofmdhhlcbkaaPtrPut
import Derived.Test.YtnoofmdhhlcbkaaFixedRef
namespace Go.Proofs.Ytnoofmdhhlcbkaa
open Go.RowKit

/-- So many bytes of the sum are laid. -/
def ShaAt (w : World) (ps : Array Value) (ys l : List Int) (v i : Value) (wr : World) : Prop :=
  ∃ (k : Nat) (A : Option Addr) (n c : Nat), k ≤ 32 ∧ i = .int .i64 (k : Int) ∧ v = .slice A n c ∧ n = (ys ++ l.take k).length ∧ Own wr (w.heap.size + 1) A c (ys ++ l.take k) ∧ Row wr w.heap.size 43 ps ∧ Below w.heap.size w wr

set_option maxHeartbeats 4000000 in
theorem refPut_any (A : Option Addr) (n c : Nat) (xs : List Int) (p : Pt) (w : World) (hp : p.Ok) (hn : n = xs.length) (hs : Src .u8 w A xs) (hl : n ≤ 889000) :
    Calls Try.prog 51 #[.slice A n c, .agg (pcells p)] w (Gives w (xs ++ putOf p)) := by
  have r1 := Row.new w 43 (pcells p)
  have b1 : Below w.heap.size w (w.alloc (.cells (pcells p) 43)) := (Below.refl _ _).alloc (Nat.le_refl _) _
  have Hn := Lib.hid hn
  have Hs := Lib.hid hs
  have HL := Lib.hid hp.shaL
  have crc1 := hp.crc1
  have crc2 : p.crc < 18446744073709551616 := by have := hp.crc2; omega
  have HC1 := Lib.hid crc1
  have HC2 := Lib.hid crc2
  have HP := Lib.hid (show putOf p = fixedOf 4 [u64w p.place] ++ fixedOf 4 [u64w p.len] ++ fixedOf 8 [u64w p.birth] ++ fixedOf 4 [p.crc] ++ p.sha from rfl)
  have lc0 := row_place r1
  have e0 := u64w_wrap p.place
  have kc : IntKind.u64.wrap p.crc = p.crc := by rw [IntKind.wrap_u64]; omega
  have HK := Lib.hid kc
  have HB := Lib.hid hp.shaB
  clear hn hs hp kc crc1 crc2
  go_enter Try.func51, Try.ntmps51
  go_wp2_with fail
  refine (fixedRef_any A n c xs 4 (u64w p.place) _ Hn.out (Hs.out.keep ((Below.refl _ _).alloc (Nat.le_refl _) _)) (by omega) (u64w_lo _) (u64w_hi _)).mono ?_
  rintro e w2 ⟨v1, rfl, A1, n1, c1, rfl, hn1, ho1, hb1⟩
  have r2 := r1.keep hb1
  have b2 := b1.trans (hb1.mono b1.size)
  obtain ⟨xs1, hx1⟩ : ∃ l, l = xs ++ fixedOf 4 [u64w p.place] := ⟨_, rfl⟩
  rw [← hx1] at hn1 ho1
  have HX1 := Lib.hid hx1
  have Hn1 := Lib.hid hn1
  have hlen1 : n1 ≤ 889008 := by rw [hn1, hx1, List.length_append, ← Hn.out]; have := fixedOf_len 4 [u64w p.place]; simp only [List.length_cons, List.length_nil] at this; omega
  clear hx1 hn1 hb1 b1 r1 lc0 e0
  have lc1 := row_len r2
  have e1 := u64w_wrap p.len
  go_wp2_with fail
  refine (fixedRef_any A1 n1 c1 xs1 4 (u64w p.len) _ Hn1.out ho1.src (by omega) (u64w_lo _) (u64w_hi _)).mono ?_
  rintro e w3 ⟨v2, rfl, A2, n2, c2, rfl, hn2, ho2, hb2⟩
  have r3 := r2.keep hb2
  have b3 := b2.trans (hb2.mono b2.size)
  obtain ⟨xs2, hx2⟩ : ∃ l, l = xs1 ++ fixedOf 4 [u64w p.len] := ⟨_, rfl⟩
  rw [← hx2] at hn2 ho2
  have HX2 := Lib.hid hx2
  have Hn2 := Lib.hid hn2
  have hlen2 : n2 ≤ 889016 := by rw [hn2, hx2, List.length_append, ← Hn1.out]; have := fixedOf_len 4 [u64w p.len]; simp only [List.length_cons, List.length_nil] at this; omega
  clear hx2 hn2 hb2 b2 r2 lc1 e1
  clear Hn1 ho1 hlen1
  have lc2 := row_birth r3
  have e2 := u64w_wrap p.birth
  go_wp2_with fail
  refine (fixedRef_any A2 n2 c2 xs2 8 (u64w p.birth) _ Hn2.out ho2.src (by omega) (u64w_lo _) (u64w_hi _)).mono ?_
  rintro e w4 ⟨v3, rfl, A3, n3, c3, rfl, hn3, ho3, hb3⟩
  have r4 := r3.keep hb3
  have b4 := b3.trans (hb3.mono b3.size)
  obtain ⟨xs3, hx3⟩ : ∃ l, l = xs2 ++ fixedOf 8 [u64w p.birth] := ⟨_, rfl⟩
  rw [← hx3] at hn3 ho3
  have HX3 := Lib.hid hx3
  have Hn3 := Lib.hid hn3
  have hlen3 : n3 ≤ 889024 := by rw [hn3, hx3, List.length_append, ← Hn2.out]; have := fixedOf_len 8 [u64w p.birth]; simp only [List.length_cons, List.length_nil] at this; omega
  clear hx3 hn3 hb3 b3 r3 lc2 e2
  clear Hn2 ho2 hlen2
  have lc3 := row_crc r4
  have e3 := HK.out
  go_wp2_with fail
  refine (fixedRef_any A3 n3 c3 xs3 4 p.crc _ Hn3.out ho3.src (by omega) HC1.out HC2.out).mono ?_
  rintro e w5 ⟨v4, rfl, A4, n4, c4, rfl, hn4, ho4, hb4⟩
  have r5 := r4.keep hb4
  have hz4 := r4.lt
  have b5 := b4.trans (hb4.mono b4.size)
  obtain ⟨xs4, hx4⟩ : ∃ l, l = xs3 ++ fixedOf 4 [p.crc] := ⟨_, rfl⟩
  rw [← hx4] at hn4 ho4
  have HX4 := Lib.hid hx4
  have Hn4 := Lib.hid hn4
  have hlen4 : n4 ≤ 889032 := by rw [hn4, hx4, List.length_append, ← Hn3.out]; have := fixedOf_len 4 [p.crc]; simp only [List.length_cons, List.length_nil] at this; omega
  clear hx4 hn4 hb4 b4 r4 lc3 e3
  clear Hn3 ho3 hlen3
  go_wp2_with fail
  go_loopw [0, 5] (fun v i wr => ShaAt w (pcells p) xs4 p.sha v i wr) (fun _ i _ => 32 - (intOf i).toNat)
  case atStart => exact ⟨0, A4, n4, c4, by omega, rfl, rfl, by rw [List.take_zero, List.append_nil]; exact Hn4.out, by rw [List.take_zero, List.append_nil]; exact ho4.more (by omega), r5, b5⟩
  case round =>
    clear r5 b5 ho4
    obtain ⟨k, A6, n6, c6, hk, rfl, rfl, hn6, ho6, r6, hb6⟩ := hrel
    have HO6 := Lib.hid ho6
    by_cases hlt : k < 32
    · have hk2 : k < p.sha.length := by rw [HL.out]; exact hlt
      have hl6 : n6 ≤ 889100 := by rw [hn6, List.length_append, List.length_take, ← Hn4.out]; omega
      have HN6 := Lib.hid hn6
      have HT := Lib.hid (show xs4 ++ p.sha.take (k + 1) = (xs4 ++ p.sha.take k) ++ [p.sha.getD k 0] by rw [take_snoc_getD _ _ hk2, List.append_assoc])
      have hc := r6.cell (pcells_sha p k hk2)
      have R6 := Lib.hid r6
      have hz6 := r6.lt
      clear hn6 ho6 r6 hk2
      generalize p.sha.getD k 0 = x at *
      go_wp2_with (at_builtin; refine wpList_append_src rfl _ _ rfl (w.heap.size + 1) A6 n6 c6 (xs4 ++ p.sha.take k) rfl HN6.out (HO6.out.keep ((Below.refl _ _).alloc (Nat.le_refl _) _)) _ 1 1 [x] rfl rfl (src_new _ _) (by omega) (by simp; omega) ?_; rintro v w7 ⟨A7, n7, c7, rfl, hn7, ho7, hb7⟩; have HN7 := Lib.hid hn7; clear hn7)
      go_roundw
      case rel => exact ⟨k + 1, A7, n7, c7, by omega, by go_num, rfl, by rw [HT.out]; exact HN7.out, by rw [HT.out]; exact ho7, (R6.out.old _).keepB hb7 (by omega), (hb6.alloc hb6.size _).trans (hb7.mono (by omega))⟩
      case measure => simp [intOf]; omega
    · obtain rfl : k = 32 := by omega
      have HJ := Lib.hid (show xs4 ++ p.sha.take 32 = xs ++ putOf p by
        rw [List.take_of_length_le (by rw [HL.out]; exact Nat.le_refl _), HP.out, HX4.out, HX3.out, HX2.out, HX1.out]
        simp)
      have HN6 := Lib.hid hn6
      clear hn6 ho6 r6
      go_wp2_with fail
      go_ret
      exact ⟨_, rfl, A6, n6, c6, rfl, by rw [← HJ.out]; exact HN6.out, by rw [← HJ.out]; exact HO6.out.more (by omega), hb6⟩
end Go.Proofs.Ytnoofmdhhlcbkaa

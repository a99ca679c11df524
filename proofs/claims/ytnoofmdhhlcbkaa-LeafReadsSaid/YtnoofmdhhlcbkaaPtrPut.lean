/- Put: for any pointer behind any bytes (at most 889000): the bytes, and behind them its 52, in memory of the call's own. -/
import Derived.Test.YtnoofmdhhlcbkaaPtrSmall
import Derived.Test.YtnoofmdhhlcbkaaConcat
import Derived.Test.YtnoofmdhhlcbkaaFixed
namespace Go.Proofs.Ytnoofmdhhlcbkaa
open Go.RowKit

/-- As a number of 64 bits. -/
def u64w (n : Int) : Int := n % 18446744073709551616
theorem u64w_lo (n : Int) : 0 ≤ u64w n := by unfold u64w; omega
theorem u64w_hi (n : Int) : u64w n < 18446744073709551616 := by unfold u64w; omega
theorem u64w_wrap (n : Int) : IntKind.u64.wrap n = u64w n := by rw [IntKind.wrap_u64]; rfl
/-- What Put lays. -/
def putOf (p : Pt) : List Int := fixedOf 4 [u64w p.place] ++ fixedOf 4 [u64w p.len] ++ fixedOf 8 [u64w p.birth] ++ fixedOf 4 [p.crc] ++ p.sha
theorem one_src (w : World) (x : Int) (g : Nat) (hg : w.heap.size = g) : Src .u64 (w.alloc (.cells #[.int .u64 x] 52)) (some ⟨g, 0, none⟩) [x] := fun _ => by
  subst hg
  refine ⟨w.heap.size, 0, rfl, by simp, fun i hi => ?_⟩
  have : i = 0 := by simpa using hi
  subst this
  exact cell_one_new w (.int .u64 x) 52 0 _ rfl
theorem alloc_size (w : World) (o : Obj) : (w.alloc o).heap.size = w.heap.size + 1 := by show (w.heap.push _).size = _; rw [Array.size_push]
theorem one_num {x : Int} (h1 : 0 ≤ x) (h2 : x < 18446744073709551616) : ∀ y ∈ [x], 0 ≤ y ∧ y < 18446744073709551616 := by
  intro y hy
  have := List.mem_singleton.1 hy
  omega
set_option maxHeartbeats 4000000 in
theorem put_any (A : Option Addr) (n c : Nat) (xs : List Int) (p : Pt) (w : World) (hp : p.Ok) (hn : n = xs.length) (hs : Src .u8 w A xs) (hl : n ≤ 889000) :
    Calls Try.prog 38 #[.slice A n c, .agg (pcells p)] w (Gives w (xs ++ putOf p)) := by
  have r1 := Row.new w 43 (pcells p)
  have b1 : Below w.heap.size w (w.alloc (.cells (pcells p) 43)) := (Below.refl _ _).alloc (Nat.le_refl _) _
  have Hn := Lib.hid hn
  have Hs := Lib.hid hs
  have HL := Lib.hid hp.shaL
  have HC := Lib.hid (one_num hp.crc1 (by have := hp.crc2; omega))
  have HP := Lib.hid (show putOf p = fixedOf 4 [u64w p.place] ++ fixedOf 4 [u64w p.len] ++ fixedOf 8 [u64w p.birth] ++ fixedOf 4 [p.crc] ++ p.sha from rfl)
  have lc0 := row_place r1
  have e0 := u64w_wrap p.place
  have kc : IntKind.u64.wrap p.crc = p.crc := by rw [IntKind.wrap_u64]; have := hp.crc1; have := hp.crc2; omega
  have HK := Lib.hid kc
  clear hn hs hp kc
  go_enter Try.func38, Try.ntmps38
  go_wp2_with fail
  have q1 := r1.old (.cells #[.int .u64 (u64w p.place)] 52)
  have a1 := b1.alloc b1.size (.cells #[.int .u64 (u64w p.place)] 52)
  refine (fixed_any none 0 0 [] 4 _ 1 1 [(u64w p.place)] _ rfl Src.none_ (by omega) rfl (one_src _ _ _ (alloc_size _ _)) (by omega) (one_num (u64w_lo _) (u64w_hi _))).mono ?_
  rintro e w2 ⟨v1, rfl, A1, n1, c1, rfl, hn1, ho1, hb1⟩
  have r2 := q1.keep hb1
  have b2 := a1.trans (hb1.mono a1.size)
  obtain ⟨xs1, hx1⟩ : ∃ l, l = [] ++ fixedOf 4 [u64w p.place] := ⟨_, rfl⟩
  rw [← hx1] at hn1 ho1
  have HX1 := Lib.hid hx1
  have Hn1 := Lib.hid hn1
  have hlen1 : n1 ≤ 8 := by rw [hn1, hx1, List.length_append]; have := fixedOf_len 4 [u64w p.place]; simp only [List.length_cons, List.length_nil] at this; simp only [List.length_nil]; omega
  clear hx1 hn1 a1 q1 hb1 b1 r1
  clear lc0 e0
  have lc1 := row_len r2
  have e1 := u64w_wrap p.len
  go_wp2_with fail
  have q2 := r2.old (.cells #[.int .u64 (u64w p.len)] 52)
  have a2 := b2.alloc b2.size (.cells #[.int .u64 (u64w p.len)] 52)
  refine (fixed_any A1 n1 c1 xs1 4 _ 1 1 [(u64w p.len)] _ Hn1.out ((ho1.keep ((Below.refl _ _).alloc (Nat.le_refl _) _)).src) (by omega) rfl (one_src _ _ _ rfl) (by omega) (one_num (u64w_lo _) (u64w_hi _))).mono ?_
  rintro e w3 ⟨v2, rfl, A2, n2, c2, rfl, hn2, ho2, hb2⟩
  have r3 := q2.keep hb2
  have b3 := a2.trans (hb2.mono a2.size)
  obtain ⟨xs2, hx2⟩ : ∃ l, l = xs1 ++ fixedOf 4 [u64w p.len] := ⟨_, rfl⟩
  rw [← hx2] at hn2 ho2
  have HX2 := Lib.hid hx2
  have Hn2 := Lib.hid hn2
  have hlen2 : n2 ≤ 16 := by rw [hn2, hx2, List.length_append, ← Hn1.out]; have := fixedOf_len 4 [u64w p.len]; simp only [List.length_cons, List.length_nil] at this; omega
  clear hx2 hn2 a2 q2 hb2 b2 r2
  clear lc1 e1
  clear Hn1 ho1 hlen1
  have lc2 := row_birth r3
  have e2 := u64w_wrap p.birth
  go_wp2_with fail
  have q3 := r3.old (.cells #[.int .u64 (u64w p.birth)] 52)
  have a3 := b3.alloc b3.size (.cells #[.int .u64 (u64w p.birth)] 52)
  refine (fixed_any A2 n2 c2 xs2 8 _ 1 1 [(u64w p.birth)] _ Hn2.out ((ho2.keep ((Below.refl _ _).alloc (Nat.le_refl _) _)).src) (by omega) rfl (one_src _ _ _ rfl) (by omega) (one_num (u64w_lo _) (u64w_hi _))).mono ?_
  rintro e w4 ⟨v3, rfl, A3, n3, c3, rfl, hn3, ho3, hb3⟩
  have r4 := q3.keep hb3
  have b4 := a3.trans (hb3.mono a3.size)
  obtain ⟨xs3, hx3⟩ : ∃ l, l = xs2 ++ fixedOf 8 [u64w p.birth] := ⟨_, rfl⟩
  rw [← hx3] at hn3 ho3
  have HX3 := Lib.hid hx3
  have Hn3 := Lib.hid hn3
  have hlen3 : n3 ≤ 24 := by rw [hn3, hx3, List.length_append, ← Hn2.out]; have := fixedOf_len 8 [u64w p.birth]; simp only [List.length_cons, List.length_nil] at this; omega
  clear hx3 hn3 a3 q3 hb3 b3 r3
  clear lc2 e2
  clear Hn2 ho2 hlen2
  have lc3 := row_crc r4
  have e3 := HK.out
  go_wp2_with fail
  have q4 := r4.old (.cells #[.int .u64 p.crc] 52)
  have a4 := b4.alloc b4.size (.cells #[.int .u64 p.crc] 52)
  refine (fixed_any A3 n3 c3 xs3 4 _ 1 1 [p.crc] _ Hn3.out ((ho3.keep ((Below.refl _ _).alloc (Nat.le_refl _) _)).src) (by omega) rfl (one_src _ _ _ rfl) (by omega) HC.out).mono ?_
  rintro e w5 ⟨v4, rfl, A4, n4, c4, rfl, hn4, ho4, hb4⟩
  have r5 := q4.keep hb4
  have b5 := a4.trans (hb4.mono a4.size)
  obtain ⟨xs4, hx4⟩ : ∃ l, l = xs3 ++ fixedOf 4 [p.crc] := ⟨_, rfl⟩
  rw [← hx4] at hn4 ho4
  have HX4 := Lib.hid hx4
  have Hn4 := Lib.hid hn4
  have hlen4 : n4 ≤ 32 := by rw [hn4, hx4, List.length_append, ← Hn3.out]; have := fixedOf_len 4 [p.crc]; simp only [List.length_cons, List.length_nil] at this; omega
  clear hx4 hn4 a4 q4 hb4 b4 r4
  clear lc3 e3
  clear Hn3 ho3 hlen3
  go_wp2_with fail
  have RG := Row.new w5 22 #[.slice A n c, .slice A4 n4 c4, .slice (some ⟨w.heap.size, 4, none⟩) 32 32]
  have hkp : Below w5.heap.size w5 (w5.alloc (.cells #[.slice A n c, .slice A4 n4 c4, .slice (some ⟨w.heap.size, 4, none⟩) 32 32] 22)) := (Below.refl _ _).alloc (Nat.le_refl _) _
  have bG := b5.trans (hkp.mono b5.size)
  have HPs : Parts (w5.alloc (.cells #[.slice A n c, .slice A4 n4 c4, .slice (some ⟨w.heap.size, 4, none⟩) 32 32] 22)) w5.heap.size [⟨A, n, c, xs⟩, ⟨A4, n4, c4, xs4⟩, ⟨some ⟨w.heap.size, 4, none⟩, 32, 32, p.sha⟩] := by
    refine ⟨RG.lt, fun i hi => ?_, fun q hq => ?_⟩
    · rcases i with _ | _ | _ | i
      · exact RG.cell (j := 0) rfl
      · exact RG.cell (j := 1) rfl
      · exact RG.cell (j := 2) rfl
      · exact absurd hi (by simp only [List.length_cons, List.length_nil]; omega)
    · simp only [List.mem_cons, List.not_mem_nil, or_false] at hq
      rcases hq with rfl | rfl | rfl
      · exact ⟨Hn.out, Hs.out.keep bG⟩
      · exact ⟨Hn4.out, ho4.src.keep hkp⟩
      · exact ⟨HL.out.symm, (row_sha r5).keep hkp⟩
  have hj : joined [⟨A, n, c, xs⟩, ⟨A4, n4, c4, xs4⟩, ⟨some ⟨w.heap.size, 4, none⟩, 32, 32, p.sha⟩] = xs ++ putOf p := by
    rw [HP.out, HX4.out, HX3.out, HX2.out, HX1.out]
    simp [joined]
  have hjl : (joined [⟨A, n, c, xs⟩, ⟨A4, n4, c4, xs4⟩, ⟨some ⟨w.heap.size, 4, none⟩, 32, 32, p.sha⟩]).length ≤ 1000000 := by
    simp only [joined, List.flatMap_cons, List.flatMap_nil, List.length_append, List.length_nil]
    rw [← Hn.out, ← Hn4.out, HL.out]
    omega
  have HJ := Lib.hid hj
  clear hj
  refine (concat_any w5.heap.size 3 3 _ _ rfl (by omega) HPs hjl).mono ?_
  rw [HJ.out]
  rintro e w6 ⟨v6, rfl, A6, n6, c6, rfl, hn6, ho6, hb6⟩
  have HN6 := Lib.hid hn6
  clear hn6 HPs hjl RG
  go_wp2_with fail
  go_ret
  exact ⟨_, rfl, A6, n6, c6, rfl, HN6.out, ho6.more bG.size, bG.trans (hb6.mono bG.size)⟩
end Go.Proofs.Ytnoofmdhhlcbkaa

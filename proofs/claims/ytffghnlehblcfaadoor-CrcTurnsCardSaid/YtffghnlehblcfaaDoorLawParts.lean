/- The walk of CrcParts: for any two rows of bytes it answers true, and writes nothing that was there. -/
import Derived.Test.YtffghnlehblcfaaDoorJoin
import Derived.Lib.SlBytesConst
namespace Go.Proofs.YtffghnlehblcfaaDoor
open Go.RowKit

theorem bytesA : IsBytes [97] := IsBytes.cons (by omega) IsBytes.nil
/-- A literal's byte in a block of its own reads as a list of one. -/
theorem src_lit (w : World) (x : Int) (t : TypeId) (f : Nat × Nat) : Src .u8 (w.alloc (.cells #[.int .u8 x] t f)) (some ⟨w.heap.size, 0, none⟩) [x] := fun _ => by
  refine ⟨w.heap.size, 0, rfl, by simp, fun i hi => ?_⟩
  have : i = 0 := by simpa using hi
  subst this
  unfold World.cell?
  rw [heap_alloc_new]
  rfl
theorem uvA : uv (goW 0#32 [97]) = 3251651376 := by rw [sumA]; rfl

set_option maxRecDepth 100000 in
set_option maxHeartbeats 1000000 in
theorem parts_small (A0 : Option Addr) (n0 c0 : Nat) (xs : List Int) (A1 : Option Addr) (n1 c1 : Nat) (ys : List Int) (w : World) (ht : Tab w) (hn0 : n0 = xs.length) (hs0 : Src .u8 w A0 xs) (hx0 : IsBytes xs)
    (hn1 : n1 = ys.length) (hs1 : Src .u8 w A1 ys) (hx1 : IsBytes ys) (hl : n0 + n1 ≤ 4000) :
    Calls Tryd.prog 3 #[.slice A0 n0 c0, .slice A1 n1 c1] w fun e w' => e = .returned (.bool true) ∧ Below w.heap.size w w' := by
  have Hn0 := Lib.hid hn0
  have Hn1 := Lib.hid hn1
  have Ht := Lib.hid ht
  have HP := Lib.hid (goW_parts 0#32 xs ys)
  have ha : (Below w.heap.size w (w.alloc (.cells #[] 5))) := (Below.refl _ _).alloc (Nat.le_refl _) _
  have hd : decide ((4000 : Int) < (n0 : Int) + (n1 : Int)) = false := by simp; omega
  have hl0 : (n0 : Int) + (n1 : Int) ≤ 4000 := by omega
  have kc := fun (w : World) (C : Array Value) (n c : Nat) => Lib.run_convert_bytes_const (P := Tryd.prog) w 22 5 C n c Tryd.underlying22 Tryd.underlying5
  clear hn0 hn1 ht
  go_enter Tryd.func3, Tryd.ntmps3
  go_wp2_with (first
    | (at_builtin; refine wpList_append_src rfl (.tmp 12) (.tmp 13) rfl w.heap.size _ _ _ [] rfl rfl (own_made w _ (Nat.le_refl _)) A0 n0 c0 xs rfl Hn0.out (hs0.keep ha) (by omega) (by simp) ?_; rintro v w1 ⟨A2, n2, c2, rfl, hn2, ho2, hb2⟩; have hz2 := hb2.size; have Hn2 := Lib.hid hn2; clear hn2; simp only [List.nil_append] at ho2 Hn2)
    | (at_builtin; refine wpList_append_src rfl (.tmp 14) (.tmp 15) rfl w.heap.size A2 n2 c2 xs rfl Hn2.out ho2 A1 n1 c1 ys rfl Hn1.out (hs1.keep (ha.trans hb2)) (by have := Hn2.out; have := Hn0.out; omega) (by simp at hz2; omega) ?_; rintro v w2 ⟨A3, n3, c3, rfl, hn3, ho3, hb3⟩; have Hn3 := Lib.hid hn3; clear hn3))
  have hb4 := (ha.trans hb2).trans hb3
  have hl3 : n3 ≤ 1000000 := by have h3 := Hn3.out; rw [List.length_append, ← Hn0.out, ← Hn1.out] at h3; omega
  refine (sum_any A3 n3 c3 (xs ++ ys) _ (Ht.out.keep hb4) Hn3.out ho3.src (hx0.append hx1) hl3).mono ?_
  rintro e w3 ⟨rfl, hb5⟩
  have hb6 := hb4.trans (hb5.mono hb4.size)
  clear hb5 hb4 hb3 hb2 ho2 ho3 hz2 hl3 ha
  go_wp2_with fail
  refine (sum_any A0 n0 c0 xs _ (Ht.out.keep hb6) Hn0.out (hs0.keep hb6) hx0 (by omega)).mono ?_
  rintro e w4 ⟨rfl, hb5⟩
  have hb7 := hb6.trans (hb5.mono hb6.size)
  clear hb5 hb6
  go_wp2_with fail
  refine (go_any (goW 0#32 xs) A1 n1 c1 ys _ (Ht.out.keep hb7) Hn1.out (hs1.keep hb7) hx1 (by omega)).mono ?_
  rw [HP.out]
  rintro e w5 ⟨rfl, hb5⟩
  have hb8 := hb7.trans (hb5.mono hb7.size)
  clear hb5 hb7
  go_wp2_with fail
  refine (sum_any A0 n0 c0 xs _ (Ht.out.keep hb8) Hn0.out (hs0.keep hb8) hx0 (by omega)).mono ?_
  rintro e w6 ⟨rfl, hb5⟩
  have hb9 := hb8.trans (hb5.mono hb8.size)
  clear hb5 hb8
  go_wp2_with fail
  refine (sum_any A1 n1 c1 ys _ (Ht.out.keep hb9) Hn1.out (hs1.keep hb9) hx1 (by omega)).mono ?_
  rintro e w7 ⟨rfl, hb5⟩
  have hb10 := hb9.trans (hb5.mono hb9.size)
  clear hb5 hb9
  go_wp2_with fail
  refine (join_sums xs ys n1 _ Hn1.out (by omega)).mono ?_
  rintro e w' ⟨rfl, rfl⟩
  go_wp2_with fail
  have hb11 := hb10.trans ((Below.refl w.heap.size _).alloc hb10.size (.cells #[.int .u8 97] 5 (1, 2)))
  refine (sum_any _ 1 1 [97] _ (Ht.out.keep hb11) rfl (src_lit w7 97 5 _) bytesA (by omega)).mono ?_
  rw [uvA]
  rintro e w8 ⟨rfl, hb5⟩
  have hb12 := hb11.trans (hb5.mono hb11.size)
  clear hb5 hb11
  go_wp2_with fail
  go_ret
  exact ⟨rfl, hb12⟩

set_option maxHeartbeats 400000 in
theorem parts_big (A0 : Option Addr) (n0 c0 : Nat) (A1 : Option Addr) (n1 c1 : Nat) (w : World) (hl : 4000 < n0 + n1) (h0 : n0 ≤ 140737488351232) (h1 : n1 ≤ 140737488351232) :
    Calls Tryd.prog 3 #[.slice A0 n0 c0, .slice A1 n1 c1] w fun e w' => e = .returned (.bool true) ∧ Below w.heap.size w w' := by
  have hd : decide ((4000 : Int) < (n0 : Int) + (n1 : Int)) = true := by simp; omega
  have g0 : (n0 : Int) ≤ 140737488351232 := by omega
  have g1 : (n1 : Int) ≤ 140737488351232 := by omega
  clear hl h0 h1
  go_enter Tryd.func3, Tryd.ntmps3
  go_wp2_with fail
  go_ret
  exact ⟨rfl, Below.refl _ _⟩
end Go.Proofs.YtffghnlehblcfaaDoor

/- The walk of CodecFixed: for any bytes, any int and any number of 64 bits it answers true, and writes nothing that was there. -/
import Derived.Test.YtlmpbfmlkpcjeaaTake
import Derived.Test.YtlmpbfmlkpcjeaaFixed
import Derived.BigQuiet
namespace Go.Proofs.Ytlmpbfmlkpcjeaa
open Go.RowKit

theorem src_one64 (w : World) (x : Int) : Src .u64 (w.alloc (.cells #[.int .u64 x] 23)) (some ⟨w.heap.size, 0, none⟩) [x] := fun _ => by
  refine ⟨w.heap.size, 0, rfl, by simp, fun i hi => ?_⟩
  have : i = 0 := by simpa using hi
  subst this
  exact cell_one_new w (.int .u64 x) 23 0 _ rfl
theorem src_two64 (w : World) (x y : Int) : Src .u64 (w.alloc (.cells #[.int .u64 x, .int .u64 y] 23)) (some ⟨w.heap.size, 0, none⟩) [x, y] := fun _ => by
  refine ⟨w.heap.size, 0, rfl, by simp, fun i hi => ?_⟩
  have hi' : i = 0 ∨ i = 1 := by simp at hi; omega
  rw [cell_of_row _ w.heap.size _ #[.int .u64 x, .int .u64 y] 23 (0, 0) (heap_alloc_new w _)]
  rcases hi' with rfl | rfl <;> rfl
theorem in_one {m : Int} (h0 : 0 ≤ m) (h : m < 18446744073709551616) : ∀ y ∈ [m], 0 ≤ y ∧ y < 18446744073709551616 := fun y hy => by
  rw [List.mem_singleton] at hy
  subst hy
  exact ⟨h0, h⟩
theorem in_two : ∀ y ∈ [(258 : Int), 1], 0 ≤ y ∧ y < 18446744073709551616 := by decide
theorem fixed258 : strOfNums ([] ++ fixedOf 2 [258, 1]) = ⟨#[2, 1, 1, 0]⟩ := by decide

set_option maxHeartbeats 2000000 in
theorem fixedlaw_small (A : Option Addr) (n c : Nat) (xs : List Int) (size m : Int) (w : World) (hs1 : -9223372036854775808 ≤ size) (hs2 : size ≤ 9223372036854775807) (hm0 : 0 ≤ m) (hm : m < 18446744073709551616) (hn : n = xs.length) (hs : Src .u8 w A xs) (hx : IsBytes xs) (hl : n ≤ 2000) (hc : n ≤ c) (hcm : c ≤ 9223372036854775807) :
    Calls Try.prog 3 #[.slice A n c, .int .i64 size, .int .u64 m] w fun e w' => e = .returned (.bool true) ∧ Below w.heap.size w w' := by
  have Hn := Lib.hid hn
  have Hs := Lib.hid hs
  have Hx := Lib.hid hx
  clear hn hs hx
  have hd : decide ((2000 : Int) < (n : Int)) = false := by simp; omega
  go_enter Try.func3, Try.ntmps3
  go_wp2_with fail
  refine (take_any A n c xs size _ Hn.out Hs.out Hx.out (by omega) (by omega) (by omega) hs1 hs2).mono ?_
  rintro e w1 ⟨A1, n1, c1, rfl, hn1, ho1, h1⟩
  have HN1 := Lib.hid hn1
  clear hn1
  go_wp2_with fail
  refine (takeRef_any A n c xs size _ Hn.out (Src.keep Hs.out h1) Hx.out (by omega) (by omega) (by omega) hs1 hs2).mono ?_
  rintro e w2 ⟨A2, n2, c2, rfl, hn2, ho2, h2⟩
  have HN2 := Lib.hid hn2
  have Hs2 := Lib.hid (Src.keep (Src.keep Hs.out h1) h2)
  have H12 := Lib.hid (Ext.trans h1 h2)
  have HO1 := Lib.hid (ho1.keep h2)
  have HO2 := Lib.hid ho2
  clear hn2 h1 h2 ho1 ho2
  generalize takeRest xs size = tr at *
  generalize takeNum xs size = tn
  generalize takeOk xs.length size = tk
  go_wp2_with fail
  refine wp_region_segs [([0, 1, 2, 6, 7, 8], 3), ([], 4), ([5], 9), ([10, 11, 12, 13, 14, 15, 16, 17, 18, 19, 20, 21, 22, 23, 24, 25, 26, 27, 28, 29], 30), ([], 31)] [32, 33, 34, 35] (by kernel_rfl) (by kernel_rfl) (by kernel_rfl) (by kernel_rfl) (fun _ _ d _ _ h => by cases d <;> exact h) ?_
  refine wpSegs_next (by simp [pickOps]; rfl) ?_
  repeat (go_big_quiet_step (fail))
  refine wpQuiet_nil ?_
  refine wpOp_alone rfl rfl (fun K hK => ?_)
  go_simp
  refine hK _ _ ⟨(Below.refl _ _).alloc (Nat.le_refl _) _, ?_⟩
  clear hK K
  refine wpSegs_next (by simp [pickOps]; rfl) ?_
  refine wpQuiet_nil ?_
  refine wpOp_alone rfl rfl (fun K hK => ?_)
  go_simp
  refine (fixed_any A n c xs size _ 1 1 [m] _ Hn.out (Src.keep (Src.keep Hs2.out (Ext.drew w2)) ((Below.refl _ _).alloc (Nat.le_refl _) _)) (by omega) rfl (src_one64 w2.drew m) (by omega) (in_one hm0 hm)).mono ?_
  rintro e w3 ⟨v3, rfl, A3, n3, c3, rfl, hn3, ho3, hb3⟩
  have E3 : Ext w2 w3 := Ext.trans (Ext.drew w2) (Ext.trans ((Below.refl _ _).alloc (Nat.le_refl _) _) hb3)
  refine hK _ _ ⟨hb3, ?_⟩
  clear hK K
  have ht3 : ∀ g : Above w3, (convert 22 9 (.slice A3 n3 c3)).run Try.prog g.1 = .ok (.string (strOfNums (xs ++ fixedOf size [m]))) g.1 := fun g => run_text g.1 A3 n3 c3 _ hn3 (ho3.src.keep g.2)
  have HE3 := Lib.hid E3
  clear hn3 ho3 hb3 E3
  refine wpSegs_next (by simp [pickOps]; rfl) ?_
  repeat (go_big_quiet_step (fail))
  refine wpQuiet_nil ?_
  refine wpOp_alone rfl rfl (fun K hK => ?_)
  clear ht3
  go_simp
  refine (fixedRef_any A n c xs size m _ Hn.out (Src.keep Hs2.out HE3.out) (by omega) hm0 hm).mono ?_
  rintro e w4 ⟨v4, rfl, A4, n4, c4, rfl, hn4, ho4, hb4⟩
  have E4 : Ext w2 w4 := Ext.trans HE3.out hb4
  refine hK _ _ ⟨hb4, ?_⟩
  clear hK K
  have ht4 : ∀ g : Above w4, (convert 22 9 (.slice A4 n4 c4)).run Try.prog g.1 = .ok (.string (strOfNums (xs ++ fixedOf size [m]))) g.1 := fun g => run_text g.1 A4 n4 c4 _ hn4 (ho4.src.keep g.2)
  have ht1 : ∀ g : Above w4, (convert 22 9 (.slice A1 n1 c1)).run Try.prog g.1 = .ok (.string (strOfNums tr)) g.1 := fun g => run_text g.1 A1 n1 c1 _ HN1.out (HO1.out.src.keep (Ext.trans E4 g.2))
  have ht2 : ∀ g : Above w4, (convert 22 9 (.slice A2 n2 c2)).run Try.prog g.1 = .ok (.string (strOfNums tr)) g.1 := fun g => run_text g.1 A2 n2 c2 _ HN2.out (HO2.out.src.keep (Ext.trans E4 g.2))
  have HE4 := Lib.hid E4
  clear hn4 ho4 hb4 E4
  refine wpSegs_next (by simp [pickOps]; rfl) ?_
  repeat (go_big_quiet_step (fail))
  refine wpQuiet_nil ?_
  refine wpOp_alone rfl rfl (fun K hK => ?_)
  clear ht4 ht1 ht2
  go_simp
  refine hK _ _ ⟨(Below.refl _ _).alloc (Nat.le_refl _) _, ?_⟩
  clear hK K
  refine wpSegs_next (by simp [pickOps]; rfl) ?_
  refine wpQuiet_nil ?_
  refine wpOp_alone rfl rfl (fun K hK => ?_)
  go_simp
  refine (fixed_any none 0 0 [] 2 _ 2 2 [258, 1] _ rfl Src.none_ (by omega) rfl (src_two64 w4 258 1) (by omega) in_two).mono ?_
  rintro e w5 ⟨v5, rfl, A5, n5, c5, rfl, hn5, ho5, hb5⟩
  have HE5 : Hid (Ext w2 w5) := Ext.trans HE4.out (Ext.trans ((Below.refl _ _).alloc (Nat.le_refl _) _) hb5)
  refine hK _ _ ⟨hb5, ?_⟩
  clear hK K
  have ht5 : ∀ g : Above w5, (convert 22 9 (.slice A5 n5 c5)).run Try.prog g.1 = .ok (.string ⟨#[2, 1, 1, 0]⟩) g.1 := fun g => by rw [← fixed258]; exact run_text g.1 A5 n5 c5 _ hn5 (ho5.src.keep g.2)
  clear hn5 ho5 hb5
  refine wpSegs_last (by simp [pickOps]; rfl) ?_
  repeat (go_big_quiet_step (fail))
  refine wpQuiet_nil ?_
  clear ht5
  go_wp2_with fail
  go_ret
  exact ⟨rfl, Ext.trans H12.out HE5.out⟩

set_option maxHeartbeats 2000000 in
theorem fixedlaw_big (b o n c : Nat) (xs : List Int) (size m : Int) (w : World) (hs1 : -9223372036854775808 ≤ size) (hs2 : size ≤ 9223372036854775807) (hm0 : 0 ≤ m) (hm : m < 18446744073709551616) (hn : 2000 = xs.length) (hs : Src .u8 w (some ⟨b, o, none⟩) xs) (hx : IsBytes xs) (hl : 2000 < n) (hc : n ≤ c) (hcm : c ≤ 9223372036854775807) :
    Calls Try.prog 3 #[.slice (some ⟨b, o, none⟩) n c, .int .i64 size, .int .u64 m] w fun e w' => e = .returned (.bool true) ∧ Below w.heap.size w w' := by
  have Hn := Lib.hid hn
  have Hs := Lib.hid hs
  have Hx := Lib.hid hx
  clear hn hs hx
  have hd : decide ((2000 : Int) < (n : Int)) = true := by simp; omega
  have hc3 : (2000 : Int) ≤ (c : Int) := by omega
  go_enter Try.func3, Try.ntmps3
  go_wp2_with fail
  refine (take_any (some ⟨b, o, none⟩) 2000 c xs size _ Hn.out Hs.out Hx.out (by omega) (by omega) (by omega) hs1 hs2).mono ?_
  rintro e w1 ⟨A1, n1, c1, rfl, hn1, ho1, h1⟩
  have HN1 := Lib.hid hn1
  clear hn1
  go_wp2_with fail
  refine (takeRef_any (some ⟨b, o, none⟩) 2000 c xs size _ Hn.out (Src.keep Hs.out h1) Hx.out (by omega) (by omega) (by omega) hs1 hs2).mono ?_
  rintro e w2 ⟨A2, n2, c2, rfl, hn2, ho2, h2⟩
  have HN2 := Lib.hid hn2
  have Hs2 := Lib.hid (Src.keep (Src.keep Hs.out h1) h2)
  have H12 := Lib.hid (Ext.trans h1 h2)
  have HO1 := Lib.hid (ho1.keep h2)
  have HO2 := Lib.hid ho2
  clear hn2 h1 h2 ho1 ho2
  generalize takeRest xs size = tr at *
  generalize takeNum xs size = tn
  generalize takeOk xs.length size = tk
  go_wp2_with fail
  refine wp_region_segs [([0, 1, 2, 6, 7, 8], 3), ([], 4), ([5], 9), ([10, 11, 12, 13, 14, 15, 16, 17, 18, 19, 20, 21, 22, 23, 24, 25, 26, 27, 28, 29], 30), ([], 31)] [32, 33, 34, 35] (by kernel_rfl) (by kernel_rfl) (by kernel_rfl) (by kernel_rfl) (fun _ _ d _ _ h => by cases d <;> exact h) ?_
  refine wpSegs_next (by simp [pickOps]; rfl) ?_
  repeat (go_big_quiet_step (fail))
  refine wpQuiet_nil ?_
  refine wpOp_alone rfl rfl (fun K hK => ?_)
  go_simp
  refine hK _ _ ⟨(Below.refl _ _).alloc (Nat.le_refl _) _, ?_⟩
  clear hK K
  refine wpSegs_next (by simp [pickOps]; rfl) ?_
  refine wpQuiet_nil ?_
  refine wpOp_alone rfl rfl (fun K hK => ?_)
  go_simp
  refine (fixed_any (some ⟨b, o, none⟩) 2000 c xs size _ 1 1 [m] _ Hn.out (Src.keep (Src.keep Hs2.out (Ext.drew w2)) ((Below.refl _ _).alloc (Nat.le_refl _) _)) (by omega) rfl (src_one64 w2.drew m) (by omega) (in_one hm0 hm)).mono ?_
  rintro e w3 ⟨v3, rfl, A3, n3, c3, rfl, hn3, ho3, hb3⟩
  have E3 : Ext w2 w3 := Ext.trans (Ext.drew w2) (Ext.trans ((Below.refl _ _).alloc (Nat.le_refl _) _) hb3)
  refine hK _ _ ⟨hb3, ?_⟩
  clear hK K
  have ht3 : ∀ g : Above w3, (convert 22 9 (.slice A3 n3 c3)).run Try.prog g.1 = .ok (.string (strOfNums (xs ++ fixedOf size [m]))) g.1 := fun g => run_text g.1 A3 n3 c3 _ hn3 (ho3.src.keep g.2)
  have HE3 := Lib.hid E3
  clear hn3 ho3 hb3 E3
  refine wpSegs_next (by simp [pickOps]; rfl) ?_
  repeat (go_big_quiet_step (fail))
  refine wpQuiet_nil ?_
  refine wpOp_alone rfl rfl (fun K hK => ?_)
  clear ht3
  go_simp
  refine (fixedRef_any (some ⟨b, o, none⟩) 2000 c xs size m _ Hn.out (Src.keep Hs2.out HE3.out) (by omega) hm0 hm).mono ?_
  rintro e w4 ⟨v4, rfl, A4, n4, c4, rfl, hn4, ho4, hb4⟩
  have E4 : Ext w2 w4 := Ext.trans HE3.out hb4
  refine hK _ _ ⟨hb4, ?_⟩
  clear hK K
  have ht4 : ∀ g : Above w4, (convert 22 9 (.slice A4 n4 c4)).run Try.prog g.1 = .ok (.string (strOfNums (xs ++ fixedOf size [m]))) g.1 := fun g => run_text g.1 A4 n4 c4 _ hn4 (ho4.src.keep g.2)
  have ht1 : ∀ g : Above w4, (convert 22 9 (.slice A1 n1 c1)).run Try.prog g.1 = .ok (.string (strOfNums tr)) g.1 := fun g => run_text g.1 A1 n1 c1 _ HN1.out (HO1.out.src.keep (Ext.trans E4 g.2))
  have ht2 : ∀ g : Above w4, (convert 22 9 (.slice A2 n2 c2)).run Try.prog g.1 = .ok (.string (strOfNums tr)) g.1 := fun g => run_text g.1 A2 n2 c2 _ HN2.out (HO2.out.src.keep (Ext.trans E4 g.2))
  have HE4 := Lib.hid E4
  clear hn4 ho4 hb4 E4
  refine wpSegs_next (by simp [pickOps]; rfl) ?_
  repeat (go_big_quiet_step (fail))
  refine wpQuiet_nil ?_
  refine wpOp_alone rfl rfl (fun K hK => ?_)
  clear ht4 ht1 ht2
  go_simp
  refine hK _ _ ⟨(Below.refl _ _).alloc (Nat.le_refl _) _, ?_⟩
  clear hK K
  refine wpSegs_next (by simp [pickOps]; rfl) ?_
  refine wpQuiet_nil ?_
  refine wpOp_alone rfl rfl (fun K hK => ?_)
  go_simp
  refine (fixed_any none 0 0 [] 2 _ 2 2 [258, 1] _ rfl Src.none_ (by omega) rfl (src_two64 w4 258 1) (by omega) in_two).mono ?_
  rintro e w5 ⟨v5, rfl, A5, n5, c5, rfl, hn5, ho5, hb5⟩
  have HE5 : Hid (Ext w2 w5) := Ext.trans HE4.out (Ext.trans ((Below.refl _ _).alloc (Nat.le_refl _) _) hb5)
  refine hK _ _ ⟨hb5, ?_⟩
  clear hK K
  have ht5 : ∀ g : Above w5, (convert 22 9 (.slice A5 n5 c5)).run Try.prog g.1 = .ok (.string ⟨#[2, 1, 1, 0]⟩) g.1 := fun g => by rw [← fixed258]; exact run_text g.1 A5 n5 c5 _ hn5 (ho5.src.keep g.2)
  clear hn5 ho5 hb5
  refine wpSegs_last (by simp [pickOps]; rfl) ?_
  repeat (go_big_quiet_step (fail))
  refine wpQuiet_nil ?_
  clear ht5
  go_wp2_with fail
  go_ret
  exact ⟨rfl, Ext.trans H12.out HE5.out⟩

end Go.Proofs.Ytlmpbfmlkpcjeaa

/- The walk of CodecShort: for any bytes and any number of 64 bits it answers true, and writes nothing that was there. -/
import Derived.Test.YtlmpbfmlkpcjeaaShort
import Derived.Test.YtlmpbfmlkpcjeaaReadRef
import Derived.Test.YtlmpbfmlkpcjeaaDraw
import Derived.BigQuiet
namespace Go.Proofs.Ytlmpbfmlkpcjeaa
open Go.RowKit

theorem short300 : strOfNums ([] ++ shortOf (300 : Int).toNat) = ⟨#[172, 2]⟩ := by
  rw [show (300 : Int).toNat = 300 by decide, shortOf_more 300 (by omega), shortOf_last (300 / 128) (by omega)]
  decide

set_option maxHeartbeats 1000000 in
theorem short_small (A : Option Addr) (n c : Nat) (xs : List Int) (m : Int) (w : World) (hn : n = xs.length) (hs : Src .u8 w A xs) (hx : IsBytes xs) (hl : n ≤ 2000) (hm0 : 0 ≤ m) (hm : m < 18446744073709551616) :
    Calls Try.prog 4 #[.slice A n c, .int .u64 m] w fun e w' => e = .returned (.bool true) ∧ Below w.heap.size w w' := by
  have Hn := Lib.hid hn
  have Hs := Lib.hid hs
  have Hx := Lib.hid hx
  clear hn hs hx
  have hd : decide ((2000 : Int) < (n : Int)) = false := by simp; omega
  go_enter Try.func4, Try.ntmps4
  go_wp2_with fail
  refine (read_any A n c xs _ Hn.out Hs.out Hx.out (by omega)).mono ?_
  rintro e w' ⟨rfl, rfl⟩
  go_wp2_with fail
  refine (readRef_any A n c xs _ Hn.out Hs.out Hx.out (by omega)).mono ?_
  rintro e w' ⟨rfl, rfl⟩
  generalize (((readOf xs).1 : Nat) : Int) = r1
  generalize (((readOf xs).2.1 : Nat) : Int) = r2
  generalize (((readOf xs).2.2 : Nat) : Int) = r3
  go_wp2_with fail
  refine wp_region_segs [([0, 1, 4, 5], 2), ([3], 6), ([7, 8, 9, 10, 11, 12, 13, 14, 15, 16, 17, 18, 19, 20, 21, 22, 23, 24], 25)] [26, 27, 28, 29, 30, 31] (by kernel_rfl) (by kernel_rfl) (by kernel_rfl) (by kernel_rfl) (fun _ _ d _ _ h => by cases d <;> exact h) ?_
  refine wpSegs_next (by simp [pickOps]; rfl) ?_
  repeat (go_big_quiet_step (fail))
  refine wpQuiet_nil ?_
  refine wpOp_alone rfl rfl (fun K hK => ?_)
  go_simp
  refine (short_any A n c xs m _ Hn.out (Src.keep Hs.out (Ext.drew w)) (by omega) hm0 hm).mono ?_
  rintro e w1 ⟨v1, rfl, A1, n1, c1, rfl, hn1, ho1, hb1⟩
  refine hK _ _ ⟨hb1, ?_⟩
  clear hK K
  have ht1 : ∀ g : Above w1, (convert 22 9 (.slice A1 n1 c1)).run Try.prog g.1 = .ok (.string (strOfNums (xs ++ shortOf m.toNat))) g.1 := fun g => run_text g.1 A1 n1 c1 _ hn1 (ho1.src.keep g.2)
  clear hn1
  refine wpSegs_next (by simp [pickOps]; rfl) ?_
  repeat (go_big_quiet_step (fail))
  refine wpQuiet_nil ?_
  refine wpOp_alone rfl rfl (fun K hK => ?_)
  clear ht1
  go_simp
  refine (shortRef_any A n c xs m _ Hn.out (Src.keep (w := w.drew) Hs.out hb1) (by omega) hm0 hm).mono ?_
  rintro e w2 ⟨v2, rfl, A2, n2, c2, rfl, hn2, ho2, hb2⟩
  refine hK _ _ ⟨hb2, ?_⟩
  clear hK K
  have ht2 : ∀ g : Above w2, (convert 22 9 (.slice A2 n2 c2)).run Try.prog g.1 = .ok (.string (strOfNums (xs ++ shortOf m.toNat))) g.1 := fun g => run_text g.1 A2 n2 c2 _ hn2 (ho2.src.keep g.2)
  clear hn2
  refine wpSegs_next (by simp [pickOps]; rfl) ?_
  repeat (go_big_quiet_step (fail))
  refine wpQuiet_nil ?_
  refine wpOp_alone rfl rfl (fun K hK => ?_)
  clear ht2
  go_simp
  refine (short_any none 0 0 [] 300 _ rfl Src.none_ (by omega) (by omega) (by omega)).mono ?_
  rintro e w3 ⟨v3, rfl, A3, n3, c3, rfl, hn3, ho3, hb3⟩
  refine hK _ _ ⟨hb3, ?_⟩
  clear hK K
  have ht3 : ∀ g : Above w3, (convert 22 9 (.slice A3 n3 c3)).run Try.prog g.1 = .ok (.string ⟨#[172, 2]⟩) g.1 := fun g => by rw [← short300]; exact run_text g.1 A3 n3 c3 _ hn3 (ho3.src.keep g.2)
  clear hn3
  refine wpSegs_last (by simp [pickOps]; rfl) ?_
  repeat (go_big_quiet_step (fail))
  refine wpQuiet_nil ?_
  clear ht3
  go_wp2_with fail
  go_ret
  exact ⟨rfl, (Ext.drew w).trans ((Ext.trans hb1 hb2).trans hb3)⟩
set_option maxHeartbeats 1000000 in
theorem short_big (b o n c : Nat) (xs : List Int) (m : Int) (w : World) (hn : 2000 = xs.length) (hs : Src .u8 w (some ⟨b, o, none⟩) xs) (hx : IsBytes xs) (hl : 2000 < n) (hc : n ≤ c) (hc2 : c ≤ 9223372036854775807) (hm0 : 0 ≤ m) (hm : m < 18446744073709551616) :
    Calls Try.prog 4 #[.slice (some ⟨b, o, none⟩) n c, .int .u64 m] w fun e w' => e = .returned (.bool true) ∧ Below w.heap.size w w' := by
  have Hn := Lib.hid hn
  have Hs := Lib.hid hs
  have Hx := Lib.hid hx
  clear hn hs hx
  have hd : decide ((2000 : Int) < (n : Int)) = true := by simp; omega
  have hc3 : (2000 : Int) ≤ (c : Int) := by omega
  go_enter Try.func4, Try.ntmps4
  go_wp2_with fail
  refine (read_any (some ⟨b, o, none⟩) 2000 c xs _ Hn.out Hs.out Hx.out (by omega)).mono ?_
  rintro e w' ⟨rfl, rfl⟩
  go_wp2_with fail
  refine (readRef_any (some ⟨b, o, none⟩) 2000 c xs _ Hn.out Hs.out Hx.out (by omega)).mono ?_
  rintro e w' ⟨rfl, rfl⟩
  generalize (((readOf xs).1 : Nat) : Int) = r1
  generalize (((readOf xs).2.1 : Nat) : Int) = r2
  generalize (((readOf xs).2.2 : Nat) : Int) = r3
  go_wp2_with fail
  refine wp_region_segs [([0, 1, 4, 5], 2), ([3], 6), ([7, 8, 9, 10, 11, 12, 13, 14, 15, 16, 17, 18, 19, 20, 21, 22, 23, 24], 25)] [26, 27, 28, 29, 30, 31] (by kernel_rfl) (by kernel_rfl) (by kernel_rfl) (by kernel_rfl) (fun _ _ d _ _ h => by cases d <;> exact h) ?_
  refine wpSegs_next (by simp [pickOps]; rfl) ?_
  repeat (go_big_quiet_step (fail))
  refine wpQuiet_nil ?_
  refine wpOp_alone rfl rfl (fun K hK => ?_)
  go_simp
  refine (short_any (some ⟨b, o, none⟩) 2000 c xs m _ Hn.out (Src.keep Hs.out (Ext.drew w)) (by omega) hm0 hm).mono ?_
  rintro e w1 ⟨v1, rfl, A1, n1, c1, rfl, hn1, ho1, hb1⟩
  refine hK _ _ ⟨hb1, ?_⟩
  clear hK K
  have ht1 : ∀ g : Above w1, (convert 22 9 (.slice A1 n1 c1)).run Try.prog g.1 = .ok (.string (strOfNums (xs ++ shortOf m.toNat))) g.1 := fun g => run_text g.1 A1 n1 c1 _ hn1 (ho1.src.keep g.2)
  clear hn1
  refine wpSegs_next (by simp [pickOps]; rfl) ?_
  repeat (go_big_quiet_step (fail))
  refine wpQuiet_nil ?_
  refine wpOp_alone rfl rfl (fun K hK => ?_)
  clear ht1
  go_simp
  refine (shortRef_any (some ⟨b, o, none⟩) 2000 c xs m _ Hn.out (Src.keep (w := w.drew) Hs.out hb1) (by omega) hm0 hm).mono ?_
  rintro e w2 ⟨v2, rfl, A2, n2, c2, rfl, hn2, ho2, hb2⟩
  refine hK _ _ ⟨hb2, ?_⟩
  clear hK K
  have ht2 : ∀ g : Above w2, (convert 22 9 (.slice A2 n2 c2)).run Try.prog g.1 = .ok (.string (strOfNums (xs ++ shortOf m.toNat))) g.1 := fun g => run_text g.1 A2 n2 c2 _ hn2 (ho2.src.keep g.2)
  clear hn2
  refine wpSegs_next (by simp [pickOps]; rfl) ?_
  repeat (go_big_quiet_step (fail))
  refine wpQuiet_nil ?_
  refine wpOp_alone rfl rfl (fun K hK => ?_)
  clear ht2
  go_simp
  refine (short_any none 0 0 [] 300 _ rfl Src.none_ (by omega) (by omega) (by omega)).mono ?_
  rintro e w3 ⟨v3, rfl, A3, n3, c3, rfl, hn3, ho3, hb3⟩
  refine hK _ _ ⟨hb3, ?_⟩
  clear hK K
  have ht3 : ∀ g : Above w3, (convert 22 9 (.slice A3 n3 c3)).run Try.prog g.1 = .ok (.string ⟨#[172, 2]⟩) g.1 := fun g => by rw [← short300]; exact run_text g.1 A3 n3 c3 _ hn3 (ho3.src.keep g.2)
  clear hn3
  refine wpSegs_last (by simp [pickOps]; rfl) ?_
  repeat (go_big_quiet_step (fail))
  refine wpQuiet_nil ?_
  clear ht3
  go_wp2_with fail
  go_ret
  exact ⟨rfl, (Ext.drew w).trans ((Ext.trans hb1 hb2).trans hb3)⟩
end Go.Proofs.Ytlmpbfmlkpcjeaa

/- The walk of CodecTexts: for any bytes and any text whose lengths an int can hold together, and any int, it answers true, and writes nothing that was there. -/
import Derived.Test.YtlmpbfmlkpcjeaaText
import Derived.Test.YtlmpbfmlkpcjeaaZig
import Derived.BigQuiet
namespace Go.Proofs.Ytlmpbfmlkpcjeaa
open Go.RowKit

set_option maxHeartbeats 400000 in
theorem texts_long (A : Option Addr) (n c : Nat) (s : ByteArray) (m : Int) (w : World) (h1 : n ≤ 140737488351232) (h2 : s.size ≤ 140737488351232) (h : 3000 < n + s.size) :
    Calls Try.prog 5 #[.slice A n c, .string s, .int .i64 m] w fun e w' => e = .returned (.bool true) ∧ Below w.heap.size w w' := by
  go_enter Try.func5, Try.ntmps5
  go_wp2_with fail
  go_ret
  exact ⟨rfl, Below.refl _ _⟩

set_option maxHeartbeats 1000000 in
theorem texts_small (A : Option Addr) (n c : Nat) (xs : List Int) (s : ByteArray) (m : Int) (w : World) (hn : n = xs.length) (hs : Src .u8 w A xs) (hx : IsBytes xs) (hl : n + s.size ≤ 3000) (hc : n ≤ c) (hcm : c ≤ 9223372036854775807) (hm1 : -9223372036854775808 ≤ m) (hm2 : m ≤ 9223372036854775807) :
    Calls Try.prog 5 #[.slice A n c, .string s, .int .i64 m] w fun e w' => e = .returned (.bool true) ∧ Below w.heap.size w w' := by
  have Hn := Lib.hid hn
  have Hs := Lib.hid hs
  have Hx := Lib.hid hx
  clear hn hs hx
  have hd : decide ((3000 : Int) < (n : Int) + (s.size : Int)) = false := by simp; omega
  have hd2 : decide (3000 < n + s.size) = false := by simp; omega
  go_enter Try.func5, Try.ntmps5
  go_wp2_with fail
  refine (goReadText_any A n c xs m _ Hn.out Hs.out Hx.out (by omega) hc hcm hm1 hm2).mono ?_
  rintro e w1 ⟨rfl, h1⟩
  go_wp2_with fail
  refine (refReadText_any A n c xs m _ Hn.out (Src.keep Hs.out h1) Hx.out (by omega) hc hcm hm1 hm2).mono ?_
  rintro e w2 ⟨rfl, h2⟩
  generalize strOfNums (readText xs m).1 = r1
  generalize (((readText xs m).2.1 : Nat) : Int) = r2
  generalize (((readText xs m).2.2 : Nat) : Int) = r3
  have hs2 := Lib.hid (Src.keep (Src.keep Hs.out h1) h2)
  have H12 := Lib.hid (Ext.trans h1 h2)
  clear h1 h2
  go_wp2_with fail
  refine wp_region_segs [([0, 1, 4, 5], 2), ([3], 6), ([7, 8, 9, 10, 11, 12, 13, 14, 15, 16, 17, 18, 19, 20, 21, 22, 23, 24, 25, 27], 26), ([], 28), ([29, 30, 31], 32)] [33, 34, 35] (by kernel_rfl) (by kernel_rfl) (by kernel_rfl) (by kernel_rfl) (fun _ _ d _ _ h => by cases d <;> exact h) ?_
  refine wpSegs_next (by simp [pickOps]; rfl) ?_
  repeat (go_big_quiet_step (fail))
  refine wpQuiet_nil ?_
  refine wpOp_alone rfl rfl (fun K hK => ?_)
  go_simp
  refine (text_any A n c xs s _ Hn.out (Src.keep hs2.out (Ext.drew w2)) (by omega) (by omega)).mono ?_
  rintro e w3 ⟨v3, rfl, A3, n3, c3, rfl, hn3, ho3, hb3⟩
  refine hK _ _ ⟨hb3, ?_⟩
  clear hK K
  have ht3 : ∀ g : Above w3, (convert 22 9 (.slice A3 n3 c3)).run Try.prog g.1 = .ok (.string (strOfNums (xs ++ textOf s))) g.1 := fun g => run_text g.1 A3 n3 c3 _ hn3 (ho3.src.keep g.2)
  clear hn3
  refine wpSegs_next (by simp [pickOps]; rfl) ?_
  repeat (go_big_quiet_step (fail))
  refine wpQuiet_nil ?_
  refine wpOp_alone rfl rfl (fun K hK => ?_)
  clear ht3
  go_simp
  refine (textRef_any A n c xs s _ Hn.out (Src.keep (w := w2.drew) hs2.out hb3) (by omega) (by omega)).mono ?_
  rintro e w4 ⟨v4, rfl, A4, n4, c4, rfl, hn4, ho4, hb4⟩
  refine hK _ _ ⟨hb4, ?_⟩
  clear hK K
  have ht4 : ∀ g : Above w4, (convert 22 9 (.slice A4 n4 c4)).run Try.prog g.1 = .ok (.string (strOfNums (xs ++ textOf s))) g.1 := fun g => run_text g.1 A4 n4 c4 _ hn4 (ho4.src.keep g.2)
  clear hn4
  refine wpSegs_next (by simp [pickOps]; rfl) ?_
  repeat (go_big_quiet_step (fail))
  refine wpQuiet_nil ?_
  refine wpOp_alone rfl rfl (fun K hK => ?_)
  clear ht4
  go_simp
  refine (zig_any m _ hm1 hm2).mono ?_
  rintro e w' ⟨rfl, rfl⟩
  refine hK _ _ ⟨Ext.refl _, ?_⟩
  clear hK K
  refine wpSegs_next (by simp [pickOps]; rfl) ?_
  refine wpQuiet_nil ?_
  refine wpOp_alone rfl rfl (fun K hK => ?_)
  go_simp
  refine (zigRef_any m _ hm1 hm2).mono ?_
  rintro e w' ⟨rfl, rfl⟩
  refine hK _ _ ⟨Ext.refl _, ?_⟩
  clear hK K
  refine wpSegs_next (by simp [pickOps]; rfl) ?_
  repeat (go_big_quiet_step (fail))
  refine wpQuiet_nil ?_
  refine wpOp_alone rfl rfl (fun K hK => ?_)
  go_simp
  refine (zig_any (-1) _ (by omega) (by omega)).mono ?_
  rintro e w' ⟨rfl, rfl⟩
  rw [show zigOf (-1) = 1 by decide]
  refine hK _ _ ⟨Ext.refl _, ?_⟩
  clear hK K
  refine wpSegs_last (by simp [pickOps]; rfl) ?_
  repeat (go_big_quiet_step (fail))
  refine wpQuiet_nil ?_
  go_wp2_with fail
  go_ret
  exact ⟨rfl, Ext.trans H12.out (Ext.trans (Ext.drew w2) (Ext.trans hb3 hb4))⟩
end Go.Proofs.Ytlmpbfmlkpcjeaa

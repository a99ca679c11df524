/- The walk of CodecOne: for any bytes it answers true, and writes nothing that was there. -/
import Derived.Test.YtlmpbfmlkpcjeaaShort
import Derived.Test.YtlmpbfmlkpcjeaaRead
import Derived.Test.YtlmpbfmlkpcjeaaOneNums
import Derived.Test.YtlmpbfmlkpcjeaaDraw
import Derived.BigQuiet
namespace Go.Proofs.Ytlmpbfmlkpcjeaa
open Go.RowKit

theorem read_is (A : Option Addr) (n c : Nat) (xs : List Int) (a k e : Int) (w : World) (hn : n = xs.length) (hs : Src .u8 w A xs) (hx : IsBytes xs) (hl : n ≤ 800000) (h : ((readOf xs).1 : Int) = a ∧ ((readOf xs).2.1 : Int) = k ∧ ((readOf xs).2.2 : Int) = e) :
    Calls Try.prog 13 #[.slice A n c] w fun E w' => E = .returned (.tuple #[.int .u64 a, .int .i64 k, .int .i64 e]) ∧ w = w' :=
  (read_any A n c xs w hn hs hx hl).mono fun E w' h' => by
    obtain ⟨rfl, rfl⟩ := h'
    obtain ⟨rfl, rfl, rfl⟩ := h
    exact ⟨rfl, rfl⟩

set_option maxHeartbeats 1000000 in
theorem one_small_bad (A : Option Addr) (n c : Nat) (xs : List Int) (w : World) (hn : n = xs.length) (hs : Src .u8 w A xs) (hx : IsBytes xs) (hl : n ≤ 2000) (E : Int) (hE : ((readOf xs).1 : Int) = 0 ∧ ((readOf xs).2.1 : Int) = 0 ∧ ((readOf xs).2.2 : Int) = E) (h0 : E ≠ 0) :
    Calls Try.prog 7 #[.slice A n c] w fun e w' => e = .returned (.bool true) ∧ Below w.heap.size w w' := by
  have Hn := Lib.hid hn
  have Hs := Lib.hid hs
  have Hx := Lib.hid hx
  have HE := Lib.hid hE
  have ne1 : (E == 0) = false := beq_eq_false_iff_ne.2 h0
  have ne2 : (E != 0) = true := by rw [bne_iff_ne]; exact h0
  clear hn hs hx hE h0
  have hd : decide ((2000 : Int) < (n : Int)) = false := by simp; omega
  go_enter Try.func7, Try.ntmps7
  go_wp2_with fail
  refine (read_is A n c xs 0 0 E _ Hn.out Hs.out Hx.out (by omega) HE.out).mono ?_
  rintro e w' ⟨rfl, rfl⟩
  go_wp2_with fail
  refine (read_is _ 1 1 [5] 5 1 0 _ rfl (src_new _ _) (IsBytes.cons (by omega) IsBytes.nil) (by omega) (by decide)).mono ?_
  rintro e w' ⟨rfl, rfl⟩
  go_wp2_with fail
  go_ret
  exact ⟨rfl, (Below.refl _ _).alloc (Nat.le_refl _) _⟩

set_option maxHeartbeats 1000000 in
theorem one_small_good (b o : Nat) (n c : Nat) (xs : List Int) (w : World) (hn : n = xs.length) (hs : Src .u8 w (some ⟨b, o, none⟩) xs) (hx : IsBytes xs) (hl : n ≤ 2000) (hcap : n ≤ c) (hcm : c ≤ 9223372036854775807) (a : Int) (k : Nat) (hk1 : 1 ≤ k) (hkn : k ≤ n) (hE : ((readOf xs).1 : Int) = a ∧ ((readOf xs).2.1 : Int) = (k : Int) ∧ ((readOf xs).2.2 : Int) = 0) (ha0 : 0 ≤ a) (ha : a < 18446744073709551616)
    (hsh : shortOf a.toNat = xs.take k) (hle : ((readOf (xs.take (k - 1))).1 : Int) = 0 ∧ ((readOf (xs.take (k - 1))).2.1 : Int) = 0 ∧ ((readOf (xs.take (k - 1))).2.2 : Int) = 10) :
    Calls Try.prog 7 #[.slice (some ⟨b, o, none⟩) n c] w fun e w' => e = .returned (.bool true) ∧ Below w.heap.size w w' := by
  have Hn := Lib.hid hn
  have Hs := Lib.hid hs
  have Hx := Lib.hid hx
  have HE := Lib.hid hE
  have Hsh := Lib.hid hsh
  have Hle := Lib.hid hle
  have t1 : decide ((k : Int) < 1) = false := by simp; omega
  have t2 : decide ((n : Int) < (k : Int)) = false := by simp; omega
  have t3 : decide (n < k) = false := by simp; omega
  have k0 : (0 : Int) ≤ (k : Int) := by omega
  have k1 : (k : Int) ≤ (c : Int) := by omega
  have k2 : (k : Int) ≤ (n : Int) := by omega
  clear hn hs hx hE hsh hle
  have hd : decide ((2000 : Int) < (n : Int)) = false := by simp; omega
  go_enter Try.func7, Try.ntmps7
  go_wp2_with fail
  refine (read_is (some ⟨b, o, none⟩) n c xs a k 0 _ Hn.out Hs.out Hx.out (by omega) HE.out).mono ?_
  rintro e w' ⟨rfl, rfl⟩
  go_wp2_with fail
  refine wp_region_segs [([0, 1, 2, 3, 4], 5), ([6, 7, 8, 9, 12, 13, 14, 15], 10)] [11, 16, 17] (by kernel_rfl) (by kernel_rfl) (by kernel_rfl) (by kernel_rfl) (fun _ _ d _ _ h => by cases d <;> exact h) ?_
  refine wpSegs_next (by simp [pickOps]; rfl) ?_
  repeat (go_big_quiet_step (fail))
  refine wpQuiet_nil ?_
  refine wpOp_alone rfl rfl (fun K hK => ?_)
  go_simp
  refine hK _ _ ⟨Ext.refl _, ?_⟩
  clear hK K
  have ht1 : ∀ g : Above w.drew, (convert 22 9 (.slice (some ⟨b, o, none⟩) k c)).run Try.prog g.1 = .ok (.string (strOfNums (xs.take k))) g.1 := fun g => run_text g.1 _ k c _ (by rw [List.length_take, ← Hn.out]; omega) ((Src.keep (w := w.drew) Hs.out g.2).take k)
  refine wpSegs_next (by simp [pickOps]; rfl) ?_
  repeat (go_big_quiet_step (fail))
  refine wpQuiet_nil ?_
  refine wpOp_alone rfl rfl (fun K hK => ?_)
  clear ht1
  go_simp
  refine (short_any none 0 0 [] a _ rfl Src.none_ (by omega) ha0 ha).mono ?_
  rintro e w1 ⟨v1, rfl, A1, n1, c1, rfl, hn1, ho1, hb1⟩
  refine hK _ _ ⟨hb1, ?_⟩
  clear hK K
  have ht2 : ∀ g : Above w1, (convert 22 9 (.slice A1 n1 c1)).run Try.prog g.1 = .ok (.string (strOfNums (xs.take k))) g.1 := fun g => by
    have := run_text g.1 A1 n1 c1 _ hn1 (ho1.src.keep g.2)
    rw [List.nil_append, Hsh.out] at this
    exact this
  clear hn1
  refine wpSegs_last (by simp [pickOps]; rfl) ?_
  repeat (go_big_quiet_step (fail))
  refine wpQuiet_nil ?_
  clear ht2
  have hk3 : (k : Int) - 1 ≤ (c : Int) := by omega
  have hk4 : (0 : Int) ≤ (k : Int) - 1 := by omega
  go_wp2_with fail
  refine (read_is (some ⟨b, o, none⟩) (k - 1) c (xs.take (k - 1)) 0 0 10 _ (by rw [List.length_take, ← Hn.out]; omega) ((Src.keep (w := w.drew) Hs.out hb1).take (k - 1)) (Hx.out.take (k - 1)) (by omega) Hle.out).mono ?_
  rintro e w' ⟨rfl, rfl⟩
  go_wp2_with fail
  go_ret
  exact ⟨rfl, (Ext.drew w).trans hb1⟩

set_option maxHeartbeats 1000000 in
theorem one_big_bad (b o n c : Nat) (xs : List Int) (w : World) (hn : 2000 = xs.length) (hs : Src .u8 w (some ⟨b, o, none⟩) xs) (hx : IsBytes xs) (hl : 2000 < n) (hnc : n ≤ c) (hcm : c ≤ 9223372036854775807) (E : Int) (hE : ((readOf xs).1 : Int) = 0 ∧ ((readOf xs).2.1 : Int) = 0 ∧ ((readOf xs).2.2 : Int) = E) (h0 : E ≠ 0) :
    Calls Try.prog 7 #[.slice (some ⟨b, o, none⟩) n c] w fun e w' => e = .returned (.bool true) ∧ Below w.heap.size w w' := by
  have Hn := Lib.hid hn
  have Hs := Lib.hid hs
  have Hx := Lib.hid hx
  have HE := Lib.hid hE
  have ne1 : (E == 0) = false := beq_eq_false_iff_ne.2 h0
  have ne2 : (E != 0) = true := by rw [bne_iff_ne]; exact h0
  clear hn hs hx hE h0
  have hd : decide ((2000 : Int) < (n : Int)) = true := by simp; omega
  have hc3 : (2000 : Int) ≤ (c : Int) := by omega
  go_enter Try.func7, Try.ntmps7
  go_wp2_with fail
  refine (read_is (some ⟨b, o, none⟩) 2000 c xs 0 0 E _ Hn.out Hs.out Hx.out (by omega) HE.out).mono ?_
  rintro e w' ⟨rfl, rfl⟩
  go_wp2_with fail
  refine (read_is _ 1 1 [5] 5 1 0 _ rfl (src_new _ _) (IsBytes.cons (by omega) IsBytes.nil) (by omega) (by decide)).mono ?_
  rintro e w' ⟨rfl, rfl⟩
  go_wp2_with fail
  go_ret
  exact ⟨rfl, (Below.refl _ _).alloc (Nat.le_refl _) _⟩

set_option maxHeartbeats 1000000 in
theorem one_big_good (b o n c : Nat) (xs : List Int) (w : World) (hn : 2000 = xs.length) (hs : Src .u8 w (some ⟨b, o, none⟩) xs) (hx : IsBytes xs) (hl : 2000 < n) (hnc : n ≤ c) (hcm : c ≤ 9223372036854775807) (hcap : 2000 ≤ c) (a : Int) (k : Nat) (hk1 : 1 ≤ k) (hkn : k ≤ 2000) (hE : ((readOf xs).1 : Int) = a ∧ ((readOf xs).2.1 : Int) = (k : Int) ∧ ((readOf xs).2.2 : Int) = 0) (ha0 : 0 ≤ a) (ha : a < 18446744073709551616)
    (hsh : shortOf a.toNat = xs.take k) (hle : ((readOf (xs.take (k - 1))).1 : Int) = 0 ∧ ((readOf (xs.take (k - 1))).2.1 : Int) = 0 ∧ ((readOf (xs.take (k - 1))).2.2 : Int) = 10) :
    Calls Try.prog 7 #[.slice (some ⟨b, o, none⟩) n c] w fun e w' => e = .returned (.bool true) ∧ Below w.heap.size w w' := by
  have Hn := Lib.hid hn
  have Hs := Lib.hid hs
  have Hx := Lib.hid hx
  have HE := Lib.hid hE
  have Hsh := Lib.hid hsh
  have Hle := Lib.hid hle
  have t1 : decide ((k : Int) < 1) = false := by simp; omega
  have t2 : decide ((2000 : Int) < (k : Int)) = false := by simp; omega
  have t3 : decide (2000 < k) = false := by simp; omega
  have k0 : (0 : Int) ≤ (k : Int) := by omega
  have k1 : (k : Int) ≤ (c : Int) := by omega
  have k2 : (k : Int) ≤ (2000 : Int) := by omega
  clear hn hs hx hE hsh hle
  have hd : decide ((2000 : Int) < (n : Int)) = true := by simp; omega
  have hc3 : (2000 : Int) ≤ (c : Int) := by omega
  go_enter Try.func7, Try.ntmps7
  go_wp2_with fail
  refine (read_is (some ⟨b, o, none⟩) 2000 c xs a k 0 _ Hn.out Hs.out Hx.out (by omega) HE.out).mono ?_
  rintro e w' ⟨rfl, rfl⟩
  go_wp2_with fail
  refine wp_region_segs [([0, 1, 2, 3, 4], 5), ([6, 7, 8, 9, 12, 13, 14, 15], 10)] [11, 16, 17] (by kernel_rfl) (by kernel_rfl) (by kernel_rfl) (by kernel_rfl) (fun _ _ d _ _ h => by cases d <;> exact h) ?_
  refine wpSegs_next (by simp [pickOps]; rfl) ?_
  repeat (go_big_quiet_step (fail))
  refine wpQuiet_nil ?_
  refine wpOp_alone rfl rfl (fun K hK => ?_)
  go_simp
  refine hK _ _ ⟨Ext.refl _, ?_⟩
  clear hK K
  have ht1 : ∀ g : Above w.drew, (convert 22 9 (.slice (some ⟨b, o, none⟩) k c)).run Try.prog g.1 = .ok (.string (strOfNums (xs.take k))) g.1 := fun g => run_text g.1 _ k c _ (by rw [List.length_take, ← Hn.out]; omega) ((Src.keep (w := w.drew) Hs.out g.2).take k)
  refine wpSegs_next (by simp [pickOps]; rfl) ?_
  repeat (go_big_quiet_step (fail))
  refine wpQuiet_nil ?_
  refine wpOp_alone rfl rfl (fun K hK => ?_)
  clear ht1
  go_simp
  refine (short_any none 0 0 [] a _ rfl Src.none_ (by omega) ha0 ha).mono ?_
  rintro e w1 ⟨v1, rfl, A1, n1, c1, rfl, hn1, ho1, hb1⟩
  refine hK _ _ ⟨hb1, ?_⟩
  clear hK K
  have ht2 : ∀ g : Above w1, (convert 22 9 (.slice A1 n1 c1)).run Try.prog g.1 = .ok (.string (strOfNums (xs.take k))) g.1 := fun g => by
    have := run_text g.1 A1 n1 c1 _ hn1 (ho1.src.keep g.2)
    rw [List.nil_append, Hsh.out] at this
    exact this
  clear hn1
  refine wpSegs_last (by simp [pickOps]; rfl) ?_
  repeat (go_big_quiet_step (fail))
  refine wpQuiet_nil ?_
  clear ht2
  have hk3 : (k : Int) - 1 ≤ (c : Int) := by omega
  have hk4 : (0 : Int) ≤ (k : Int) - 1 := by omega
  go_wp2_with fail
  refine (read_is (some ⟨b, o, none⟩) (k - 1) c (xs.take (k - 1)) 0 0 10 _ (by rw [List.length_take, ← Hn.out]; omega) ((Src.keep (w := w.drew) Hs.out hb1).take (k - 1)) (Hx.out.take (k - 1)) (by omega) Hle.out).mono ?_
  rintro e w' ⟨rfl, rfl⟩
  go_wp2_with fail
  go_ret
  exact ⟨rfl, (Ext.drew w).trans hb1⟩

end Go.Proofs.Ytlmpbfmlkpcjeaa

/- UtfPuts' walk: any number is laid behind any bytes as the document says; e9 is laid as c3 a9. Conditions: the tables lie where they were laid; the slice's length and capacity are at most 2^63 - 1. -/
import Derived.Test.YthifoodhndjmdaaDoorUtfRefPut
namespace Go.Proofs.YthifoodhndjmdaaDoor
open Go.RowKit
namespace Utf

theorem put_e9 : strOfNums ([] ++ formI 233) = ⟨#[195, 169]⟩ := by decide
set_option maxRecDepth 100000 in
set_option maxHeartbeats 4000000 in
theorem puts_small (A : Option Addr) (n d : Nat) (xs : List Int) (c : Int) (w : World) (ht : Tab w) (hn : n = xs.length) (hl : n ≤ 2000) (hs : Src .u8 w A xs) (hc : -2147483648 ≤ c ∧ c ≤ 2147483647) :
    Calls Tryd.prog 4 #[.slice A n d, .int .i32 c] w fun e w' => e = .returned (.bool true) ∧ Below w.heap.size w w' := by
  have Hn := Lib.hid hn
  have Hs := Lib.hid hs
  have Ht := Lib.hid ht
  have Hc := Lib.hid hc
  have t1 : decide ((2000 : Int) < (n : Int)) = false := by simp; omega
  have hl0 : n ≤ 2000 := hl
  clear hn hl hs ht hc
  go_enter Tryd.func4, Tryd.ntmps4
  go_wp2_with fail
  refine wp_region_segs [([0, 1, 4, 5], 2), ([3], 6), ([7, 8, 9], 10)] [11, 12, 13, 14] (by kernel_rfl) (by kernel_rfl) (by kernel_rfl) (by kernel_rfl) (fun _ _ d _ _ h => by cases d <;> exact h) ?_
  refine wpSegs_next (by simp [pickOps]; rfl) ?_
  repeat (go_big_quiet_step (fail))
  refine wpQuiet_nil ?_
  refine wpOp_alone rfl rfl (fun K hK => ?_)
  go_simp
  refine (put_any A n d xs c w.drew (Ht.out.keep (Ext.drew w)) Hn.out (Src.keep Hs.out (Ext.drew w)) (by omega)).mono ?_
  rintro e w1 ⟨v1, rfl, A1, n1, c1, rfl, hn1, ho1, hb1⟩
  refine hK _ _ ⟨hb1, ?_⟩
  clear hK K
  have B1 := Lib.hid ((Ext.drew w).trans hb1)
  have hT1 : ∀ g : Above w1, (convert 27 9 (.slice A1 n1 c1)).run Tryd.prog g.1 = .ok (.string (strOfNums (xs ++ formI c))) g.1 := fun g => run_text g.1 A1 n1 c1 _ hn1 (ho1.src.keep g.2)
  clear hn1
  obtain ⟨S, eS⟩ : ∃ S, strOfNums (xs ++ formI c) = S := ⟨_, rfl⟩
  rw [eS] at hT1
  have HS := Lib.hid eS
  clear eS
  refine wpSegs_next (by simp [pickOps]; rfl) ?_
  repeat (go_big_quiet_step (fail))
  refine wpQuiet_nil ?_
  refine wpOp_alone rfl rfl (fun K hK => ?_)
  clear hT1
  go_simp
  refine (rput_any A n d xs c w1 Hn.out (Hs.out.keep B1.out) (by omega) Hc.out).mono ?_
  rintro e w2 ⟨v2, rfl, A2, n2, c2, rfl, hn2, ho2, hb2⟩
  refine hK _ _ ⟨hb2, ?_⟩
  clear hK K
  have B2 := Lib.hid (Ext.trans B1.out hb2)
  have hT2 : ∀ g : Above w2, (convert 27 9 (.slice A2 n2 c2)).run Tryd.prog g.1 = .ok (.string S) g.1 := fun g => by
    have e := run_text g.1 A2 n2 c2 _ hn2 (ho2.src.keep g.2)
    rwa [HS.out] at e
  clear hn2
  refine wpSegs_next (by simp [pickOps]; rfl) ?_
  repeat (go_big_quiet_step (fail))
  refine wpQuiet_nil ?_
  refine wpOp_alone rfl rfl (fun K hK => ?_)
  clear hT2
  go_simp
  refine (put_any none 0 0 [] 233 w2 (Ht.out.keep B2.out) rfl Src.none_ (by omega)).mono ?_
  rintro e w3 ⟨v3, rfl, A3, n3, c3, rfl, hn3, ho3, hb3⟩
  refine hK _ _ ⟨hb3, ?_⟩
  clear hK K
  have B3 := Lib.hid (Ext.trans B2.out hb3)
  have hT3 : ∀ g : Above w3, (convert 27 9 (.slice A3 n3 c3)).run Tryd.prog g.1 = .ok (.string ⟨#[195, 169]⟩) g.1 := fun g => by
    rw [← put_e9]; exact run_text g.1 A3 n3 c3 _ hn3 (ho3.src.keep g.2)
  clear hn3
  refine wpSegs_last (by simp [pickOps]; rfl) ?_
  repeat (go_big_quiet_step (fail))
  refine wpQuiet_nil ?_
  clear hT3
  go_wp2_with fail
  go_ret
  exact ⟨rfl, B3.out⟩
set_option maxRecDepth 100000 in
set_option maxHeartbeats 4000000 in
theorem puts_big (A : Option Addr) (n d : Nat) (xs : List Int) (c : Int) (w : World) (ht : Tab w) (hn : 2000 = xs.length) (hl : 2000 < n) (hnd : n ≤ d) (hd : d ≤ 9223372036854775807) (hs : Src .u8 w A xs) (hc : -2147483648 ≤ c ∧ c ≤ 2147483647) :
    Calls Tryd.prog 4 #[.slice A n d, .int .i32 c] w fun e w' => e = .returned (.bool true) ∧ Below w.heap.size w w' := by
  have Hn := Lib.hid hn
  have Hs := Lib.hid hs
  have Ht := Lib.hid ht
  have Hc := Lib.hid hc
  have t1 : decide ((2000 : Int) < (n : Int)) = true := by simp; omega
  have q1 : (2000 : Int) ≤ (d : Int) := by omega
  have q2 : (d : Int) ≤ 9223372036854775807 := by omega
  clear hn hl hnd hd hs ht hc
  go_enter Tryd.func4, Tryd.ntmps4
  go_wp2_with fail
  refine wp_region_segs [([0, 1, 4, 5], 2), ([3], 6), ([7, 8, 9], 10)] [11, 12, 13, 14] (by kernel_rfl) (by kernel_rfl) (by kernel_rfl) (by kernel_rfl) (fun _ _ d _ _ h => by cases d <;> exact h) ?_
  refine wpSegs_next (by simp [pickOps]; rfl) ?_
  repeat (go_big_quiet_step (fail))
  refine wpQuiet_nil ?_
  refine wpOp_alone rfl rfl (fun K hK => ?_)
  go_simp
  refine (put_any A 2000 d xs c w.drew (Ht.out.keep (Ext.drew w)) Hn.out (Src.keep Hs.out (Ext.drew w)) (by omega)).mono ?_
  rintro e w1 ⟨v1, rfl, A1, n1, c1, rfl, hn1, ho1, hb1⟩
  refine hK _ _ ⟨hb1, ?_⟩
  clear hK K
  have B1 := Lib.hid ((Ext.drew w).trans hb1)
  have hT1 : ∀ g : Above w1, (convert 27 9 (.slice A1 n1 c1)).run Tryd.prog g.1 = .ok (.string (strOfNums (xs ++ formI c))) g.1 := fun g => run_text g.1 A1 n1 c1 _ hn1 (ho1.src.keep g.2)
  clear hn1
  obtain ⟨S, eS⟩ : ∃ S, strOfNums (xs ++ formI c) = S := ⟨_, rfl⟩
  rw [eS] at hT1
  have HS := Lib.hid eS
  clear eS
  refine wpSegs_next (by simp [pickOps]; rfl) ?_
  repeat (go_big_quiet_step (fail))
  refine wpQuiet_nil ?_
  refine wpOp_alone rfl rfl (fun K hK => ?_)
  clear hT1
  go_simp
  refine (rput_any A 2000 d xs c w1 Hn.out (Hs.out.keep B1.out) (by omega) Hc.out).mono ?_
  rintro e w2 ⟨v2, rfl, A2, n2, c2, rfl, hn2, ho2, hb2⟩
  refine hK _ _ ⟨hb2, ?_⟩
  clear hK K
  have B2 := Lib.hid (Ext.trans B1.out hb2)
  have hT2 : ∀ g : Above w2, (convert 27 9 (.slice A2 n2 c2)).run Tryd.prog g.1 = .ok (.string S) g.1 := fun g => by
    have e := run_text g.1 A2 n2 c2 _ hn2 (ho2.src.keep g.2)
    rwa [HS.out] at e
  clear hn2
  refine wpSegs_next (by simp [pickOps]; rfl) ?_
  repeat (go_big_quiet_step (fail))
  refine wpQuiet_nil ?_
  refine wpOp_alone rfl rfl (fun K hK => ?_)
  clear hT2
  go_simp
  refine (put_any none 0 0 [] 233 w2 (Ht.out.keep B2.out) rfl Src.none_ (by omega)).mono ?_
  rintro e w3 ⟨v3, rfl, A3, n3, c3, rfl, hn3, ho3, hb3⟩
  refine hK _ _ ⟨hb3, ?_⟩
  clear hK K
  have B3 := Lib.hid (Ext.trans B2.out hb3)
  have hT3 : ∀ g : Above w3, (convert 27 9 (.slice A3 n3 c3)).run Tryd.prog g.1 = .ok (.string ⟨#[195, 169]⟩) g.1 := fun g => by
    rw [← put_e9]; exact run_text g.1 A3 n3 c3 _ hn3 (ho3.src.keep g.2)
  clear hn3
  refine wpSegs_last (by simp [pickOps]; rfl) ?_
  repeat (go_big_quiet_step (fail))
  refine wpQuiet_nil ?_
  clear hT3
  go_wp2_with fail
  go_ret
  exact ⟨rfl, B3.out⟩
end Utf
end Go.Proofs.YthifoodhndjmdaaDoor

/- HexNumbers' walk: for any int, any text and any byte it answers true, and writes nothing that was there. -/
import Derived.Test.YteapddoanggniaaDoorItoa
import Derived.Test.YteapddoanggniaaDoorDecimalRef
import Derived.Test.YteapddoanggniaaDoorReadDecimal
namespace Go.Proofs.YteapddoanggniaaDoor
open Go.RowKit

theorem minus_seven : strOfNums (decI (-7)) = ⟨#[45, 55]⟩ := by
  rw [show decI (-7) = 45 :: decN 7 from rfl, decN_small (by decide)]
  decide

set_option maxHeartbeats 400000 in
theorem numbers_long (n : Int) (s : ByteArray) (c : Int) (w : World) (hm : s.size ≤ 9223372036854775807) (h : 2000 < s.size) :
    Calls Tryd.prog 3 #[.int .i64 n, .string s, .int .u8 c] w fun e w' => e = .returned (.bool true) ∧ Below w.heap.size w w' := by
  go_enter Tryd.func3, Tryd.ntmps3
  go_wp2_with fail
  go_ret
  exact ⟨rfl, Below.refl _ _⟩

set_option maxRecDepth 100000 in
set_option maxHeartbeats 2000000 in
theorem numbers_small (n : Int) (s : ByteArray) (c : Int) (w : World) (h0 : -9223372036854775808 ≤ n) (h1 : n ≤ 9223372036854775807) (hc : 0 ≤ c ∧ c < 256) (ht : Tab w) (hl : s.size ≤ 2000) :
    Calls Tryd.prog 3 #[.int .i64 n, .string s, .int .u8 c] w fun e w' => e = .returned (.bool true) ∧ Below w.heap.size w w' := by
  have Ht := Lib.hid ht
  have HR := Lib.hid (fun w' => readDec_any s w' (by omega))
  have HF := Lib.hid (fun w' => refReadDec_any s w' (by omega))
  have HD := Lib.hid (fun w' (t : Tab w') => decimal_any n w' h0 h1 t)
  have HG := Lib.hid (fun w' => decRef_any n w' h0 h1)
  have HK := Lib.hid (fun w' => kind_any c w' hc)
  have HJ := Lib.hid (fun w' => kindRef_any c w' hc)
  have H7 := Lib.hid (fun w' (t : Tab w') => decimal_any (-7) w' (by omega) (by omega) t)
  rw [minus_seven] at H7
  generalize strOfNums (decI n) = D at *
  generalize kindI c = k at *
  generalize numsOf s = us at *
  clear h0 h1 hc ht
  go_enter Tryd.func3, Tryd.ntmps3
  go_wp2_with fail
  refine (HR.out _).mono ?_
  rintro e1 w1 ⟨r1, b1⟩
  have R1 := Lib.hid r1
  obtain ⟨x, ok, rfl, _⟩ := r1
  go_wp2_with fail
  refine (HF.out _).mono ?_
  rintro e2 w2 ⟨r2, rfl⟩
  obtain ⟨y, is, he1, rfl⟩ := ten_same R1.out r2
  simp only [Ending.returned.injEq, Value.tuple.injEq, Array.mk.injEq, List.cons.injEq, Value.int.injEq, Value.bool.injEq, and_true, true_and] at he1
  obtain ⟨rfl, rfl⟩ := he1
  clear R1 r2 HR HF
  go_wp2_with fail
  refine (HD.out _ (Ht.out.keep b1)).mono ?_
  rintro e w3 ⟨rfl, hb3⟩
  have b3 := b1.trans (hb3.mono b1.size)
  clear b1 hb3 HD
  go_wp2_with fail
  refine (HG.out _).mono ?_
  rintro e w4 ⟨rfl, rfl⟩
  clear HG
  go_wp2_with fail
  refine (HK.out _).mono ?_
  rintro e w5 ⟨rfl, rfl⟩
  clear HK
  go_wp2_with fail
  refine (HJ.out _).mono ?_
  rintro e w6 ⟨rfl, rfl⟩
  clear HJ
  go_wp2_with fail
  refine (H7.out _ (Ht.out.keep b3)).mono ?_
  rintro e w7 ⟨rfl, hb7⟩
  have b7 := b3.trans (hb7.mono b3.size)
  clear b3 hb7 H7
  go_wp2_with fail
  go_ret
  exact ⟨rfl, b7⟩
end Go.Proofs.YteapddoanggniaaDoor

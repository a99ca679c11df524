/- The document's Hex, for any bytes (at most 400000). -/
import Derived.Test.YtbhcikahemhfmaaDoorDigitRef
import Derived.Test.YtbhcikahemhfmaaDoorBase
import Derived.LoopTactic
import Derived.BigQuiet
import Derived.Deep.QuietTactic
namespace Go.Proofs.YtbhcikahemhfmaaDoor
open Go.RowKit

/-- At a round's head: the digits of k bytes. -/
def HexRefAt (w : World) (xs : List Int) (v i : Value) (wr : World) : Prop :=
  ∃ k : Nat, k ≤ xs.length ∧ i = .int .i64 k ∧ v = .string (strOfNums (hexW (xs.take k))) ∧ Below w.heap.size w wr
set_option maxRecDepth 100000 in
set_option maxHeartbeats 1000000 in
theorem hexRef_any (A : Option Addr) (n c : Nat) (xs : List Int) (w : World) (hn : n = xs.length) (hs : Src .u8 w A xs) (hx : IsBytes xs) (hl : n ≤ 400000) :
    Calls Tryd.prog 18 #[.slice A n c] w fun e w' => e = .returned (.string (strOfNums (hexW xs))) ∧ Below w.heap.size w w' := by
  have Hn := Lib.hid hn
  have Hs := Lib.hid hs
  have Hx := Lib.hid hx
  clear hn hs hx
  go_enter Tryd.func18, Tryd.ntmps18
  go_wp2_with fail
  go_loopw [3, 4] (fun v i wr => HexRefAt w xs v i wr) (fun _ i _ => n - (intOf i).toNat)
  case atStart => exact ⟨0, Nat.zero_le _, rfl, rfl, Below.refl _ _⟩
  case round =>
    obtain ⟨k, hk, rfl, rfl, hb⟩ := hrel
    by_cases hlt : k < n
    · have Ht := Lib.hid (hexW_next xs k (by rw [← Hn.out]; exact hlt))
      obtain ⟨b, o, rfl, hbl, hcell⟩ := Hs.out (by rw [← Hn.out]; omega)
      have hc1 := (hb.cell (p := ⟨b, o + k, none⟩) hbl).trans (hcell k (by rw [← Hn.out]; exact hlt))
      obtain ⟨x0, x1⟩ := Hx.out.at_ k
      generalize xs.getD k 0 = x at *
      obtain ⟨d, hd⟩ : ∃ d, x / 16 = d := ⟨_, rfl⟩
      obtain ⟨m, hm⟩ : ∃ m, x % 16 = m := ⟨_, rfl⟩
      have b0 : 0 ≤ d := by omega
      have b1 : d < 16 := by omega
      have m0 : 0 ≤ m := by omega
      have m1 : m < 16 := by omega
      rw [hd, hm] at Ht
      have hd2 : x.tdiv 16 = d := by rw [Int.tdiv_eq_ediv_of_nonneg x0]; exact hd
      have hm2 : x.tmod 16 = m := by rw [Int.tmod_eq_emod_of_nonneg x0]; exact hm
      have wx : IntKind.i64.wrap x = x := by rw [IntKind.wrap_i64]; omega
      have wd : IntKind.i64.wrap d = d := by rw [IntKind.wrap_i64]; omega
      have wm : IntKind.i64.wrap m = m := by rw [IntKind.wrap_i64]; omega
      have HA := Lib.hid (show strOfNums (hexW (xs.take k)) ++ strOfNums [digI d] ++ strOfNums [digI m] = strOfNums (hexW (xs.take (k + 1))) by
        rw [nums_append, nums_append, List.append_assoc, Ht.out]; rfl)
      have hsz1 : (strOfNums (hexW (xs.take k))).size ≤ 800000 := by rw [nums_size, hexW_length, List.length_take]; omega
      have hsz2 : (strOfNums [digI d]).size = 1 := nums_size _
      have hsz3 : (strOfNums [digI m]).size = 1 := nums_size _
      have hD := Lib.hid (rfl : strOfNums [digI d] = strOfNums [digI d])
      have cD := fun w' => digit_any d w' b0 b1
      have cM := fun w' => digit_any m w' m0 m1
      clear hcell x0 x1 hd hm hD
      generalize strOfNums (hexW (xs.take k)) = T at *
      generalize strOfNums [digI d] = D at *
      generalize strOfNums [digI m] = M at *
      have CD := Lib.hid cD
      have CM := Lib.hid cM
      clear cD cM
      go_wp2_with fail
      go_quiet ((go_at_call 28; first | exact Calls.quiet_of_same (CD.out _) | exact Calls.quiet_of_same (CM.out _)))
      go_wp2_with fail
      go_roundw
      case rel => exact ⟨k + 1, by have := Hn.out; omega, by go_num, by rw [← HA.out], below_drewN hb _⟩
      case measure => simp [intOf]; omega
    · have hkn : k = n := by have := Hn.out; omega
      subst hkn
      have Ht := Lib.hid (show hexW (xs.take k) = hexW xs by rw [List.take_of_length_le (by rw [← Hn.out]; omega)])
      rw [Ht.out]
      clear Ht
      go_wp2_with fail
      go_ret
      exact ⟨rfl, hb⟩
end Go.Proofs.YtbhcikahemhfmaaDoor

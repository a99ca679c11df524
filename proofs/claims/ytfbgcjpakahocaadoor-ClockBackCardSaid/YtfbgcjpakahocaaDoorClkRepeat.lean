/- strings.Repeat of the text 0, at most three times, by the library's own text; and a number as so many digits. Nothing that was there is written. Conditions: those that stand in each lemma. -/
import Derived.Test.YtfbgcjpakahocaaDoorClkSmall
namespace Go.Proofs.YtfbgcjpakahocaaDoor
open Go.RowKit
namespace Clk

def zeroS : ByteArray := ⟨#[48]⟩
theorem mul64_one (c : Nat) (hc : c = 2 ∨ c = 3) (w : World) : Calls Tryd.prog 59 #[.int .u64 1, .int .u64 (c : Int)] w fun e w' => e = .returned (.tuple #[.int .u64 0, .int .u64 (c : Int)]) ∧ w' = w := by
  rcases hc with rfl | rfl
  all_goals
    go_enter Tryd.func59, Tryd.ntmps59
    go_wp2_with fail
    go_ret2
    exact ⟨rfl, rfl⟩
theorem mul_one (c : Nat) (hc : c = 2 ∨ c = 3) (w : World) : Calls Tryd.prog 50 #[.int .u64 1, .int .u64 (c : Int)] w fun e w' => e = .returned (.tuple #[.int .u64 0, .int .u64 (c : Int)]) ∧ w' = w := by
  have HM := Lib.hid (fun w' => mul64_one c hc w')
  rcases hc with rfl | rfl
  all_goals
    go_enter Tryd.func50, Tryd.ntmps50
    go_wp2_with fail
    refine (HM.out _).mono ?_
    rintro e w1 ⟨rfl, rfl⟩
    go_wp2_with fail
    go_ret2
    exact ⟨rfl, rfl⟩
theorem prefix_lite (s : ByteArray) (B : Bool) (w : World) (h : 1 ≤ s.size) (hl : s.size ≤ 1000) (hB : (s.extract 0 1 == zeroS) = B) : Calls Tryd.prog 60 #[.string s, .string zeroS] w fun e w' => e = .returned (.bool B) ∧ w' = w := by
  have hB2 : ((s.extract 0 1).toList == zeroS.toList) = B := by rw [← beq_toListBytes]; exact hB
  have hz : zeroS.size = 1 := rfl
  generalize zeroS = z at *
  go_enter Tryd.func60, Tryd.ntmps60
  go_wp2_with fail
  go_ret
  exact ⟨rfl, rfl⟩
theorem prefix_any (s : ByteArray) (B : Bool) (w : World) (h : 1 ≤ s.size) (hl : s.size ≤ 1000) (hB : (s.extract 0 1 == zeroS) = B) : Calls Tryd.prog 51 #[.string s, .string zeroS] w fun e w' => e = .returned (.bool B) ∧ w' = w := by
  have HP := Lib.hid (fun w' => prefix_lite s B w' h hl hB)
  clear h hl hB
  generalize zeroS = z at *
  go_enter Tryd.func51, Tryd.ntmps51
  go_wp2_with fail
  refine (HP.out _).mono ?_
  rintro e w1 ⟨rfl, rfl⟩
  go_wp2_with fail
  go_ret
  exact ⟨rfl, rfl⟩
def zerosS (c : Nat) : ByteArray := strOfNums (List.replicate c 48)
set_option maxRecDepth 100000 in
set_option maxHeartbeats 4000000 in
theorem repeat_any (c : Nat) (hc : c ≤ 3) (w : World) : Calls Tryd.prog 47 #[.string ⟨#[48]⟩, .int .i64 (c : Int)] w fun e w' => e = .returned (.string (zerosS c)) ∧ w' = w := by
  rcases (show c = 0 ∨ c = 1 ∨ c = 2 ∨ c = 3 by omega) with rfl | rfl | rfl | rfl
  · go_enter Tryd.func47, Tryd.ntmps47
    go_wp2_with fail
    go_ret
    exact ⟨rfl, rfl⟩
  · go_enter Tryd.func47, Tryd.ntmps47
    go_wp2_with fail
    go_ret
    exact ⟨rfl, rfl⟩
  · go_enter Tryd.func47, Tryd.ntmps47
    go_wp2_with fail
    refine (mul_one 2 (.inl rfl) _).mono ?_
    rintro e w1 ⟨rfl, rfl⟩
    go_wp2_with fail
    refine (prefix_any _ false _ (by decide) (by decide) (by rfl)).mono ?_
    rintro e w2 ⟨rfl, rfl⟩
    go_wp2_with fail
    refine (prefix_any _ false _ (by decide) (by decide) (by rfl)).mono ?_
    rintro e w3 ⟨rfl, rfl⟩
    go_wp2_with fail
    refine (prefix_any _ true _ (by decide) (by decide) (by rfl)).mono ?_
    rintro e w4 ⟨rfl, rfl⟩
    go_wp2_with fail
    go_ret
    exact ⟨rfl, rfl⟩
  · go_enter Tryd.func47, Tryd.ntmps47
    go_wp2_with fail
    refine (mul_one 3 (.inr rfl) _).mono ?_
    rintro e w1 ⟨rfl, rfl⟩
    go_wp2_with fail
    refine (prefix_any _ false _ (by decide) (by decide) (by rfl)).mono ?_
    rintro e w2 ⟨rfl, rfl⟩
    go_wp2_with fail
    refine (prefix_any _ false _ (by decide) (by decide) (by rfl)).mono ?_
    rintro e w3 ⟨rfl, rfl⟩
    go_wp2_with fail
    refine (prefix_any _ true _ (by decide) (by decide) (by rfl)).mono ?_
    rintro e w4 ⟨rfl, rfl⟩
    go_wp2_with fail
    go_ret
    exact ⟨rfl, rfl⟩

/-- A number as k digits, that it does not have more of. -/
theorem digits_any (k : Nat) (n : Int) (w : World) (ht : Tab w) (hk : k = 2 ∨ k = 4) (h0 : 0 ≤ n) (h1 : n < 10 ^ k) :
    Calls Tryd.prog 35 #[.int .i64 n, .int .i64 (k : Int)] w fun e w' => e = .returned (.string (strOfNums (digK k n))) ∧ Below w.heap.size w w' := by
  have hb : n ≤ 9223372036854775807 := by rcases hk with rfl | rfl <;> simp at h1 <;> omega
  have HC := Lib.hid (fun w' h => decimal_any n w' (by omega) hb h)
  have Ht := Lib.hid ht
  have hu : decI n = decN n.toNat := by unfold decI; rw [if_neg (by omega)]
  rw [hu] at HC
  obtain ⟨j, rfl⟩ : ∃ j, k = j + 1 := ⟨k - 1, by omega⟩
  have hpow : n.toNat < 10 ^ (j + 1) := by rcases hk with h | h <;> rw [h] at h1 ⊢ <;> simp at h1 ⊢ <;> omega
  obtain ⟨p0, p1⟩ := decN_len j hpow
  have HP := digK_pad j n.toNat hpow
  rw [Int.toNat_of_nonneg h0] at HP
  obtain ⟨c, hc⟩ : ∃ c, j + 1 - (decN n.toNat).length = c := ⟨_, rfl⟩
  rw [hc] at HP
  have HR := Lib.hid (fun w' => repeat_any c (by omega) w')
  have HE : Hid (zerosS c ++ strOfNums (decN n.toNat) = strOfNums (digK (j + 1) n)) := Lib.hid (by unfold zerosS; rw [nums_append, HP])
  have hs : (strOfNums (decN n.toNat)).size = (decN n.toNat).length := nums_size _
  have hz : (zerosS c).size = c := by unfold zerosS; rw [nums_size, List.length_replicate]
  have hcl : c + (decN n.toNat).length = j + 1 := by omega
  clear HP hu ht h0 h1 hb hpow
  generalize strOfNums (digK (j + 1) n) = Z at *
  generalize strOfNums (decN n.toNat) = D at *
  generalize (decN n.toNat).length = L at *
  generalize zerosS c = Y at *
  have hj : ((j + 1 : Nat) : Int) - (L : Int) = (c : Int) := by omega
  have hj5 : j ≤ 5 := by omega
  go_enter Tryd.func35, Tryd.ntmps35
  go_wp2_with fail
  refine (HC.out _ Ht.out).mono ?_
  rintro e w1 ⟨rfl, hb1⟩
  go_wp2_with fail
  rw [show (j : Int) + 1 - (L : Int) = (c : Int) by omega]
  refine (HR.out _).mono ?_
  rintro e w2 ⟨rfl, rfl⟩
  go_wp2_with fail
  go_ret
  exact ⟨by rw [← HE.out]; rfl, hb1⟩
end Clk
end Go.Proofs.YtfbgcjpakahocaaDoor

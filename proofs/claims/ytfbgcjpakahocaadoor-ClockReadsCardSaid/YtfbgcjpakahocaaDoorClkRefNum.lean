/- The document's number and value: a number as so many digits, and the number of some bytes. Nothing is written. Conditions: those that stand in each lemma. -/
import Derived.Test.YtfbgcjpakahocaaDoorClkRefSmall
import Derived.Test.YtfbgcjpakahocaaDoorReadDecimal
namespace Go.Proofs.YtfbgcjpakahocaaDoor
open Go.RowKit
namespace Clk

def tenS : ByteArray := ⟨#[48, 49, 50, 51, 52, 53, 54, 55, 56, 57]⟩
theorem ten_at (d : Nat) (h : d < 10) : tenS.extract d (d + 1) = strOfNums [48 + (d : Int)] := by
  rcases (show d = 0 ∨ d = 1 ∨ d = 2 ∨ d = 3 ∨ d = 4 ∨ d = 5 ∨ d = 6 ∨ d = 7 ∨ d = 8 ∨ d = 9 by omega) with rfl | rfl | rfl | rfl | rfl | rfl | rfl | rfl | rfl | rfl <;> rfl
theorem run_slice_part (s p : ByteArray) (a b : Nat) (j : Int) (hj : j = (b : Int)) (h : a ≤ b) (hb : b ≤ s.size) (hp : s.extract a b = p) (w : World) : (Instr.slice 9 (.string s) (some (.int .i64 (a : Int))) (some (.int .i64 j)) none).run Tryd.prog w = .ok (.string p) w := by
  subst hj hp
  rw [run_slice_string w 9 s .i64 .i64 (a : Int) (b : Int) Tryd.underlying9 (by omega) (by omega) (by omega)]
  simp
/-- At a round's head: j digits are told, the number m is to come. -/
def NmAt (n : Int) (k : Nat) (nv sv iv : Value) : Prop :=
  ∃ (j : Nat) (m : Int) (suf : List Int), j ≤ k ∧ 0 ≤ m ∧ m ≤ n ∧ iv = .int .i64 (j : Int) ∧ nv = .int .i64 m ∧ sv = .string (strOfNums suf) ∧ suf.length = j ∧ digK k n = digK (k - j) m ++ suf
set_option maxRecDepth 100000 in
set_option maxHeartbeats 1000000 in
theorem rnumber_any (k : Nat) (n : Int) (w : World) (hk : k ≤ 4) (h0 : 0 ≤ n) (h1 : n ≤ 100000) :
    Calls Tryd.prog 37 #[.int .i64 n, .int .i64 (k : Int)] w fun e w' => e = .returned (.string (strOfNums (digK k n))) ∧ w' = w := by
  have HT := Lib.hid ten_at
  have start : NmAt n k (.int .i64 n) (.string ⟨#[]⟩) (.int .i64 0) := ⟨0, n, [], Nat.zero_le _, h0, Int.le_refl _, rfl, rfl, rfl, rfl, by simp⟩
  have HST := Lib.hid start
  clear start
  unfold tenS at HT
  go_enter Tryd.func37, Tryd.ntmps37
  go_wp2_with fail
  go_loopw [0, 5, 6] (fun nv sv iv wr => NmAt n k nv sv iv ∧ wr = w) (fun _ _ iv _ => k - (intOf iv).toNat)
  case atStart => exact ⟨HST.out, rfl⟩
  case round =>
    clear HST
    obtain ⟨⟨j, m, suf, hj, m0, m1, rfl, rfl, rfl, hl, he⟩, rfl⟩ := hrel
    have HE := Lib.hid he
    have HL := Lib.hid hl
    have hS : (strOfNums suf).size = j := by rw [nums_size, hl]
    clear he hl
    by_cases hlt : j < k
    · obtain ⟨d, hd⟩ : ∃ d : Nat, m % 10 = (d : Int) := ⟨(m % 10).toNat, by omega⟩
      have d1 : d < 10 := by omega
      have di : (d : Int) < 10 := by omega
      have hjk : (j : Int) < (k : Int) := by omega
      have hx := fun w' => run_slice_part ⟨#[48, 49, 50, 51, 52, 53, 54, 55, 56, 57]⟩ (strOfNums [48 + (d : Int)]) d (d + 1) ((d : Int) + 1) (by omega) (by omega) (show d + 1 ≤ 10 by omega) (HT.out d d1) w'
      have hDs : (strOfNums [48 + (d : Int)]).size = 1 := nums_size _
      have HN : Hid (strOfNums [48 + (d : Int)] ++ strOfNums suf = strOfNums ([48 + m % 10] ++ suf)) := Lib.hid (by rw [nums_append, hd])
      have HK : Hid (digK k n = digK (k - (j + 1)) (m / 10) ++ ([48 + m % 10] ++ suf)) := Lib.hid (by
        rw [HE.out, show k - j = k - (j + 1) + 1 by omega, digK, List.append_assoc])
      have HL2 : Hid (([48 + m % 10] ++ suf).length = j + 1) := Lib.hid (by rw [List.length_append, HL.out]; simp; omega)
      clear HE HL
      generalize strOfNums [48 + (d : Int)] = D at *
      generalize strOfNums suf = S at *
      go_wp2_with fail
      refine ⟨⟨⟨j + 1, m / 10, [48 + m % 10] ++ suf, hlt, by omega, by omega, by go_num, rfl, by rw [← HN.out], HL2.out, HK.out⟩, trivial⟩, by simp [intOf]; omega⟩
    · obtain rfl : j = k := by omega
      have HK : Hid (digK j n = suf) := Lib.hid (by rw [HE.out, Nat.sub_self]; rfl)
      clear HE
      go_wp2_with fail
      go_ret
      exact ⟨by rw [HK.out]; rfl, rfl⟩

theorem numW_range (xs : List Int) (hx : IsBytes xs) : ∀ k : Nat, k ≤ 4 → k ≤ xs.length → -6 * 10 ^ k + 6 ≤ numW (xs.take k) ∧ numW (xs.take k) ≤ 23 * 10 ^ k - 23
  | 0, _, _ => by rw [List.take_zero]; exact ⟨by decide, by decide⟩
  | k + 1, h4, hk => by
    have ih := numW_range xs hx k (by omega) (by omega)
    have b := hx.at_ k
    rw [take_snoc xs k (by omega), numW_snoc, Int.pow_succ]
    omega
/-- At a round's head: k bytes are read. -/
def VaAt (xs : List Int) (nv iv : Value) : Prop := ∃ k : Nat, k ≤ xs.length ∧ iv = .int .i64 (k : Int) ∧ nv = .int .i64 (numW (xs.take k))
set_option maxRecDepth 100000 in
set_option maxHeartbeats 1000000 in
theorem rvalue_any (s : ByteArray) (w : World) (hl : s.size ≤ 4) : Calls Tryd.prog 42 #[.string s] w fun e w' => e = .returned (.int .i64 (numW (numsOf s))) ∧ w' = w := by
  have Hn := Lib.hid (numsOf_length s)
  have Hx := Lib.hid (numsOf_bytes s)
  have HR := Lib.hid (fun k => numW_range (numsOf s) (numsOf_bytes s) k)
  have HI := Lib.hid (fun (k : Nat) (hk : k < s.size) (w' : World) => run_index_str (P := Tryd.prog) w' 9 s (k : Int) k rfl Tryd.underlying9 hk)
  generalize numsOf s = xs at *
  go_enter Tryd.func42, Tryd.ntmps42
  go_wp2_with fail
  go_loopw [3, 4] (fun nv iv wr => VaAt xs nv iv ∧ wr = w) (fun _ iv _ => s.size - (intOf iv).toNat)
  case atStart => exact ⟨⟨0, Nat.zero_le _, rfl, by rw [List.take_zero]; rfl⟩, rfl⟩
  case round =>
    obtain ⟨⟨k, hk, rfl, rfl⟩, rfl⟩ := hrel
    have hks : k ≤ s.size := by rw [← Hn.out]; exact hk
    have hr : -60000 ≤ numW (xs.take k) ∧ numW (xs.take k) ≤ 230000 := by
      have := HR.out k (by omega) hk
      have hp : (10 : Int) ^ k ≤ 10000 ∧ 1 ≤ (10 : Int) ^ k := by rcases (show k = 0 ∨ k = 1 ∨ k = 2 ∨ k = 3 ∨ k = 4 by omega) with rfl | rfl | rfl | rfl | rfl <;> decide
      omega
    obtain ⟨r0, r1⟩ := hr
    by_cases hlt : k < s.size
    · have hi := HI.out k hlt
      have hb := Hx.out.at_ k
      have HS := Lib.hid (numW_snoc (xs.take k) (xs.getD k 0))
      rw [← take_snoc xs k (by rw [Hn.out]; exact hlt)] at HS
      generalize xs.getD k 0 = c at *
      generalize numW (xs.take k) = A at *
      go_wp2_with fail
      refine ⟨⟨⟨k + 1, by rw [Hn.out]; omega, by go_num, by rw [HS.out]; go_num⟩, trivial⟩, by simp [intOf]; omega⟩
    · have hkn : k = xs.length := by rw [Hn.out]; omega
      have HT : Hid (xs.take k = xs) := Lib.hid (by rw [hkn, List.take_length])
      rw [HT.out]
      clear HT
      go_wp2_with fail
      go_ret
      exact ⟨rfl, rfl⟩
end Clk
end Go.Proofs.YtfbgcjpakahocaaDoor

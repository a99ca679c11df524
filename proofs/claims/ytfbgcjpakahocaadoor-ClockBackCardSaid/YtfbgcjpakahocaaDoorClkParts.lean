/- What is read off a text, by the program: a number of its digits, or 0; the month of a name, or 0; and whether a time tells the text. Nothing that was there is written. Conditions: the listed tables lie where they were laid, and those that stand in each lemma. -/
import Derived.Test.YtfbgcjpakahocaaDoorClkWeb
import Derived.Test.YtfbgcjpakahocaaDoorClkVar
import Derived.Test.YtfbgcjpakahocaaDoorReadDecimal
namespace Go.Proofs.YtfbgcjpakahocaaDoor
open Go.RowKit
namespace Clk

instance (xs : List Int) : Decidable (TenRight xs) := inferInstanceAs (Decidable (_ ∧ _ ∧ ∀ c ∈ xs, kindI c = 1))
/-- The number of digits; 0: they are none. -/
def numR (xs : List Int) : Int := if TenRight xs then numW xs else 0
theorem knows_numR : Knows numR := by
  have key : ∀ (k : Nat) (n : Int), 1 ≤ k ∧ k ≤ 18 → 0 ≤ n → n < 10 ^ k → numR (digK k n) = n := fun k n hk h0 h => by
    unfold numR
    rw [if_pos ⟨by rw [digK_length]; omega, by rw [digK_length]; omega, digK_ten k n⟩, numW_digK k n h0 h]
  exact ⟨fun n h0 h => key 2 n (by omega) h0 h, fun n h0 h => key 4 n (by omega) h0 h⟩
theorem number_any (s : ByteArray) (w : World) (hl : s.size ≤ 1000) : Calls Tryd.prog 39 #[.string s] w fun e w' => e = .returned (.int .i64 (numR (numsOf s))) ∧ Below w.heap.size w w' := by
  have HR := Lib.hid (fun w' => readDec_any s w' (by omega))
  generalize numsOf s = xs at *
  go_enter Tryd.func39, Tryd.ntmps39
  go_wp2_with fail
  refine (HR.out _).mono ?_
  rintro e w1 ⟨⟨n, ok, rfl, hn⟩, hb1⟩
  have HN : Hid (numR xs = n) := Lib.hid (by
    unfold numR
    rcases hn with ⟨h, h1, _⟩ | ⟨h, h1, _⟩
    · rw [if_pos h, h1]
    · rw [if_neg h, h1])
  clear hn
  go_wp2_with fail
  go_ret
  exact ⟨by rw [HN.out]; rfl, hb1⟩

theorem strOf_eq (xs ys : List Int) (hx : IsBytes xs) (hy : IsBytes ys) : (strOfNums xs == strOfNums ys) = decide (xs = ys) := by
  have hb : ∀ a b : ByteArray, (a == b) = true ↔ a = b := fun a b => by
    obtain ⟨x⟩ := a
    obtain ⟨y⟩ := b
    constructor
    · intro h
      have e : x = y := by simpa using (show (x == y) = true from h)
      rw [e]
    · intro h
      injection h with h
      show (x == y) = true
      simp [h]
  rw [Bool.eq_iff_iff, hb, decide_eq_true_eq]
  refine ⟨fun h => ?_, fun h => by rw [h]⟩
  have := congrArg numsOf h
  rwa [numsOf_strOfNums xs hx, numsOf_strOfNums ys hy] at this
theorem str_eq (xs : List Int) (t : ByteArray) (hx : IsBytes xs) : (strOfNums xs == t) = decide (xs = numsOf t) := by
  have h := strOf_eq xs (numsOf t) hx (numsOf_bytes t)
  rwa [strOfNums_numsOf] at h
/-- An element of an array that is a value. -/
theorem run_index_array {P : Program} (w : World) (t e : TypeId) (n : Nat) (d : TypeDesc) (cs : Array Value) (k : Nat) (v : Value) (hu : P.underlying t = some (.array n e)) (he : P.underlying e = some d)
    (hd : (match d with | .struct _ | .array _ _ => true | _ => false) = false) (hz : (P.info? e).map (·.size) = some 1) (hk : k < n) (hv : cs[k]? = some v) :
    (Instr.index t (.agg cs) (.int .i64 (k : Int))).run P w = .ok v w := by
  cases hq : P.info? e with
  | none => simp [hq] at hz
  | some i =>
    have hs : i.size = 1 := by simpa [hq] using hz
    have hagg : (isAgg e).run P w = .ok false w := by
      unfold isAgg
      rw [Sem.run_bind, run_underlying he w]
      cases d <;> simp_all
    have hk' : (0 : Int) ≤ (k : Int) ∧ (k : Int) < (n : Int) := by omega
    have ha : (asIntOf (.int .i64 (k : Int))).run P w = .ok (.i64, (k : Int)) w := by simp [asIntOf]
    unfold Instr.index
    simp only [Sem.run_bind, ha, Result.andThen_ok, run_underlying hu w]
    rw [if_pos hk']
    simp [sizeOf, typeInfo, hq, hs, part, hagg, hv]
theorem Tryd.size_names : (Tryd.prog.info? 50).map (·.size) = some 12 := by kernel_rfl
theorem Tryd.one_str : (Tryd.prog.info? 9).map (·.size) = some 1 := by kernel_rfl
/-- The month of a name. -/
def MonthTo (xs : List Int) (m : Int) : Prop := (∃ k : Nat, k < 12 ∧ moN k = xs ∧ m = (k : Int) + 1) ∨ ((∀ k : Nat, k < 12 → moN k ≠ xs) ∧ m = 0)
/-- At a round's head: the first k names are others. -/
def MnAt (xs : List Int) (i : Value) : Prop := ∃ k : Nat, k ≤ 12 ∧ i = .int .i64 (k : Int) ∧ ∀ j : Nat, j < k → moN j ≠ xs
set_option maxRecDepth 100000 in
set_option maxHeartbeats 1000000 in
theorem monthOf_any (s : ByteArray) (w : World) (ht : Tabs w) : Calls Tryd.prog 40 #[.string s] w fun e w' => ∃ m, e = .returned (.int .i64 m) ∧ MonthTo (numsOf s) m ∧ w' = w := by
  have Ht := Lib.hid ht
  clear ht
  have hc := Ht.out.names
  have HE := Lib.hid (fun k => str_eq (moN k) s (moN_bytes k))
  generalize numsOf s = xs at *
  go_enter Tryd.func40, Tryd.ntmps40
  go_wp2_with (refine wpList_load_cells rfl 50 (.global 1) rfl 1 0 rfl moC _ hc Tryd.underlying50 rfl (by rw [Tryd.size_names]; rfl) ?_)
  go_loopw [6] (fun i wr => MnAt xs i ∧ wr = w) (fun i _ => 12 - (intOf i).toNat)
  case atStart => exact ⟨⟨0, by omega, rfl, fun j hj => absurd hj (by omega)⟩, rfl⟩
  case round =>
    obtain ⟨⟨k, hk, rfl, hp⟩, rfl⟩ := hrel
    have HP := Lib.hid hp
    clear hp
    by_cases hlt : k < 12
    · have ik := fun w' => run_index_array (P := Tryd.prog) w' 50 9 12 _ moC k _ Tryd.underlying50 Tryd.underlying9 rfl Tryd.one_str hlt (moC_at k hlt)
      have hkl : (k : Int) < 12 := by omega
      have HEk := HE.out k
      have HEk2 : ((strOfNums (moN k)).toList == s.toList) = decide (moN k = xs) := by rw [← beq_toListBytes]; exact HEk
      generalize strOfNums (moN k) = S at *
      by_cases hx : moN k = xs
      · rw [decide_eq_true hx] at HEk HEk2
        have HX := Lib.hid hx
        clear hx
        go_wp2_with fail
        go_ret
        exact ⟨_, rfl, .inl ⟨k, hlt, HX.out, by go_num⟩, rfl⟩
      · rw [decide_eq_false hx] at HEk HEk2
        have HX := Lib.hid hx
        clear hx
        go_wp2_with fail
        refine ⟨⟨⟨k + 1, by omega, by go_num, fun j hj => ?_⟩, trivial⟩, by simp [intOf]; omega⟩
        rcases Nat.lt_succ_iff_lt_or_eq.1 hj with h | rfl
        · exact HP.out j h
        · exact HX.out
    · obtain rfl : k = 12 := by omega
      rw [show ((12 : Nat) : Int) = (12 : Int) from rfl]
      go_wp2_with fail
      go_ret
      exact ⟨0, rfl, .inr ⟨HP.out, rfl⟩, rfl⟩
end Clk
end Go.Proofs.YtfbgcjpakahocaaDoor

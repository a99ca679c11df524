/- Signs of base64, the program's and the document's, for any number and any byte: nothing is written. No conditions but those that stand in each lemma. -/
import Derived.Test.YtbkkngakbjpakaaChecked
import Derived.WalkSmall
import Derived.WalkKit
import Derived.RowKit
import Derived.LoopTactic
import Derived.Lib.Bytealg
import Derived.Lib.Hide
namespace Go.Proofs.Ytbkkngakbjpakaa
open Go.RowKit
namespace B64

/-- The sign of a number; 0: it has none. -/
def signI (n : Int) : Int :=
  if n < 0 ∨ 63 < n then 0 else if n < 26 then 65 + n else if n < 52 then 71 + n else if n < 62 then n - 4 else if n < 63 then 43 else 47
/-- The number of a sign; -1: it is none. -/
def valI (c : Int) : Int :=
  if 65 ≤ c ∧ c ≤ 90 then c - 65 else if 97 ≤ c ∧ c ≤ 122 then c - 71 else if 48 ≤ c ∧ c ≤ 57 then c + 4 else if c = 43 then 62 else if c = 47 then 63 else -1
theorem val_sign (n : Int) (h : 0 ≤ n ∧ n < 64) : valI (signI n) = n := by unfold valI signI; omega
theorem sign_val (c : Int) (h : 0 ≤ valI c) : signI (valI c) = c := by revert h; unfold valI signI; omega
theorem val_le (c : Int) : -1 ≤ valI c ∧ valI c < 64 := by unfold valI; omega
theorem sign_byte (n : Int) : 0 ≤ signI n ∧ signI n < 256 := by unfold signI; omega

/-- The signs, as the programs have them. -/
def signsB : ByteArray := ⟨#[65, 66, 67, 68, 69, 70, 71, 72, 73, 74, 75, 76, 77, 78, 79, 80, 81, 82, 83, 84, 85, 86, 87, 88, 89, 90, 97, 98, 99, 100, 101, 102, 103, 104, 105, 106, 107, 108, 109, 110, 111, 112, 113, 114, 115, 116, 117, 118, 119, 120, 121, 122, 48, 49, 50, 51, 52, 53, 54, 55, 56, 57, 43, 47]⟩
theorem signs_at : ∀ m : Fin 64, signsB[m.val]? = some (UInt8.ofNat (signI (m.val : Int)).toNat) := by decide +kernel
theorem signs_val : ∀ c : Fin 256, Lib.indexByte signsB.data.toList (Int.toNat (c.val : Int)).toUInt8 = valI (c.val : Int) := by decide +kernel
theorem val_of (c : Int) (h : 0 ≤ c ∧ c < 256) : Lib.indexByte signsB.data.toList c.toNat.toUInt8 = valI c := by
  obtain ⟨m, rfl⟩ := Int.eq_ofNat_of_zero_le h.1
  exact signs_val ⟨m, by omega⟩
theorem run_index_sign {P : Program} (w : World) (t : TypeId) (k : IntKind) (d : Int) (hu : P.underlying t = some .string) (h0 : 0 ≤ d) (h1 : d < 64) :
    (Instr.index t (.string signsB) (.int k d)).run P w = .ok (.int .u8 (signI d)) w := by
  obtain ⟨m, rfl⟩ := Int.eq_ofNat_of_zero_le h0
  have hm : m < 64 := by omega
  have hd := signs_at ⟨m, hm⟩
  have ha : (asIntOf (.int k (m : Int))).run P w = .ok (k, (m : Int)) w := by simp [asIntOf]
  have hb := sign_byte (m : Int)
  have hv : ((UInt8.ofNat (signI (m : Int)).toNat).toNat : Int) = signI (m : Int) := by
    rw [UInt8.toNat_ofNat']
    omega
  unfold Instr.index
  simp only [Sem.run_bind, ha, Result.andThen_ok, run_underlying hu w]
  rw [if_pos h0, Int.toNat_natCast, hd]
  simp only [Sem.run_pure]
  rw [hv]

theorem sign_any (n : Int) (w : World) : Calls Try.prog 4 #[.int .i64 n] w fun e w' => e = .returned (.int .u8 (signI n)) ∧ w' = w := by
  by_cases h0 : n < 0
  · have e : signI n = 0 := by unfold signI; rw [if_pos (by omega)]
    rw [e]
    go_enter Try.func4, Try.ntmps4
    go_wp2_with fail
    go_ret
    exact ⟨rfl, rfl⟩
  by_cases h1 : 64 ≤ n
  · have e : signI n = 0 := by unfold signI; rw [if_pos (by omega)]
    rw [e]
    go_enter Try.func4, Try.ntmps4
    go_wp2_with fail
    go_ret
    exact ⟨rfl, rfl⟩
  have hc := fun w' => run_index_sign (P := Try.prog) w' 9 .i64 n Try.underlying9 (by omega) (by omega)
  unfold signsB at hc
  go_enter Try.func4, Try.ntmps4
  go_wp2_with fail
  go_ret
  exact ⟨rfl, rfl⟩
theorem rsign_any (n : Int) (w : World) : Calls Try.prog 5 #[.int .i64 n] w fun e w' => e = .returned (.int .u8 (signI n)) ∧ w' = w := by
  by_cases h0 : n < 0
  · have e : signI n = 0 := by unfold signI; rw [if_pos (by omega)]
    rw [e]
    go_enter Try.func5, Try.ntmps5
    go_wp2_with fail
    go_ret
    exact ⟨rfl, rfl⟩
  by_cases h1 : 63 < n
  · have e : signI n = 0 := by unfold signI; rw [if_pos (by omega)]
    rw [e]
    go_enter Try.func5, Try.ntmps5
    go_wp2_with fail
    go_ret
    exact ⟨rfl, rfl⟩
  have hc := fun w' => run_index_sign (P := Try.prog) w' 9 .i64 n Try.underlying9 (by omega) (by omega)
  unfold signsB at hc
  go_enter Try.func5, Try.ntmps5
  go_wp2_with fail
  go_ret
  exact ⟨rfl, rfl⟩

set_option maxHeartbeats 1000000 in
set_option maxRecDepth 100000 in
/-- strings.IndexByte, by the library's own text. -/
theorem indexByte_any (s : ByteArray) (c : Int) (w : World) :
    Calls Try.prog 8 #[.string s, .int .u8 c] w fun e w' => e = .returned (.int .i64 (Lib.indexByte s.data.toList c.toNat.toUInt8)) ∧ w' = w := by
  go_enter Try.func8, Try.ntmps8
  go_wp2
  rw [run_callFunc_extern Try.func10 (by kernel_rfl) (by kernel_rfl) (by kernel_rfl) (e := Extern.BytealgIndexByte.indexByte) (by kernel_rfl), Lib.run_indexByteString]
  simp only [Result.andThen]
  rw [Oper.upon_value]
  go_wp2
  go_ret
  exact ⟨rfl, rfl⟩

theorem value_any (c : Int) (w : World) (h : 0 ≤ c ∧ c < 256) : Calls Try.prog 6 #[.int .u8 c] w fun e w' => e = .returned (.int .i64 (valI c)) ∧ w' = w := by
  have hv := val_of c h
  have HI := fun w' => indexByte_any signsB c w'
  rw [hv] at HI
  unfold signsB at HI
  go_enter Try.func6, Try.ntmps6
  go_wp2_with (go_at_call 8; refine (HI _).mono ?_; rintro e w' ⟨rfl, rfl⟩)
  go_ret
  exact ⟨rfl, rfl⟩

/-- At a round's head: none of the numbers ahead has this sign. -/
def ValAt (c : Int) (i : Value) : Prop := ∃ k : Nat, k ≤ 64 ∧ i = .int .i64 (k : Int) ∧ (valI c < 0 ∨ (k : Int) ≤ valI c)
set_option maxRecDepth 100000 in
theorem rvalue_any (c : Int) (w : World) : Calls Try.prog 7 #[.int .u8 c] w fun e w' => e = .returned (.int .i64 (valI c)) ∧ w' = w := by
  have hv := val_le c
  go_enter Try.func7, Try.ntmps7
  go_wp2_with fail
  go_loopw [3] (fun i wr => ValAt c i ∧ wr = w) (fun i _ => 64 - (intOf i).toNat)
  case atStart => exact ⟨⟨0, by omega, rfl, by omega⟩, rfl⟩
  case round =>
    obtain ⟨⟨k, hk, rfl, hat⟩, rfl⟩ := hrel
    by_cases hlt : k < 64
    · have hki : (k : Int) < 64 := by omega
      by_cases he : signI (k : Int) = c
      · have Hvk := Lib.hid (show valI c = (k : Int) by rw [← he]; exact val_sign _ (by omega))
        clear hat hv
        go_wp2_with (go_at_call 5; refine (rsign_any _ _).mono ?_; rintro e w' ⟨rfl, rfl⟩)
        go_ret
        exact ⟨by rw [Hvk.out]; rfl, rfl⟩
      · have hne : valI c ≠ (k : Int) := fun hh => he (by rw [← hh]; exact sign_val c (by omega))
        have Hat := Lib.hid hat
        have Hne := Lib.hid hne
        have Hv := Lib.hid hv
        clear hat hne hv
        go_wp2_with (go_at_call 5; refine (rsign_any _ _).mono ?_; rintro e w' ⟨rfl, rfl⟩)
        refine ⟨⟨⟨k + 1, by omega, by go_num, ?_⟩, trivial⟩, by simp [intOf]; omega⟩
        have := Hat.out
        have := Hne.out
        omega
    · have hk64 : (k : Int) = 64 := by omega
      have Hvm := Lib.hid (show valI c = -1 by omega)
      clear hat hv
      go_wp2_with fail
      go_ret
      exact ⟨by rw [Hvm.out]; rfl, rfl⟩
end B64
end Go.Proofs.Ytbkkngakbjpakaa

/- The law's set: the numbers below 64 that spans have, as bits. No conditions but those that stand in each lemma. -/
import Derived.Test.YteofmhdbmngfcaaSpAsks
import Derived.Test.YteofmhdbmngfcaaSpBits
import Derived.Laws.Bits64
namespace Go.Proofs.Yteofmhdbmngfcaa
open Go.RowKit

/-- A word of 64 bits as the program's number. -/
def qv (s : BitVec 64) : Int := (s.toNat : Int)
theorem qv_ofInt (s : BitVec 64) : BitVec.ofInt 64 (qv s) = s := by unfold qv; rw [BitVec.ofInt_natCast]; simp
theorem qv_lo (s : BitVec 64) : 0 ≤ qv s := Int.natCast_nonneg _
theorem qv_hi (s : BitVec 64) : qv s < 18446744073709551616 := by have := s.isLt; unfold qv; omega
theorem qv_inj {a b : BitVec 64} (h : qv a = qv b) : a = b := by rw [← qv_ofInt a, h, qv_ofInt]
theorem wrap_qv (s : BitVec 64) : IntKind.u64.wrap (s.toNat : Int) = qv s := by
  have := s.isLt
  rw [IntKind.wrap_u64]
  unfold qv
  omega
theorem shl_qv (k : Nat) : IntKind.u64.wrap (2 ^ k) = qv (1#64 <<< k) := by
  have e : ((2 : Int) ^ k) = ((2 ^ k : Nat) : Int) := by rw [Int.natCast_pow]; rfl
  rw [IntKind.wrap_u64, e]
  unfold qv
  rw [BitVec.toNat_shiftLeft, Nat.shiftLeft_eq]
  have : (1#64 : BitVec 64).toNat = 1 := rfl
  rw [this, Nat.one_mul]
  omega
theorem or_qv (a b : BitVec 64) : bits .or .u64 (qv a) (qv b) = qv (a ||| b) := by
  have e : bits .or .u64 (qv a) (qv b) = IntKind.u64.wrap ((BitVec.ofInt 64 (qv a) ||| BitVec.ofInt 64 (qv b)).toNat : Int) := rfl
  rw [e, wrap_qv, qv_ofInt, qv_ofInt]
theorem and_qv (a b : BitVec 64) : bits .and .u64 (qv a) (qv b) = qv (a &&& b) := by
  have e : bits .and .u64 (qv a) (qv b) = IntKind.u64.wrap ((BitVec.ofInt 64 (qv a) &&& BitVec.ofInt 64 (qv b)).toNat : Int) := rfl
  rw [e, wrap_qv, qv_ofInt, qv_ofInt]
theorem andNot_qv (a b : BitVec 64) : bits .andNot .u64 (qv a) (qv b) = qv (a &&& ~~~b) := by
  have e : bits .andNot .u64 (qv a) (qv b) = IntKind.u64.wrap ((BitVec.ofInt 64 (qv a) &&& ~~~(BitVec.ofInt 64 (qv b))).toNat : Int) := rfl
  rw [e, wrap_qv, qv_ofInt, qv_ofInt]
theorem shr_one_qv (a : BitVec 64) (k : Nat) : bits .and .u64 (qv a / 2 ^ k) 1 = if a.getLsbD k then 1 else 0 := by
  have e1 : qv a / 2 ^ k = qv (a >>> k) := by
    unfold qv
    rw [BitVec.toNat_ushiftRight, Nat.shiftRight_eq_div_pow]
    simp
  have e2 : (1 : Int) = qv 1#64 := rfl
  rw [e1, e2, and_qv]
  have e3 : (a >>> k) &&& 1#64 = if a.getLsbD k then 1#64 else 0#64 := by
    apply BitVec.eq_of_getLsbD_eq
    intro i hi
    rw [BitVec.getLsbD_and, BitVec.getLsbD_ushiftRight, BitVec.getLsbD_one]
    by_cases h0 : i = 0
    · subst h0
      cases h : a.getLsbD k <;> simp
      all_goals simpa using h
    · cases h : a.getLsbD k <;> simp [h0, BitVec.getLsbD_one]
  rw [e3]
  split <;> rfl
/-- At a round's head. -/
def SetAt (w : World) (p : Nat → Bool) (out i : Value) (wr : World) : Prop :=
  ∃ k : Nat, k ≤ 64 ∧ i = .int .i64 (k : Int) ∧ out = .int .u64 (qv (Spans.bitsV p k)) ∧ Below w.heap.size w wr
set_option maxRecDepth 100000 in
set_option maxHeartbeats 1000000 in
theorem set_any (A : Option Addr) (n c : Nat) (l : List Sp) (w : World) (hn : n = l.length) (hs : SpSrc w A l) (hl : n ≤ 100000) :
    Calls Try.prog 22 #[.slice A n c] w fun e w' => e = .returned (.int .u64 (qv (Spans.bitsV (Spans.oneAt l) 64))) ∧ Below w.heap.size w w' := by
  have Hn := Lib.hid hn
  have Hs := Lib.hid hs
  clear hn hs
  go_enter Try.func22, Try.ntmps22
  go_wp2_with fail
  go_loopw [3, 4] (fun out i wr => SetAt w (Spans.oneAt l) out i wr) (fun _ i _ => 64 - (intOf i).toNat)
  case atStart => exact ⟨0, by omega, rfl, rfl, Below.refl _ _⟩
  case round =>
    obtain ⟨k, hk, rfl, rfl, hb⟩ := hrel
    by_cases hlt : k < 64
    · obtain ⟨S, hS⟩ : ∃ S, Spans.bitsV (Spans.oneAt l) k = S := ⟨_, rfl⟩
      obtain ⟨t, ht⟩ : ∃ t, Spans.hasB l ((k : Int), (k : Int) + 1) = t := ⟨_, rfl⟩
      have HC : Calls Try.prog 12 #[.slice A n c, .agg #[.int .i64 (k : Int), .int .i64 ((k : Int) + 1)]] wr fun e w' => e = .returned (.bool (Spans.hasB l ((k : Int), (k : Int) + 1))) ∧ Below wr.heap.size wr w' := has_any A n c l (k : Int) ((k : Int) + 1) wr Hn.out (Hs.out.keep hb) hl
      rw [ht] at HC
      have HC2 := Lib.hid HC
      have HT := Lib.hid ht
      have HS := Lib.hid hS
      rw [hS]
      clear HC ht hS
      cases t
      · go_wp2_with fail
        refine HC2.out.mono ?_
        rintro e w1 ⟨rfl, hb1⟩
        have hb2 := hb.trans (hb1.mono hb.size)
        clear hb1 HC2
        go_wp2_with fail
        go_roundw
        case rel => exact ⟨k + 1, by omega, by go_num, by rw [Spans.bitsV, HS.out, if_neg (by rw [show Spans.oneAt l k = false from HT.out]; simp)], hb2⟩
        case measure => simp [intOf]; omega
      · go_wp2_with fail
        refine HC2.out.mono ?_
        rintro e w1 ⟨rfl, hb1⟩
        have hb2 := hb.trans (hb1.mono hb.size)
        clear hb1 HC2
        go_wp2_with fail
        go_roundw
        case rel => exact ⟨k + 1, by omega, by go_num, by rw [Spans.bitsV, HS.out, if_pos (show Spans.oneAt l k = true from HT.out), shl_qv, or_qv], hb2⟩
        case measure => simp [intOf]; omega
    · obtain rfl : k = 64 := by omega
      go_wp2_with fail
      go_ret
      exact ⟨rfl, hb⟩
end Go.Proofs.Yteofmhdbmngfcaa

/- The walk of HexLower: for any text that the form admits, it answers true, and writes nothing that was there. -/
import Derived.Test.YteapddoanggniaaLower
import Derived.BigQuiet
import Derived.Deep.QuietTactic
namespace Go.Proofs.Yteapddoanggniaa
open Go.RowKit

set_option maxHeartbeats 400000 in
theorem hexLower_long (s : ByteArray) (w : World) (hm : s.size ≤ 9223372036854775807) (hl : 2000 < s.size) :
    Calls Try.prog 4 #[.string s] w fun e w' => e = .returned (.bool true) ∧ Below w.heap.size w w' := by
  go_enter Try.func4, Try.ntmps4
  go_wp2_with fail
  go_ret
  exact ⟨rfl, Below.refl _ _⟩

theorem low_abc : strOfNums (lowW (numsOf ⟨#[97, 66, 99]⟩)) = ⟨#[97, 98, 99]⟩ := by decide
theorem below_drewN {B : Nat} {a w : World} (h : Below B a w) (n : Nat) : Below B a (w.drewN n) := ⟨h.os, h.tape, h.output, h.size, h.block⟩
/-- At a round's head. -/
def LawLowAt (w : World) (n : Nat) (i : Value) (wr : World) : Prop := ∃ k : Nat, k ≤ n ∧ i = .int .i64 k ∧ Below w.heap.size w wr

set_option maxRecDepth 100000 in
set_option maxHeartbeats 1000000 in
theorem hexLower_small (s : ByteArray) (w : World) (hl : s.size ≤ 2000) :
    Calls Try.prog 4 #[.string s] w fun e w' => e = .returned (.bool true) ∧ Below w.heap.size w w' := by
  obtain ⟨n, hn⟩ : ∃ n, s.size = n := ⟨_, rfl⟩
  have Hn := Lib.hid (show (numsOf s).length = n by rw [numsOf_length, hn])
  have Hx := Lib.hid (numsOf_bytes s)
  have HI := Lib.hid (fun (k : Nat) (hk : k < n) (w' : World) => run_index_str (P := Try.prog) w' 9 s (k : Int) k rfl Try.underlying9 (by rw [hn]; exact hk))
  obtain ⟨l, hle⟩ : ∃ l, strOfNums (lowW (numsOf s)) = l := ⟨_, rfl⟩
  have hls : l.size = n := by rw [← hle, nums_size, lowW_length, Hn.out]
  have Hln := Lib.hid (show numsOf l = lowW (numsOf s) by rw [← hle, numsOf_strOfNums _ (lowW_bytes _ (numsOf_bytes s))])
  have HJ := Lib.hid (fun (k : Nat) (hk : k < n) (w' : World) => run_index_str (P := Try.prog) w' 9 l (k : Int) k rfl Try.underlying9 (by rw [hls]; exact hk))
  have HG := Lib.hid (fun (k : Nat) (hk : k < n) => show (numsOf l).getD k 0 = lowI ((numsOf s).getD k 0) by rw [Hln.out, lowW_getD _ _ (by rw [Hn.out]; exact hk)])
  have C1 := Lib.hid (fun w' => lower_any s w' (by omega))
  rw [hle] at C1
  have C2 := Lib.hid (fun w' => lower_any l w' (by omega))
  rw [show strOfNums (lowW (numsOf l)) = l by rw [Hln.out, lowW_low, hle]] at C2
  have C3 := Lib.hid (fun w' => lower_any ⟨#[97, 66, 99]⟩ w' (by decide))
  rw [low_abc] at C3
  clear hle
  go_enter Try.func4, Try.ntmps4
  go_wp2_with fail
  refine (C1.out _).mono ?_
  rintro e w1 ⟨rfl, hb1⟩
  go_wp2_with fail
  refine (C2.out _).mono ?_
  rintro e w2 ⟨rfl, hb2⟩
  go_wp2_with fail
  refine (C3.out _).mono ?_
  rintro e w3 ⟨rfl, hb3⟩
  have hb : Below w.heap.size w w3 := (hb1.trans (hb2.mono hb1.size)).trans (hb3.mono (by have := hb1.size; have := hb2.size; omega))
  clear hb1 hb2 hb3
  go_wp2_with fail
  go_loopw [4] (fun i wr => LawLowAt w n i wr) (fun i _ => n - (intOf i).toNat)
  case atStart => exact ⟨0, Nat.zero_le _, rfl, hb⟩
  case round =>
    clear hb
    obtain ⟨k, hk, rfl, hb⟩ := hrel
    by_cases hlt : k < n
    · have i0 := HI.out k hlt
      have i1 := HJ.out k hlt
      have u0 := Hx.out.at_ k
      rw [HG.out k hlt] at i1
      generalize (numsOf s).getD k 0 = u at *
      have v0 := lowI_byte u u0
      have CU := Lib.hid (fun w' => kind_any u w' u0)
      have CV := Lib.hid (fun w' => kind_any (lowI u) w' v0)
      have hv := kindI_low u
      generalize hkv : kindI (lowI u) = d at *
      have Hkv := Lib.hid hkv
      clear hkv
      by_cases h4 : kindI u = 4
      · obtain ⟨e4, u4, u5⟩ := lowI_four h4
        rw [h4] at CU
        have hne : (lowI u != u) = true := bne_iff_ne.2 (by omega)
        clear e4 h4 Hkv
        generalize lowI u = v at *
        go_wp2_with fail
        go_quiet ((go_at_call 11; first | with_reducible exact Calls.quiet_of_same (CU.out _) | with_reducible exact Calls.quiet_of_same (CV.out _)))
        go_wp2_with fail
        go_roundw
        case rel => exact ⟨k + 1, hlt, by go_num, below_drewN hb _⟩
        case measure => simp [intOf]; omega
      · have e4 := lowI_other h4
        rw [e4] at i1 CV
        generalize hkd : kindI u = d2 at *
        have Hkd := Lib.hid hkd
        clear hkd e4
        go_wp2_with fail
        go_quiet ((go_at_call 11; first | with_reducible exact Calls.quiet_of_same (CU.out _) | with_reducible exact Calls.quiet_of_same (CV.out _)))
        go_wp2_with fail
        go_roundw
        case rel => exact ⟨k + 1, hlt, by go_num, below_drewN hb _⟩
        case measure => simp [intOf]; omega
    · have hkn : k = n := by omega
      subst hkn
      go_wp2_with fail
      go_ret
      exact ⟨rfl, hb⟩
end Go.Proofs.Yteapddoanggniaa

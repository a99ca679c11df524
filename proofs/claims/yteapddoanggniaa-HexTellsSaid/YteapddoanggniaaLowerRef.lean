/- The document's Lower, for any text (at most 400000 bytes). -/
import Derived.Test.YteapddoanggniaaLower
namespace Go.Proofs.Yteapddoanggniaa
open Go.RowKit

/-- At a round's head: k bytes are small. -/
def RefLowAt (w : World) (xs : List Int) (v i : Value) (wr : World) : Prop :=
  ∃ k : Nat, k ≤ xs.length ∧ i = .int .i64 k ∧ ∃ A m c, v = .slice A m c ∧ m = (lowW (xs.take k)).length ∧ Own wr w.heap.size A c (lowW (xs.take k)) ∧ Below w.heap.size w wr

set_option maxRecDepth 100000 in
set_option maxHeartbeats 1000000 in
theorem lowerRef_any (s : ByteArray) (w : World) (hl : s.size ≤ 400000) :
    Calls Try.prog 10 #[.string s] w fun e w' => e = .returned (.string (strOfNums (lowW (numsOf s)))) ∧ Below w.heap.size w w' := by
  obtain ⟨n, hn⟩ : ∃ n, s.size = n := ⟨_, rfl⟩
  have Hn := Lib.hid (show (numsOf s).length = n by rw [numsOf_length, hn])
  have Hx := Lib.hid (numsOf_bytes s)
  have HI := Lib.hid (fun (k : Nat) (hk : k < n) (w' : World) => run_index_str (P := Try.prog) w' 9 s (k : Int) k rfl Try.underlying9 (by rw [hn]; exact hk))
  go_enter Try.func10, Try.ntmps10
  go_wp2_with fail
  generalize eX : numsOf s = xs at *
  have EX := Lib.hid eX
  clear eX
  go_loopw [3, 4] (fun v i wr => RefLowAt w xs v i wr) (fun _ i _ => n - (intOf i).toNat)
  case atStart => exact ⟨0, Nat.zero_le _, rfl, none, 0, 0, rfl, rfl, own_nil _ _, Below.refl _ _⟩
  case round =>
    obtain ⟨k, hk, rfl, A1, m, c1, rfl, hm, ho, hb⟩ := hrel
    by_cases hlt : k < n
    · have hkx : k < xs.length := by rw [Hn.out]; exact hlt
      have Hm := Lib.hid hm
      have Ho := Lib.hid ho
      have HL := Lib.hid (show (lowW (xs.take k)).length = k by rw [lowW_length, List.length_take]; omega)
      have hmk : m = k := by rw [Hm.out, HL.out]
      clear hm ho
      subst hmk
      have HS := Lib.hid (lowW_next xs m hkx)
      have hi := HI.out m hlt
      have u0 := Hx.out.at_ m
      have C0 := Lib.hid (fun w' => kindRef_any (xs.getD m 0) w' u0)
      have H4 := Lib.hid (fun h => lowI_four (c := xs.getD m 0) h)
      have H5 := Lib.hid (fun h => lowI_other (c := xs.getD m 0) h)
      generalize xs.getD m 0 = u at *
      generalize hkd : kindI u = d at *
      have Hkd := Lib.hid hkd
      clear hkd
      by_cases h4 : d = 4
      · subst h4
        obtain ⟨e4, u4, u5⟩ := H4.out rfl
        have E4 := Lib.hid e4
        clear e4
        go_wp2_with fail
        refine (C0.out _).mono ?_
        rintro e w1 ⟨rfl, rfl⟩
        go_wp2_with (at_builtin; refine wpList_append_src rfl _ _ rfl w.heap.size A1 m c1 (lowW (xs.take m)) rfl HL.out.symm (Ho.out.keep ((Below.refl _ _).alloc (Nat.le_refl _) _)) _ 1 1 [u + 32] rfl rfl (src_new _ _) (by omega) (by have := hb.size; simp; omega) ?_; rintro v w3 ⟨A3, n3, c3, rfl, hn3, ho3, hb3⟩; have Hn3 := Lib.hid hn3; clear hn3)
        go_roundw
        case rel => exact ⟨m + 1, hkx, by go_num, A3, n3, c3, rfl, by rw [HS.out, E4.out]; exact Hn3.out, by rw [HS.out, E4.out]; exact ho3, (hb.alloc hb.size _).trans hb3⟩
        case measure => simp [intOf]; omega
      · have E4 := Lib.hid (H5.out h4)
        go_wp2_with fail
        refine (C0.out _).mono ?_
        rintro e w1 ⟨rfl, rfl⟩
        go_wp2_with (at_builtin; refine wpList_append_src rfl _ _ rfl w.heap.size A1 m c1 (lowW (xs.take m)) rfl HL.out.symm (Ho.out.keep ((Below.refl _ _).alloc (Nat.le_refl _) _)) _ 1 1 [u] rfl rfl (src_new _ _) (by omega) (by have := hb.size; simp; omega) ?_; rintro v w3 ⟨A3, n3, c3, rfl, hn3, ho3, hb3⟩; have Hn3 := Lib.hid hn3; clear hn3)
        go_roundw
        case rel => exact ⟨m + 1, hkx, by go_num, A3, n3, c3, rfl, by rw [HS.out, E4.out]; exact Hn3.out, by rw [HS.out, E4.out]; exact ho3, (hb.alloc hb.size _).trans hb3⟩
        case measure => simp [intOf]; omega
    · have hkn : k = n := by have := Hn.out; omega
      subst hkn
      rw [show xs.take k = xs by rw [List.take_of_length_le (by rw [Hn.out]; exact Nat.le_refl _)]] at ho hm
      have ht := fun c => run_text wr A1 m c (lowW xs) hm ho.src
      clear hm
      go_wp2_with fail
      go_ret
      exact ⟨by rw [EX.out]; rfl, hb⟩
end Go.Proofs.Yteapddoanggniaa

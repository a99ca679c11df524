/- The document's ReadHex, for any text (at most 1000000 bytes). -/
import Derived.Test.YteapddoanggniaaReadHex
namespace Go.Proofs.Yteapddoanggniaa
open Go.RowKit

/-- At a round's head: k pairs are read. -/
def RefReadAt (w : World) (xs : List Int) (h : Nat) (v i : Value) (wr : World) : Prop :=
  ∃ k : Nat, k ≤ h ∧ i = .int .i64 (2 * (k : Int)) ∧ Good xs k ∧ ∃ A m c, v = .slice A m c ∧ m = (pairsW xs k).length ∧ Own wr w.heap.size A c (pairsW xs k) ∧ Below w.heap.size w wr

set_option maxHeartbeats 400000 in
theorem refReadHex_odd (s : ByteArray) (h : Nat) (w : World) (hs : s.size = 2 * h + 1) (hl : s.size ≤ 1000000) :
    Calls Try.prog 6 #[.string s] w (ReadsTo (numsOf s) w) := by
  have HR := Lib.hid (show ¬ Right (numsOf s) from fun hr => by have := hr.1; rw [numsOf_length] at this; omega)
  go_enter Try.func6, Try.ntmps6
  go_wp2_with fail
  go_ret2
  exact reads_none HR.out (Below.refl _ _)

set_option maxRecDepth 100000 in
set_option maxHeartbeats 1000000 in
theorem refReadHex_even (s : ByteArray) (h : Nat) (w : World) (hs : s.size = 2 * h) (hl : s.size ≤ 1000000) :
    Calls Try.prog 6 #[.string s] w (ReadsTo (numsOf s) w) := by
  have Hxl := Lib.hid (show (numsOf s).length = 2 * h by rw [numsOf_length, hs])
  have Hx := Lib.hid (numsOf_bytes s)
  have Hs := Lib.hid hs
  go_enter Try.func6, Try.ntmps6
  go_wp2_with fail
  go_loopw [4, 5] (fun v i wr => RefReadAt w (numsOf s) h v i wr) (fun _ i _ => 2 * h - (intOf i).toNat)
  case atStart => exact ⟨0, Nat.zero_le _, rfl, Good.zero _, none, 0, 0, rfl, rfl, own_nil _ _, Below.refl _ _⟩
  case round =>
    obtain ⟨k, hk, rfl, hg, A1, m, c1, rfl, hm, ho, hb⟩ := hrel
    have Hm := Lib.hid hm
    have HL := Lib.hid (pairsW_length (numsOf s) k)
    have hmk : m = k := by rw [Hm.out, HL.out]
    clear hm
    subst hmk
    by_cases hlt : m < h
    · have i0 := fun w' => run_index_str (P := Try.prog) w' 9 s (2 * (m : Int)) (2 * m) (by omega) Try.underlying9 (by rw [Hs.out]; omega)
      have i1 := fun w' => run_index_str (P := Try.prog) w' 9 s (2 * (m : Int) + 1) (2 * m + 1) (by omega) Try.underlying9 (by rw [Hs.out]; omega)
      have HN := Lib.hid (not_right (xs := numsOf s) (k := m) (by rw [Hxl.out]; omega))
      have HG := Lib.hid (fun (a : 0 ≤ valI ((numsOf s).getD (2 * m) 0)) (b : 0 ≤ valI ((numsOf s).getD (2 * m + 1) 0)) => hg.next a b)
      have HP := Lib.hid (pairsW_next (numsOf s) m)
      have HA := Lib.hid (show pairAt (numsOf s) m = 16 * valI ((numsOf s).getD (2 * m) 0) + valI ((numsOf s).getD (2 * m + 1) 0) from rfl)
      have u0 := Hx.out.at_ (2 * m)
      have u1 := Hx.out.at_ (2 * m + 1)
      generalize (numsOf s).getD (2 * m) 0 = u at *
      generalize (numsOf s).getD (2 * m + 1) 0 = l at *
      have C0 := Lib.hid (fun w' => value_any u w' u0)
      have C1 := Lib.hid (fun w' => value_any l w' u1)
      have v0 := valI_le u
      have v1 := valI_le l
      have Ho := Lib.hid ho
      clear hg ho u0 u1
      generalize valI u = a at *
      generalize valI l = b at *
      by_cases hp : 0 ≤ a
      · by_cases hq : 0 ≤ b
        · go_wp2_with fail
          refine (C0.out _).mono ?_
          rintro e w1 ⟨rfl, rfl⟩
          go_wp2_with fail
          refine (C1.out _).mono ?_
          rintro e w1 ⟨rfl, rfl⟩
          go_wp2_with (at_builtin; refine wpList_append_src rfl _ _ rfl w.heap.size A1 m c1 (pairsW (numsOf s) m) rfl HL.out.symm (Ho.out.keep ((Below.refl _ _).alloc (Nat.le_refl _) _)) _ 1 1 [16 * a + b] rfl rfl (src_new _ _) (by omega) (by have := hb.size; simp; omega) ?_; rintro v w3 ⟨A3, n3, c3, rfl, hn3, ho3, hb3⟩; have Hn3 := Lib.hid hn3; clear hn3)
          go_roundw
          case rel => exact ⟨m + 1, by omega, by congr 1, HG.out hp hq, A3, n3, c3, rfl, by rw [HP.out, HA.out]; exact Hn3.out, by rw [HP.out, HA.out]; exact ho3, (hb.alloc hb.size _).trans hb3⟩
          case measure => simp [intOf]; omega
        · go_wp2_with fail
          refine (C0.out _).mono ?_
          rintro e w1 ⟨rfl, rfl⟩
          go_wp2_with fail
          refine (C1.out _).mono ?_
          rintro e w1 ⟨rfl, rfl⟩
          go_wp2_with fail
          go_ret2
          exact reads_none (HN.out fun hh => by omega) hb
      · go_wp2_with fail
        refine (C0.out _).mono ?_
        rintro e w1 ⟨rfl, rfl⟩
        go_wp2_with fail
        refine (C1.out _).mono ?_
        rintro e w1 ⟨rfl, rfl⟩
        go_wp2_with fail
        go_ret2
        exact reads_none (HN.out fun hh => by omega) hb
    · have hkn : m = h := by omega
      subst hkn
      have HR := Lib.hid (show Right (numsOf s) from ⟨by rw [Hxl.out]; omega, by rw [Hxl.out, show 2 * m / 2 = m by omega]; exact hg⟩)
      have HL2 := Lib.hid (show (numsOf s).length / 2 = m by rw [Hxl.out]; omega)
      clear hg
      go_wp2_with fail
      go_ret2
      exact ⟨A1, m, c1, pairsW (numsOf s) m, true, rfl, HL.out.symm, by have := ho.cap.1; rw [HL.out] at this; exact this, ho.src, hb, .inl ⟨HR.out, rfl, by rw [HL2.out]⟩⟩
theorem readHex_any (s : ByteArray) (w : World) (hl : s.size ≤ 1000000) : Calls Try.prog 5 #[.string s] w (ReadsTo (numsOf s) w) := by
  rcases Nat.mod_two_eq_zero_or_one s.size with h | h
  · exact readHex_even s (s.size / 2) w (by omega) hl
  · exact readHex_odd s (s.size / 2) w (by omega) hl
theorem refReadHex_any (s : ByteArray) (w : World) (hl : s.size ≤ 1000000) : Calls Try.prog 6 #[.string s] w (ReadsTo (numsOf s) w) := by
  rcases Nat.mod_two_eq_zero_or_one s.size with h | h
  · exact refReadHex_even s (s.size / 2) w (by omega) hl
  · exact refReadHex_odd s (s.size / 2) w (by omega) hl
end Go.Proofs.Yteapddoanggniaa

/- The law's own: a list of spans as the document's, of the call's own. No conditions but those that stand in each lemma. -/
import Derived.Test.YteofmhdbmngfcaaSpRefAdd
namespace Go.Proofs.Yteofmhdbmngfcaa
open Go.RowKit

/-- At a round's head: the first k are copied. -/
def CopyAt (w : World) (l : List Sp) (out i : Value) (wr : World) : Prop :=
  ∃ (k : Nat) (A2 : Option Addr) (n2 c2 : Nat), k ≤ l.length ∧ i = .int .i64 (k : Int) ∧ out = .slice A2 n2 c2 ∧ n2 = (l.take k).length ∧ SpOwn wr w.heap.size 27 A2 c2 (l.take k) ∧ Below w.heap.size w wr
theorem take_next (l : List Sp) (k : Nat) (h : k < l.length) (x y : Int) (hx : (l.getD k spZ).1 = x) (hy : (l.getD k spZ).2 = y) : l.take (k + 1) = l.take k ++ [(x, y)] := by
  rw [List.getD_eq_getElem?_getD, List.getElem?_eq_getElem h] at hx hy
  rw [List.take_succ_eq_append_getElem h, show l[k] = (x, y) from Prod.ext hx hy]
set_option maxHeartbeats 2000000 in
theorem copy_any (A : Option Addr) (n c : Nat) (l : List Sp) (w : World) (hn : n = l.length) (hs : SpSrc w A l) (hl : n ≤ 200000) :
    Calls Try.prog 6 #[.slice A n c] w (GivesS w 27 l) := by
  have Hn := Lib.hid hn
  have Hs := Lib.hid hs
  clear hn hs
  go_enter Try.func6, Try.ntmps6
  go_wp2_with fail
  go_loopw [3, 4] (fun out i wr => CopyAt w l out i wr) (fun _ i _ => n - (intOf i).toNat)
  case atStart => exact ⟨0, none, 0, 0, Nat.zero_le _, rfl, rfl, rfl, spown_nil _ _ _, Below.refl _ _⟩
  case round =>
    obtain ⟨k, A2, n2, c2, hk, rfl, rfl, hn2, ho2, hb⟩ := hrel
    have HN2 := Lib.hid hn2
    have HO2 := Lib.hid ho2
    by_cases hlt : k < l.length
    · obtain ⟨b, o, rfl, hbl, hcell⟩ := Hs.out (by omega)
      have c0 := (hb.cell (p := ⟨b, o + k * 2, none⟩) hbl).trans (hcell k hlt).1
      have c1 := (hb.cell (p := ⟨b, o + k * 2 + 1, none⟩) hbl).trans (hcell k hlt).2
      have hkn : k < n := by have := Hn.out; omega
      have hle : n2 ≤ k := by rw [hn2, List.length_take]; omega
      obtain ⟨x, hx⟩ : ∃ x, (l.getD k spZ).1 = x := ⟨_, rfl⟩
      obtain ⟨y, hy⟩ : ∃ y, (l.getD k spZ).2 = y := ⟨_, rfl⟩
      have HX := Lib.hid (take_next l k hlt x y hx hy)
      rw [hx] at c0
      rw [hy] at c1
      have hsz := hb.size
      clear hcell hx hy hn2 ho2
      go_wp2_with (at_builtin; refine wpList_append_sp Try.rspans rfl _ _ rfl w.heap.size A2 n2 c2 (l.take k) rfl HN2.out (HO2.out.keep ((Below.refl _ _).alloc (Nat.le_refl _) _)) _ _ _ [(x, y)] rfl rfl (spsrc_one _ _ rfl x y _) (by omega) (by simp; omega) ?_; rintro v w4 ⟨A4, n4, c4, rfl, hn4, ho4, hb4⟩; have HN4 := Lib.hid hn4; have HO4 := Lib.hid ho4; clear hn4 ho4)
      have hb5 := (hb.alloc hsz (.cells #[.int .i64 x, .int .i64 y] 27)).trans hb4
      go_roundw
      case rel => exact ⟨k + 1, A4, n4, c4, by omega, by go_num, rfl, by rw [HX.out]; exact HN4.out, by rw [HX.out]; exact HO4.out, hb5⟩
      case measure => simp [intOf]; omega
    · obtain rfl : k = n := by have := Hn.out; omega
      have HT := Lib.hid (show l.take k = l from List.take_of_length_le (by rw [← Hn.out]; exact Nat.le_refl _))
      clear hn2 ho2
      go_wp2_with fail
      go_ret
      exact ⟨_, rfl, A2, n2, c2, rfl, by rw [← HT.out]; exact HN2.out, by rw [← HT.out]; exact HO2.out, hb⟩
end Go.Proofs.Yteofmhdbmngfcaa

/- ReadDecimal, the program's and the document's, for any text (at most 1000000 bytes): the number, or none; nothing that was there is written. -/
import Derived.Test.YtfbgcjpakahocaaDoorDecNums
import Derived.Test.YtfbgcjpakahocaaDoorDigit
import Derived.Test.YtfbgcjpakahocaaDoorRow
namespace Go.Proofs.YtfbgcjpakahocaaDoor
open Go.RowKit

theorem look10_ok {c : Int} (h : kindI c = 1) : look10 c = .tuple #[.int .i64 (c - 48), .bool true] := by
  unfold look10
  rw [if_pos h, decide_eq_true h]
theorem look10_bad {c : Int} (h : kindI c ≠ 1) : look10 c = .tuple #[.int .i64 0, .bool false] := by
  unfold look10
  rw [if_neg h, decide_eq_false h]
theorem val_one {c : Int} (h : kindI c = 1) : valI c = c - 48 := by unfold kindI at h; unfold valI; omega
theorem loop_length (s : ByteArray) : ∀ (k i : Nat) (r : List UInt8), s.size - i = k → (ByteArray.toList.loop s i r).length = r.length + k
  | 0, i, r, h => by
    unfold ByteArray.toList.loop
    rw [if_neg (by omega), List.length_reverse]
    rfl
  | k + 1, i, r, h => by
    unfold ByteArray.toList.loop
    rw [if_pos (by omega), loop_length s k (i + 1) _ (by omega), List.length_cons]
    omega
theorem toList_some (s : ByteArray) (h : 0 < s.size) : ¬ s.toList = [] := fun e => by
  have : s.toList.length = 0 + s.size := loop_length s s.size 0 [] (by omega)
  rw [e] at this
  simp at this
  omega
theorem isEmpty_some (s : ByteArray) (h : 0 < s.size) : s.toList.isEmpty = false := by
  cases e : s.toList with
  | nil => exact absurd e (toList_some s h)
  | cons _ _ => rfl

/-- At a round's head: k digits are read. -/
def DecAt (w : World) (xs : List Int) (v i : Value) (wr : World) : Prop :=
  ∃ k : Nat, k ≤ xs.length ∧ i = .int .i64 k ∧ v = .int .i64 (numW (xs.take k)) ∧ AllTen (xs.take k) ∧ Row wr w.heap.size 3 #[.int .i64 10] ∧ Below w.heap.size w wr

set_option maxHeartbeats 400000 in
theorem readDec_none (w : World) : Calls Tryd.prog 48 #[.string ⟨#[]⟩] w fun e w' => TenTo (numsOf ⟨#[]⟩) e ∧ Below w.heap.size w w' := by
  have HR := Lib.hid (show ¬ TenRight (numsOf ⟨#[]⟩) from fun h => absurd h.1 (by decide))
  go_enter Tryd.func48, Tryd.ntmps48
  go_wp2_with fail
  go_ret2
  exact ⟨ten_none HR.out, Below.refl _ _⟩
set_option maxHeartbeats 400000 in
theorem readDec_long (s : ByteArray) (w : World) (h : 18 < s.size) (hl : s.size ≤ 1000000) : Calls Tryd.prog 48 #[.string s] w fun e w' => TenTo (numsOf s) e ∧ Below w.heap.size w w' := by
  have HR := Lib.hid (show ¬ TenRight (numsOf s) from fun hr => by have := hr.2.1; rw [numsOf_length] at this; omega)
  have he := toList_some s (by omega)
  have he2 := isEmpty_some s (by omega)
  go_enter Tryd.func48, Tryd.ntmps48
  go_wp2_with fail
  go_ret2
  exact ⟨ten_none HR.out, Below.refl _ _⟩
set_option maxRecDepth 100000 in
set_option maxHeartbeats 1000000 in
theorem readDec_some (s : ByteArray) (n : Nat) (w : World) (hn : s.size = n) (h0 : 0 < n) (h : n ≤ 18) : Calls Tryd.prog 48 #[.string s] w fun e w' => TenTo (numsOf s) e ∧ Below w.heap.size w w' := by
  have Hn := Lib.hid (show (numsOf s).length = n by rw [numsOf_length, hn])
  have Hx := Lib.hid (numsOf_bytes s)
  have HI := Lib.hid (fun (k : Nat) (hk : k < n) (w' : World) => run_index_str (P := Tryd.prog) w' 9 s (k : Int) k rfl Tryd.underlying9 (by rw [hn]; exact hk))
  have he := toList_some s (by omega)
  have he2 := isEmpty_some s (by omega)
  have D := Lib.hid (fun w' => digitsOf_any 10 w')
  generalize eX : numsOf s = xs at *
  go_enter Tryd.func48, Tryd.ntmps48
  go_wp2_with fail
  refine (D.out _).mono ?_
  rintro e w1 ⟨rfl, rfl⟩
  go_wp2_with fail
  go_loopw [5, 19] (fun v i wr => DecAt w xs v i wr) (fun _ i _ => n - (intOf i).toNat)
  case atStart => exact ⟨0, Nat.zero_le _, rfl, rfl, (fun c hc => absurd hc (by simp)), Row.new _ _ _, (Below.refl _ _).alloc (Nat.le_refl _) _⟩
  case round =>
    obtain ⟨k, hk, rfl, rfl, ha, hc, hb⟩ := hrel
    have Ha := Lib.hid ha
    clear ha
    by_cases hlt : k < n
    · have hkx : k < xs.length := by rw [Hn.out]; exact hlt
      have hi := HI.out k hlt
      have u0 := Hx.out.at_ k
      have cc : wr.cell? ⟨w.heap.size, 0, none⟩ = some (.int .i64 10) := hc.cell rfl
      have HB := Lib.hid (fun (hr : TenRight xs) => tenRight_take hr k hkx)
      have HT := Lib.hid (fun (h1 : kindI (xs.getD k 0) = 1) => ten_round Ha.out hkx (by rw [Hn.out]; exact h) h1)
      generalize xs.getD k 0 = u at *
      by_cases h1 : kindI u = 1
      · obtain ⟨t1, t2, t3, t4⟩ := HT.out h1
        have T1 := Lib.hid t1
        have T2 := Lib.hid t2
        have u1 := (kindI_one u).1 h1
        have HL := Lib.hid (look10_ok h1)
        clear t1 t2 h1 HT HB Ha
        generalize numW (xs.take k) = a at *
        go_wp2_with fail
        refine (look10_any w.heap.size u _ u0 cc).mono ?_
        rintro e w1 ⟨rfl, rfl⟩
        rw [HL.out]
        go_wp2_with fail
        go_roundw
        case rel => exact ⟨k + 1, hkx, by go_num, by rw [T2.out], T1.out, hc, hb⟩
        case measure => simp [intOf]; omega
      · have HL := Lib.hid (look10_bad h1)
        have HN := Lib.hid (show ¬ TenRight xs from fun hr => h1 (HB.out hr))
        clear h1 HT HB Ha
        generalize numW (xs.take k) = a at *
        go_wp2_with fail
        refine (look10_any w.heap.size u _ u0 cc).mono ?_
        rintro e w1 ⟨rfl, rfl⟩
        rw [HL.out]
        go_wp2_with fail
        go_ret2
        exact ⟨ten_none HN.out, hb⟩
    · have hkn : k = n := by have := Hn.out; omega
      subst hkn
      have HT : Hid (xs.take k = xs) := Lib.hid (by rw [List.take_of_length_le (by rw [Hn.out]; exact Nat.le_refl _)])
      have HG := Lib.hid (show TenRight xs from ⟨by rw [Hn.out]; exact h0, by rw [Hn.out]; exact h, by rw [← HT.out]; exact Ha.out⟩)
      rw [HT.out]
      clear HT Ha
      go_wp2_with fail
      go_ret2
      exact ⟨⟨numW xs, true, rfl, .inl ⟨HG.out, rfl, rfl⟩⟩, hb⟩
theorem readDec_any (s : ByteArray) (w : World) (hl : s.size ≤ 1000000) : Calls Tryd.prog 48 #[.string s] w fun e w' => TenTo (numsOf s) e ∧ Below w.heap.size w w' := by
  by_cases h0 : s.size = 0
  · have : s = ⟨#[]⟩ := by
      apply ByteArray.ext
      exact Array.size_eq_zero_iff.1 h0
    subst this
    exact readDec_none w
  · by_cases h : s.size ≤ 18
    · exact readDec_some s s.size w rfl (by omega) h
    · exact readDec_long s w (by omega) hl

end Go.Proofs.YtfbgcjpakahocaaDoor

/- Next, for any text (at most 1000000 bytes): the character that it begins with, and its bytes' number; nothing that was there is written. Conditions: the tables lie where they were laid. -/
import Derived.Test.YthifoodhndjmdaaDoorUtfOn
import Derived.RegionTactic
import Derived.Laws.BitsLemmas
import Derived.IntWalk
namespace Go.Proofs.YthifoodhndjmdaaDoor
open Go.RowKit
namespace Utf

theorem loop_length (s : ByteArray) : ∀ (k i : Nat) (r : List UInt8), s.size - i = k → (ByteArray.toList.loop s i r).length = r.length + k
  | 0, i, r, h => by
    unfold ByteArray.toList.loop
    rw [if_neg (by omega), List.length_reverse]
    rfl
  | k + 1, i, r, h => by
    unfold ByteArray.toList.loop
    rw [if_pos (by omega), loop_length s k (i + 1) _ (by omega), List.length_cons]
    omega
theorem toList_some (s : ByteArray) (h : 0 < s.size) : ¬ s.toList = [] := fun e => by
  have : s.toList.length = 0 + s.size := loop_length s s.size 0 [] (by omega)
  rw [e] at this
  simp at this
  omega
theorem isEmpty_some (s : ByteArray) (h : 0 < s.size) : s.toList.isEmpty = false := by
  cases e : s.toList with
  | nil => exact absurd e (toList_some s h)
  | cons _ _ => rfl
theorem empty_of (s : ByteArray) (h : s.size = 0) : s = ⟨#[]⟩ := by
  cases s with
  | mk d =>
    have : d = #[] := Array.eq_empty_of_size_eq_zero h
    rw [this]
theorem numsOf_empty : numsOf ⟨#[]⟩ = [] := rfl

theorem goes_zero (xs : List Int) : goesB xs 0 = true := rfl
theorem goes_succ (xs : List Int) (k : Nat) : goesB xs (k + 1) = true ↔ goesB xs k = true ∧ (k + 1 < xs.length ∧ 128 ≤ xs.getD (k + 1) 0 ∧ xs.getD (k + 1) 0 < 192) := by
  rw [goes_iff, goes_iff]
  constructor
  · intro h
    exact ⟨fun i hi => h i (by omega), h k (by omega)⟩
  · rintro ⟨h, g⟩ i hi
    rcases Nat.lt_succ_iff_lt_or_eq.1 hi with h' | rfl
    · exact h i h'
    · exact g
theorem goes_down (xs : List Int) {k m : Nat} (h : goesB xs m = true) (hk : k ≤ m) : goesB xs k = true := by
  rw [goes_iff] at h ⊢
  exact fun i hi => h i (by omega)
theorem head_le (x : Int) (h : 0 ≤ x ∧ x < 256) : 0 ≤ x - markI (moreI x) ∧ x - markI (moreI x) ≤ 191 := by
  rcases more_cases x with ⟨e, f⟩ | ⟨e, f⟩ | ⟨e, f⟩ | ⟨e, f⟩ <;> rw [e] <;> simp only [markI] <;> omega
theorem val_le (xs : List Int) (hx : IsBytes xs) : ∀ k, goesB xs k = true → 0 ≤ valK xs k ∧ valK xs k + 1 ≤ 192 * 64 ^ k
  | 0, _ => by
    have := head_le (xs.getD 0 0) (hx.at_ 0)
    simp only [valK]
    omega
  | k + 1, h => by
    obtain ⟨h1, h2, h3, h4⟩ := (goes_succ xs k).1 h
    obtain ⟨i1, i2⟩ := val_le xs hx k h1
    have e : (64 : Int) ^ (k + 1) = 64 * 64 ^ k := by rw [Int.pow_succ, Int.mul_comm]
    rw [e]
    simp only [valK]
    omega
theorem val_three (xs : List Int) (hx : IsBytes xs) (k : Nat) (hk : k ≤ 3) (h : goesB xs k = true) : 0 ≤ valK xs k ∧ valK xs k < 50331648 ∧ (k < 3 → valK xs k < 786432) := by
  obtain ⟨h1, h2⟩ := val_le xs hx k h
  rcases (show k = 0 ∨ k = 1 ∨ k = 2 ∨ k = 3 by omega) with rfl | rfl | rfl | rfl <;> omega
theorem val_next (xs : List Int) (k : Nat) (h : 128 ≤ xs.getD (k + 1) 0 ∧ xs.getD (k + 1) 0 < 192) : valK xs (k + 1) = valK xs k * 64 + (xs.getD (k + 1) 0 - 128) := by
  simp only [valK]
  omega

/-- At a round's head: k bytes behind the first are looked at. -/
def NxAt (w : World) (s : ByteArray) (m : Nat) (i v : Value) (wr : World) : Prop :=
  ∃ k : Nat, k ≤ m ∧ i = .int .i64 (k : Int) ∧ v = .int .i32 (valK (numsOf s) k) ∧ goesB (numsOf s) k = true ∧ On wr w.heap.size s (k : Int) ∧ Below w.heap.size w wr
theorem next_empty (w : World) : Calls Tryd.prog 7 #[.string ⟨#[]⟩] w fun e w' => e = .returned (.tuple #[.int .i32 0, .int .i64 0]) ∧ Below w.heap.size w w' := by
  go_enter Tryd.func7, Tryd.ntmps7
  go_wp2_with fail
  go_ret2
  exact ⟨rfl, Below.refl _ _⟩
set_option maxRecDepth 100000 in
set_option maxHeartbeats 2000000 in
theorem next_any (s : ByteArray) (w : World) (ht : Tab w) (hl : s.size ≤ 1000000) :
    Calls Tryd.prog 7 #[.string s] w fun e w' => e = .returned (.tuple #[.int .i32 (nextI (numsOf s)).1, .int .i64 ((nextI (numsOf s)).2 : Int)]) ∧ Below w.heap.size w w' := by
  by_cases h0 : s.size = 0
  · obtain rfl := empty_of s h0
    rw [numsOf_empty, next_nil]
    exact next_empty w
  have he := toList_some s (by omega)
  have he2 := isEmpty_some s (by omega)
  have HL := Lib.hid (numsOf_length s)
  have HX := Lib.hid (numsOf_bytes s)
  have HN := Lib.hid (show numsOf s ≠ [] by intro e; have := congrArg List.length e; rw [numsOf_length, List.length_nil] at this; exact h0 this)
  have i0 := fun w' => run_index_str (P := Tryd.prog) w' 9 s 0 0 rfl Tryd.underlying9 (by omega)
  have Ht := Lib.hid ht
  have hx0 := (numsOf_bytes s).at_ 0
  have HV := Lib.hid (show valK (numsOf s) 0 = (numsOf s).getD 0 0 - markI (moreI ((numsOf s).getD 0 0)) from rfl)
  have HD := head_le _ hx0
  have HM := Lib.hid (show ∃ m, moreI ((numsOf s).getD 0 0) = m ∧ m ≤ 3 from ⟨_, rfl, more_le _⟩)
  have HB := Lib.hid (fun x w' (h : Tab w') => begun_any x w' h)
  obtain ⟨x, ex⟩ : ∃ x, (numsOf s).getD 0 0 = x := ⟨_, rfl⟩
  rw [ex] at i0 hx0 HV HD HM
  have EX := Lib.hid ex
  clear ht ex
  obtain ⟨m, em, hm⟩ := HM.out
  have EM := Lib.hid em
  rw [em] at HV HD
  have cm := Ht.out.2.2 m (by omega)
  obtain ⟨v, ev⟩ : ∃ v, x - markI m = v := ⟨_, rfl⟩
  rw [ev] at HV HD
  have lm := mark_le m
  have s0 : IntKind.i64.wrap ((m : Int) + 1 - 1) = (m : Int) := by rw [IntWalk.i64_in _ (by omega)]; omega
  have s1 : IntKind.u8.wrap (x - markI m) = v := by rw [ev, IntKind.wrap_u8']; omega
  have s2 : IntKind.i32.wrap v = v := by rw [IntKind.wrap_i32]; omega
  generalize markI m = l at *
  have EV := Lib.hid ev
  clear em ev HM
  go_enter Tryd.func7, Tryd.ntmps7
  go_wp2_with fail
  refine (HB.out x _ Ht.out).mono ?_
  rintro e w1 ⟨rfl, rfl⟩
  rw [EM.out]
  go_wp2_with fail
  go_region
  go_wp2_with fail
  refine (goesOn_any s _).mono ?_
  rintro e w2 ⟨rfl, ho, hb⟩
  have b2 : Below w1.heap.size w1 w2 := (Below.refl _ _).drew.trans hb
  have HO : Hid (On w2 w1.heap.size s 0) := Lib.hid ho
  clear hb ho i0 cm lm s0 s1 s2 he he2 HB
  go_wp2_with fail
  have HG0 := Lib.hid (goes_zero (numsOf s))
  go_loopw [26, 5] (fun i v wr => NxAt w1 s m i v wr) (fun i _ _ => m - (intOf i).toNat)
  case atStart => exact ⟨0, Nat.zero_le _, rfl, by rw [HV.out], HG0.out, HO.out, b2⟩
  case round =>
    clear b2 HO HG0
    obtain ⟨k, hk, rfl, rfl, hg, ho, hb⟩ := hrel
    have HG := Lib.hid hg
    have HO := Lib.hid ho
    have VB := val_three (numsOf s) HX.out k (by omega) hg
    clear hg ho
    by_cases hlt : k < m
    · have HVN := Lib.hid (fun h => val_next (numsOf s) k h)
      have HGS := Lib.hid (fun h => (goes_succ (numsOf s) k).2 ⟨HG.out, h⟩)
      have HNO := Lib.hid (fun (h : ¬ (k + 1 < (numsOf s).length ∧ 128 ≤ (numsOf s).getD (k + 1) 0 ∧ (numsOf s).getD (k + 1) 0 < 192)) => (show nextI (numsOf s) = (0, 0) from next_no (by
        rw [EX.out, EM.out]
        intro hh
        exact h ((goes_succ (numsOf s) k).1 (goes_down _ hh.2.1 (by omega))).2)))
      have HC := Lib.hid (on_any w1.heap.size s k _ HO.out (by omega))
      unfold LookTo at HC
      generalize (numsOf s).getD (k + 1) 0 = y at *
      have vb2 := VB.2.2 (by omega)
      have vb0 := VB.1
      have HVE := Lib.hid (show ∃ a, valK (numsOf s) k = a from ⟨_, rfl⟩)
      obtain ⟨a, ea⟩ := HVE.out
      rw [ea] at HVN vb2 vb0 ⊢
      clear VB HVE
      go_wp2_with fail
      refine HC.out.mono ?_
      rintro e w3 ⟨hlk, ho3, hb3⟩
      have HO3 := Lib.hid ho3
      have b3 := hb.trans hb3
      clear HC ho3 hb3 hb HO
      rcases hlk with ⟨hyes, rfl⟩ | ⟨hno, rfl⟩
      · have HV1 := Lib.hid (HVN.out hyes.2)
        have HG1 := Lib.hid (HGS.out hyes)
        obtain ⟨b, eb⟩ : ∃ b, y - 128 = b := ⟨_, rfl⟩
        have hb0 : 0 ≤ b ∧ b < 64 := by omega
        rw [eb] at HV1 ⊢
        have hor : bits .or .i32 (a * 64) b = a * 64 + b := i32_or6 _ _ (by omega) (by omega) (by omega) hb0.1 hb0.2
        clear eb hyes HVN HGS HNO
        go_wp2_with fail
        refine ⟨⟨k + 1, by omega, by go_num, by rw [HV1.out], HG1.out, HO3.out, b3⟩, ?_⟩
        simp [intOf]; omega
      · have HE := Lib.hid (HNO.out hno)
        clear hno HVN HGS HNO
        go_wp2_with fail
        go_ret2
        exact ⟨by rw [HE.out]; rfl, b3⟩
    · obtain rfl : k = m := by omega
      have HT := Lib.hid (Ht.out.keep hb)
      have HM0 := Lib.hid (show moreI ((numsOf s).getD 0 0) = k by rw [EX.out, EM.out])
      have HVE := Lib.hid (show ∃ a, valK (numsOf s) k = a from ⟨_, rfl⟩)
      obtain ⟨a, ea⟩ := HVE.out
      have EA := Lib.hid ea
      rw [ea]
      clear VB HVE ea hlt
      by_cases hs : sizeI a = k + 1
      · have HS := Lib.hid (show (sizeI a : Int) = (k : Int) + 1 by rw [hs]; omega)
        have HE := Lib.hid (show nextI (numsOf s) = (a, k + 1) by rw [next_yes HN.out HM0.out HG.out (by rw [EA.out]; exact hs), EA.out])
        have HK := Lib.hid (show ((k + 1 : Nat) : Int) = (k : Int) + 1 by omega)
        clear hs
        go_wp2_with fail
        refine (size_any a _ HT.out).mono ?_
        rintro e w3 ⟨rfl, rfl⟩
        rw [HS.out]
        go_wp2_with fail
        go_ret2
        exact ⟨by rw [HE.out, HK.out]; rfl, hb⟩
      · have HE := Lib.hid (show nextI (numsOf s) = (0, 0) from next_no (by
          rw [HM0.out, EA.out]
          exact fun hh => hs hh.2.2))
        have hq : ((sizeI a : Int) != (k : Int) + 1) = true := by simp; omega
        have hq2 : ((sizeI a : Int) == (k : Int) + 1) = false := by simp; omega
        have hq3 : ¬ (sizeI a : Int) = (k : Int) + 1 := by omega
        have HC := Lib.hid (size_any a _ HT.out)
        clear hs
        generalize sizeI a = q at *
        go_wp2_with fail
        refine HC.out.mono ?_
        rintro e w3 ⟨rfl, rfl⟩
        go_wp2_with fail
        go_ret2
        exact ⟨by rw [HE.out]; rfl, hb⟩
end Utf
end Go.Proofs.YthifoodhndjmdaaDoor

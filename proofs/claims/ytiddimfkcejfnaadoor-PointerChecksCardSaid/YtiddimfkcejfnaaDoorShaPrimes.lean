/- The document's primes: the first n of the first 64, as a row of the call's own. -/
import Derived.Test.YtiddimfkcejfnaaDoorShaPower
namespace Go.Proofs.YtiddimfkcejfnaaDoor.Sha3
open Go.RowKit

/-- The primes below p. -/
def outAt (p : Nat) : List Int := primesL.filter fun q => decide (q < (p : Int))
def noneOf (p : Int) (l : List Int) : Bool := l.all fun q => !decide (p % q = 0)
set_option maxRecDepth 100000 in
theorem out_next : ∀ p, p < 312 → 2 ≤ p → outAt (p + 1) = if noneOf p (outAt p) then outAt p ++ [(p : Int)] else outAt p := by decide +kernel
set_option maxRecDepth 100000 in
theorem out_take : ∀ p, p < 313 → outAt p = primesL.take (outAt p).length := by decide +kernel
theorem out_len : (outAt 312).length = 64 := by decide +kernel
theorem primes_pos : ∀ q ∈ primesL, 0 < q ∧ q ≤ 311 := by decide +kernel
theorem out_pos (p : Nat) : ∀ q ∈ outAt p, 0 < q ∧ q ≤ 311 := fun q h => primes_pos q (List.mem_filter.1 h).1
theorem out_two : outAt 2 = [] := by decide +kernel
theorem noneOf_next (p : Int) (l : List Int) (j : Nat) (h : j < l.length) : noneOf p (l.take (j + 1)) = (noneOf p (l.take j) && !decide (p % l.getD j 0 = 0)) := by
  unfold noneOf
  rw [List.take_succ_eq_append_getElem h, List.all_append]
  simp [List.getD_eq_getElem?_getD, List.getElem?_eq_getElem h]
/-- Numbers of 64 bits in a row of the call's own, from block B on. -/
def OwnQ (w : World) (B : Nat) (A : Option Addr) (c : Nat) (xs : List Int) : Prop := w.ownsRow B 41 1 (.slice A xs.length c) xs.length (cellsOf .u64 xs)
theorem OwnQ.src {w : World} {A : Option Addr} {xs : List Int} {B c : Nat} (h : OwnQ w B A c xs) (hn : 0 < xs.length) : ∃ g, A = some ⟨g, 0, none⟩ ∧ B ≤ g ∧ g < w.heap.size ∧ ∀ i, i < xs.length → w.cell? ⟨g, i, none⟩ = some (.int .u64 (xs.getD i 0)) := by
  obtain ⟨g, cap, hv, hB, hlt⟩ := World.ownsRow.form h hn
  have hA : A = some ⟨g, 0, none⟩ := by injection hv
  subst hA
  refine ⟨g, rfl, (World.ownsRow.lt h g rfl).1, hlt, fun i hi => ?_⟩
  rw [World.ownsRow.cellAt h i (by omega), cellsOf_at .u64 xs i hi]
theorem Tryd.info29 : (Tryd.prog.info? 41).map (fun i => (i.zero, i.size, i.bytes)) = some (some (.int .u64 0), 1, 8) := by kernel_rfl
def PrAt (w : World) (N : Int) (v pv : Value) (wr : World) : Prop :=
  ∃ (p : Nat) (A : Option Addr) (c : Nat), 2 ≤ p ∧ p ≤ 312 ∧ pv = .int .u64 p ∧ v = .slice A (outAt p).length c ∧ OwnQ wr w.heap.size A c (outAt p) ∧ ((outAt p).length : Int) ≤ N ∧ Below w.heap.size w wr
def PsAt (p : Int) (l : List Int) (b i : Value) : Prop := ∃ j : Nat, j ≤ l.length ∧ i = .int .i64 j ∧ b = .bool (noneOf p (l.take j))
/-- A row of numbers of 64 bits that the call made. -/
def GivesQ (w : World) (xs : List Int) (e : Ending) (w' : World) : Prop := ∃ A c, e = .returned (.slice A xs.length c) ∧ OwnQ w' w.heap.size A c xs ∧ Below w.heap.size w w'
set_option maxHeartbeats 2000000 in
theorem primes_any (n : Nat) (N : Int) (hN : N = n) (hn : n ≤ 64) (w : World) : Calls Tryd.prog 44 #[.int .i64 N] w fun e w' => GivesQ w (primesL.take n) e w' := by
  obtain ⟨i0, hi, hz0, hz1, hz2⟩ := info_parts Tryd.info29
  have HNn := Lib.hid hN
  have n0 : 0 ≤ N := by omega
  have n1 : N ≤ 64 := by omega
  clear hN hn
  go_enter Tryd.func44, Tryd.ntmps44
  go_wp2_with fail
  go_loopw [3, 4] (fun v pv wr => PrAt w N v pv wr) (fun _ pv _ => (312 - intOf pv).toNat)
  case atStart => exact ⟨2, none, 0, by omega, by omega, rfl, by rw [out_two]; rfl, by unfold OwnQ; rw [out_two]; exact World.ownsRow_nil _ _ _ _, by rw [out_two]; exact n0, Below.refl _ _⟩
  case round =>
    obtain ⟨p, A, c, p2, p312, rfl, rfl, hown, hln, hbl⟩ := hrel
    have HT := Lib.hid (out_take p (by omega))
    have HX := Lib.hid (fun h : p < 312 => out_next p h p2)
    have HL := Lib.hid (fun h : p = 312 => show (outAt p).length = 64 by rw [h]; exact out_len)
    have HQ := Lib.hid (out_pos p)
    generalize outAt p = l at *
    by_cases hlt : (l.length : Int) < N
    · have p311 : p < 312 := by
        rcases Nat.lt_or_ge p 312 with h | h
        · exact h
        · have := HL.out (by omega); omega
      have HX2 := Lib.hid (HX.out p311)
      obtain ⟨wo, rfl⟩ : ∃ wo : World, wo = wr := ⟨_, rfl⟩
      clear HX HL
      have pi0 : (0 : Int) ≤ p := by omega
      have pi1 : (p : Int) < 312 := by omega
      go_wp2_with fail
      go_loop [5, 6] (fun b i => PsAt p l b i) (fun _ i => l.length - (intOf i).toNat)
      case atStart => exact ⟨0, Nat.zero_le _, rfl, rfl⟩
      case round =>
        obtain ⟨j, hj, rfl, rfl⟩ := hrel
        by_cases hjl : j < l.length
        · obtain ⟨g, rfl, hB, hlt2, hcell⟩ := hown.src (by omega)
          have cj := hcell j hjl
          have HC := Lib.hid hcell
          have HP := Lib.hid (noneOf_next p l j hjl)
          obtain ⟨q0, q1⟩ := HQ.out (l.getD j 0) (by rw [List.getD_eq_getElem?_getD, List.getElem?_eq_getElem hjl]; exact List.getElem_mem hjl)
          generalize l.getD j 0 = q at *
          generalize noneOf p (l.take j) = b0 at *
          clear hcell hlt
          obtain ⟨r, hr⟩ : ∃ r, (p : Int) % q = r := ⟨_, rfl⟩
          have r0 : 0 ≤ r := hr ▸ Int.emod_nonneg _ (by omega)
          have hr2 : (p : Int).tmod q = r := by rw [Int.tmod_eq_emod_of_nonneg pi0]; exact hr
          have hqz : (q == 0) = false := by simp; omega
          by_cases hrz : r = 0
          · subst hrz
            have HE := Lib.hid (show noneOf p (l.take (j + 1)) = false by rw [HP.out, hr]; simp)
            go_wp2_with fail
            refine ⟨⟨j + 1, by omega, by go_num, by rw [HE.out]⟩, ?_⟩
            simp [intOf]; omega
          · have HE := Lib.hid (show noneOf p (l.take (j + 1)) = b0 by rw [HP.out, hr]; simp [hrz])
            have hrz2 : (r == 0) = false := by simpa using hrz
            go_wp2_with fail
            refine ⟨⟨j + 1, by omega, by go_num, by rw [HE.out]⟩, ?_⟩
            simp [intOf]; omega
        · obtain rfl : j = l.length := by omega
          have HA := Lib.hid (show l.take l.length = l from List.take_length)
          rw [HA.out]
          cases hb : noneOf p l with
          | true =>
            have HB := Lib.hid (show outAt (p + 1) = l ++ [(p : Int)] by rw [HX2.out, hb]; rfl)
            clear hb hjl
            go_wp2_with (at_builtin; refine wpList_append_own _ rfl _ _ 65 rfl w.heap.size 41 i0 (.int .u64 0) 1 8 Tryd.underlying65 hi hz0 hz1 hz2 rfl (by decide) _ _ _ rfl (hown.alloc _) ⟨wo.heap.size, 0, none⟩ 1 1 [.int .u64 p] rfl rfl ?c1 ?c2 ?c3 ?c4 ?c5 ?_)
            case c2 => rfl
            case c3 => unfold maxLen; omega
            case c4 => omega
            case c5 => have := hbl.size; simp; omega
            intro v' w1 hown1 hgrow _
            have hb1 : Below w.heap.size w w1 := (hbl.alloc hbl.size _).grown hgrow (by have := hbl.size; simp; omega) (fun k hk => (World.ownsRow.lt hown k hk).1)
            obtain ⟨g, cap, hv, _, _⟩ := World.ownsRow.form hown1 (by omega)
            subst hv
            have HO := Lib.hid (show OwnQ w1 w.heap.size (some ⟨g, 0, none⟩) cap (l ++ [(p : Int)]) from by
              unfold OwnQ
              rw [List.length_append, cellsOf_append]
              exact hown1)
            clear hown1 hgrow hown hbl
            go_wp2_with fail
            refine ⟨⟨p + 1, some ⟨g, 0, none⟩, cap, by omega, by omega, by go_num, by rw [HB.out, List.length_append]; rfl, by rw [HB.out]; exact HO.out, by rw [HB.out, List.length_append]; simp; omega, hb1⟩, ?_⟩
            simp [intOf]; omega
          | false =>
            have HB := Lib.hid (show outAt (p + 1) = l by rw [HX2.out, hb]; rfl)
            clear hb hjl
            go_wp2_with fail
            refine ⟨⟨p + 1, A, c, by omega, by omega, by go_num, by rw [HB.out], by rw [HB.out]; exact hown, by rw [HB.out]; exact hln, hbl⟩, ?_⟩
            simp [intOf]; omega
    · go_wp2_with fail
      go_ret
      have hll : l.length = n := by have := HNn.out; omega
      exact ⟨A, c, by rw [← hll, ← HT.out]; rfl, by rw [← hll, ← HT.out]; exact hown, hbl⟩
end Go.Proofs.YtiddimfkcejfnaaDoor.Sha3

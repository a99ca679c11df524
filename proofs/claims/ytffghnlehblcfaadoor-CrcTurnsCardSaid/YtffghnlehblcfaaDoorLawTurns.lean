/- The walk of CrcTurns: for any bytes, any place and any word it answers true, and writes nothing that was there. -/
import Derived.Test.YtffghnlehblcfaaDoorLawParts
import Derived.Laws.OwnMore
import Derived.IntWalk
namespace Go.Proofs.YtffghnlehblcfaaDoor
open Go.RowKit

theorem Own.at_ {w : World} {B g c : Nat} {xs : List Int} (h : Own w B (some ⟨g, 0, none⟩) c xs) (j : Nat) (hj : j < xs.length) : w.cell? ⟨g, j, none⟩ = some (.int .u8 (xs.getD j 0)) := by
  rw [World.ownsRow.cellAt h j (by omega), cellsOf_at _ _ _ hj]
theorem Own.free {w : World} {B g c : Nat} {xs : List Int} (h : Own w B (some ⟨g, 0, none⟩) c xs) (j : Nat) : w.frozen? ⟨g, j, none⟩ = false := World.ownsRow.frozenAt h j
theorem Own.set_ {w : World} {B g c : Nat} {xs : List Int} (h : Own w B (some ⟨g, 0, none⟩) c xs) (j : Nat) (y : Int) : Own (w.setCell ⟨g, j, none⟩ (.int .u8 y)) B (some ⟨g, 0, none⟩) c (xs.set j y) := by
  unfold Own
  have := World.ownsRow.stored h j (.int .u8 y)
  rw [List.length_set]
  have e : cellsOf .u8 (xs.set j y) = (cellsOf .u8 xs).set j (.int .u8 y) := by simp [cellsOf, List.map_set]
  rw [e]
  exact this.1

/-- The place is cut to where 32 bits lie ahead. -/
theorem place_ok (a : Int) (n : Nat) (h4 : 4 ≤ n) (h : n ≤ 4000) : ∃ t : Nat, (wrap64 (a.tmod (8 * (n : Int) - 31) + (8 * (n : Int) - 31))).tmod (8 * (n : Int) - 31) = (t : Int) ∧ t + 32 ≤ 8 * n := by
  have hb : (0 : Int) < 8 * (n : Int) - 31 := by omega
  have h1 := Int.tmod_lt_of_pos a hb
  have h2 : -(8 * (n : Int) - 31) < a.tmod (8 * (n : Int) - 31) := by
    have e := Int.neg_tmod (a := -a) (b := 8 * (n : Int) - 31)
    rw [Int.neg_neg] at e
    have := Int.tmod_lt_of_pos (-a) hb
    omega
  rw [IntWalk.wrap64_in _ (by omega), Int.tmod_eq_emod_of_nonneg (by omega)]
  have h3 := Int.emod_nonneg (a.tmod (8 * (n : Int) - 31) + (8 * (n : Int) - 31)) (Int.ne_of_gt hb)
  have h4 := Int.emod_lt_of_pos (a.tmod (8 * (n : Int) - 31) + (8 * (n : Int) - 31)) hb
  exact ⟨_, (Int.toNat_of_nonneg h3).symm, by omega⟩

/-- A byte's bit is turned. -/
theorem flip_byte (x : Int) (r : Nat) (h0 : 0 ≤ x) (h1 : x < 256) (hr : r < 8) : (0 ≤ bits .xor .u8 x (2 ^ r % 256) ∧ bits .xor .u8 x (2 ^ r % 256) < 256) ∧ BitVec.ofInt 32 (bits .xor .u8 x (2 ^ r % 256)) = BitVec.ofInt 32 x ^^^ BitVec.twoPow 32 r := by
  obtain ⟨m, rfl⟩ := Int.eq_ofNat_of_zero_le h0
  have hm : m < 256 := by omega
  have hp : (2 : Nat) ^ r < 256 := by
    have := Nat.pow_lt_pow_right (a := 2) (by omega) hr
    omega
  have e2 : ((2 : Int) ^ r % 256) = ((2 ^ r : Nat) : Int) := by
    rw [show ((2 : Int) ^ r) = ((2 ^ r : Nat) : Int) by simp]
    exact Int.emod_eq_of_lt (Int.natCast_nonneg _) (Int.ofNat_lt.2 hp)
  rw [e2, u8_xor_nat m (2 ^ r) hm hp]
  have hlt : m ^^^ 2 ^ r < 2 ^ 8 := Nat.xor_lt_two_pow (by omega) (by omega)
  refine ⟨⟨by omega, by omega⟩, ?_⟩
  apply BitVec.eq_of_toNat_eq
  rw [BitVec.toNat_xor, BitVec.ofInt_natCast, BitVec.ofInt_natCast, BitVec.toNat_ofNat, BitVec.toNat_ofNat, BitVec.toNat_twoPow, Nat.mod_eq_of_lt (by omega), Nat.mod_eq_of_lt (by omega), Nat.mod_eq_of_lt (by omega)]
theorem IsBytes.set_ {xs : List Int} (h : IsBytes xs) (j : Nat) (y : Int) (hy : 0 ≤ y ∧ y < 256) : IsBytes (xs.set j y) := fun z hz => by
  rcases List.mem_or_eq_of_mem_set hz with hz | rfl
  · exact h z hz
  · exact hy
theorem turns_end (xs ys : List Int) (b : Wd) (n : Nat) (h : foldW (~~~0#32) ys = foldW (~~~0#32) xs ^^^ stepsW n (lowW b 32)) : (b = 0#32 ∧ goW 0#32 ys = goW 0#32 xs) ∨ ((uv (goW 0#32 ys) == uv (goW 0#32 xs)) = false ∧ (uv b == 0) = false) := by
  have hh := goW_turned xs ys b n h
  by_cases hb : b = 0#32
  · exact .inl ⟨hb, hh.2 hb⟩
  · refine .inr ⟨?_, ?_⟩
    · simp only [beq_eq_false_iff_ne]; exact fun e => hb (hh.1 (uv_inj e))
    · simp only [beq_eq_false_iff_ne]; exact fun e => hb (uv_inj (e.trans rfl))

/-- At a round's head: the bits below k are turned. -/
def TurnsAt (w : World) (xs : List Int) (t : Nat) (b : Wd) (g c : Nat) (i : Value) (wr : World) : Prop :=
  ∃ (k : Nat) (ys : List Int), k ≤ 32 ∧ i = .int .i64 k ∧ ys.length = xs.length ∧ IsBytes ys ∧ foldW (~~~0#32) ys = foldW (~~~0#32) xs ^^^ stepsW (8 * xs.length - t) (lowW b k) ∧ Own wr w.heap.size (some ⟨g, 0, none⟩) c ys ∧ Below w.heap.size w wr

set_option maxRecDepth 100000 in
set_option maxHeartbeats 1000000 in
theorem turns_mid (A0 : Option Addr) (n0 c0 : Nat) (xs : List Int) (a : Int) (by_ : Wd) (w : World) (ht : Tab w) (hn0 : n0 = xs.length) (hs0 : Src .u8 w A0 xs) (hx0 : IsBytes xs)
    (hl : n0 ≤ 4000) (hl4 : 4 ≤ n0) :
    Calls Tryd.prog 4 #[.slice A0 n0 c0, .int .i64 a, .int .u32 (uv by_)] w fun e w' => e = .returned (.bool true) ∧ Below w.heap.size w w' := by
  have Hn0 := Lib.hid hn0
  have Ht := Lib.hid ht
  have ha : (Below w.heap.size w (w.alloc (.cells #[] 5))) := (Below.refl _ _).alloc (Nat.le_refl _) _
  have hd1 : decide ((n0 : Int) < 4) = false := by simp; omega
  have hd2 : decide ((4000 : Int) < (n0 : Int)) = false := by simp; omega
  have hl0 : (n0 : Int) ≤ 4000 := by omega
  have hl1 : 4 ≤ (n0 : Int) := by omega
  clear hn0 ht
  go_enter Tryd.func4, Tryd.ntmps4
  go_wp2_with (at_builtin; refine wpList_append_src rfl _ _ rfl w.heap.size _ _ _ [] rfl rfl (own_made w _ (Nat.le_refl _)) A0 n0 c0 xs rfl Hn0.out (hs0.keep ha) (by omega) (by simp) ?_; rintro v w1 ⟨A2, n2, c2, rfl, hn2, ho2, hb2⟩; have hz2 := hb2.size; have Hn2 := Lib.hid hn2; clear hn2; simp only [List.nil_append] at ho2 Hn2)
  obtain ⟨g, cap, hv, hg, _⟩ := World.ownsRow.form ho2 (by have := Hn0.out; omega)
  obtain ⟨rfl, rfl⟩ : A2 = some ⟨g, 0, none⟩ ∧ c2 = cap := by injection hv with h1 _ h3; exact ⟨h1, h3⟩
  obtain ⟨t, hat, htl⟩ := place_ok a n0 hl4 hl
  rw [hat]
  clear hat hv
  go_loopw [9] (fun i wr => TurnsAt w xs t by_ g c2 i wr) (fun i _ => 32 - (intOf i).toNat)
  case atStart => exact ⟨0, xs, by omega, rfl, rfl, hx0, by unfold lowW; rw [stepsW_zero, BitVec.xor_zero], ho2, ha.trans hb2⟩
  case round =>
    obtain ⟨k, ys, hk, rfl, hyl, hyb, hfo, ho, hb⟩ := hrel
    have Hfo := Lib.hid hfo
    have Hyl := Lib.hid hyl
    clear hfo hyl
    by_cases hlt : k < 32
    · have hsh := shr_uv by_ k
      have hbt := bit0_uv (by_ >>> k)
      rw [show (by_ >>> k).getLsbD 0 = by_.getLsbD k by rw [BitVec.getLsbD_ushiftRight, Nat.add_zero]] at hbt
      obtain ⟨q, hq, hql⟩ : ∃ q : Nat, ((t : Int) + (k : Int)) / 8 = (q : Int) ∧ q = (t + k) / 8 := ⟨(t + k) / 8, by omega, rfl⟩
      obtain ⟨r, hr, hrl⟩ : ∃ r : Nat, ((t : Int) + (k : Int)) % 8 = (r : Int) ∧ r = (t + k) % 8 := ⟨(t + k) % 8, by omega, rfl⟩
      have hq1 : q < n0 := by omega
      have hr8 : r < 8 := by omega
      have Hq := Lib.hid hql
      have Hr := Lib.hid hrl
      have hn2 : n2 = n0 := by rw [Hn2.out, Hn0.out]
      subst hn2
      clear hql hrl
      cases h : by_.getLsbD k with
      | true =>
        have hand : bits .and .u32 (uv (by_ >>> k)) 1 = 1 := by rw [hbt, h]; rfl
        have hc1 := ho.at_ q (by rw [Hyl.out, ← Hn0.out]; omega)
        have hc2 := ho.free q
        have Hh := Lib.hid h
        clear hbt h
        go_wp2_with fail
        go_roundw
        case rel =>
          have hf := flip_byte (ys.getD q 0) r (hyb.at_ q).1 (hyb.at_ q).2 hr8
          have hq2 := Hq.out
          have hr2 := Hr.out
          rw [List.getD_eq_getElem?_getD] at hf
          refine ⟨k + 1, ys.set q _, by omega, by go_num, by rw [List.length_set]; exact Hyl.out, hyb.set_ q _ hf.1, ?_, ho.set_ q _, hb.setCell hg _⟩
          rw [hq2]
          refine foldW_round xs ys _ by_ t k _ Hyl.out (by rw [← Hn0.out]; exact htl) hlt Hh.out ?_ Hfo.out
          rw [List.getD_eq_getElem?_getD, ← hq2, ← hr2]
          exact hf.2
        case measure => simp [intOf]; omega
      | false =>
        have hand : bits .and .u32 (uv (by_ >>> k)) 1 = 0 := by rw [hbt, h]; rfl
        have Hh := Lib.hid (lowW_skip by_ k h)
        clear hbt h hq hr
        go_wp2_with fail
        go_roundw
        case rel => exact ⟨k + 1, ys, by omega, by go_num, Hyl.out, hyb, by rw [Hh.out]; exact Hfo.out, ho, hb⟩
        case measure => simp [intOf]; omega
    · obtain rfl : k = 32 := by omega
      have hE := turns_end xs ys by_ _ Hfo.out
      have Hn3 := Lib.hid (show n2 = ys.length by rw [Hn2.out, Hyl.out])
      have hn3 : n2 ≤ 1000000 := by have h1 := Hn2.out; have h2 := Hn0.out; omega
      rcases hE with ⟨rfl, hE⟩ | ⟨h1, h2⟩
      · have HE := Lib.hid hE
        clear hE
        go_wp2_with fail
        refine (sum_any _ n2 c2 ys _ (Ht.out.keep hb) Hn3.out ho.src hyb hn3).mono ?_
        rw [HE.out]
        rintro e w3 ⟨rfl, hb5⟩
        have hb6 := hb.trans (hb5.mono hb.size)
        clear hb5
        go_wp2_with fail
        refine (sum_any A0 n0 c0 xs _ (Ht.out.keep hb6) Hn0.out (hs0.keep hb6) hx0 (by omega)).mono ?_
        rintro e w4 ⟨rfl, hb5⟩
        have hb7 := hb6.trans (hb5.mono hb6.size)
        clear hb5
        have hz : (uv 0#32 == 0) = true := rfl
        go_wp2_with fail
        go_ret
        exact ⟨rfl, hb7⟩
      · go_wp2_with fail
        refine (sum_any _ n2 c2 ys _ (Ht.out.keep hb) Hn3.out ho.src hyb hn3).mono ?_
        rintro e w3 ⟨rfl, hb5⟩
        have hb6 := hb.trans (hb5.mono hb.size)
        clear hb5
        go_wp2_with fail
        refine (sum_any A0 n0 c0 xs _ (Ht.out.keep hb6) Hn0.out (hs0.keep hb6) hx0 (by omega)).mono ?_
        rintro e w4 ⟨rfl, hb5⟩
        have hb7 := hb6.trans (hb5.mono hb6.size)
        clear hb5
        go_wp2_with fail
        go_ret
        exact ⟨rfl, hb7⟩

set_option maxHeartbeats 400000 in
theorem turns_out (A0 : Option Addr) (n0 c0 : Nat) (a : Int) (b : Int) (w : World) (ht : Tab w) (hl : n0 < 4 ∨ 4000 < n0) :
    Calls Tryd.prog 4 #[.slice A0 n0 c0, .int .i64 a, .int .u32 b] w fun e w' => e = .returned (.bool true) ∧ Below w.heap.size w w' := by
  have kc := fun (w : World) (C : Array Value) (n c : Nat) => Lib.run_convert_bytes_const (P := Tryd.prog) w 22 5 C n c Tryd.underlying22 Tryd.underlying5
  have Ht := Lib.hid ht
  have hb11 := (Below.refl w.heap.size w).alloc (Nat.le_refl _) (.cells #[.int .u8 97] 5 (1, 2))
  clear ht
  rcases Nat.lt_or_ge n0 4 with h | h
  · have hd1 : decide ((n0 : Int) < 4) = true := by simp; omega
    clear hl h
    go_enter Tryd.func4, Tryd.ntmps4
    go_wp2_with fail
    refine (sum_any _ 1 1 [97] _ (Ht.out.keep hb11) rfl (src_lit w 97 5 _) bytesA (by omega)).mono ?_
    rw [uvA]
    rintro e w8 ⟨rfl, hb5⟩
    have hb12 := hb11.trans (hb5.mono hb11.size)
    clear hb5
    go_wp2_with fail
    go_ret
    exact ⟨rfl, hb12⟩
  · have hd1 : decide ((n0 : Int) < 4) = false := by simp; omega
    have hd2 : decide ((4000 : Int) < (n0 : Int)) = true := by simp; omega
    clear hl h
    go_enter Tryd.func4, Tryd.ntmps4
    go_wp2_with fail
    refine (sum_any _ 1 1 [97] _ (Ht.out.keep hb11) rfl (src_lit w 97 5 _) bytesA (by omega)).mono ?_
    rw [uvA]
    rintro e w8 ⟨rfl, hb5⟩
    have hb12 := hb11.trans (hb5.mono hb11.size)
    clear hb5
    go_wp2_with fail
    go_ret
    exact ⟨rfl, hb12⟩
end Go.Proofs.YtffghnlehblcfaaDoor

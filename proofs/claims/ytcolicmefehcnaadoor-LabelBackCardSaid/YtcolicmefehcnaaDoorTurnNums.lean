/- Bytes whose bits are turned, one behind the other: numbers, and the row that holds them; one block that changes alone. No conditions but those that stand in each lemma. -/
import Derived.Test.YtcolicmefehcnaaDoorHalf
import Derived.Test.YtcolicmefehcnaaDoorPtrVar
import Derived.Laws.OwnMore
import Derived.Laws.BitsAllLaws
import Derived.IntWalk
namespace Go.Proofs.YtcolicmefehcnaaDoor
open Go.RowKit

theorem tbit0_uv (s : Wd) : bits .and .u32 (uv s) 1 = if s.getLsbD 0 then 1 else 0 := by
  rw [and_uv, uv_ofInt]
  have e : s &&& BitVec.ofInt 32 1 = if s.getLsbD 0 then 1#32 else 0#32 := by
    apply BitVec.eq_of_getLsbD_eq
    intro i hi
    rw [BitVec.getLsbD_and]
    rcases Nat.eq_zero_or_pos i with rfl | hp
    · cases h : s.getLsbD 0 <;> simp
    · have h1 : (BitVec.ofInt 32 1 : Wd).getLsbD i = false := by
        have : ∀ j : Fin 32, 0 < j.val → (BitVec.ofInt 32 1 : Wd).getLsbD j.val = false := by decide
        exact this ⟨i, hi⟩ hp
      have h2 : (1#32 : Wd).getLsbD i = false := h1
      rw [h1]
      cases h : s.getLsbD 0
      · simp
      · simp only [if_true, h2, Bool.and_false]
  rw [e]
  split <;> rfl

theorem Own.at_ {w : World} {B g c : Nat} {xs : List Int} (h : Own w B (some ⟨g, 0, none⟩) c xs) (j : Nat) (hj : j < xs.length) : w.cell? ⟨g, j, none⟩ = some (.int .u8 (xs.getD j 0)) := by
  rw [World.ownsRow.cellAt h j (by omega), cellsOf_at _ _ _ hj]
theorem Own.free {w : World} {B g c : Nat} {xs : List Int} (h : Own w B (some ⟨g, 0, none⟩) c xs) (j : Nat) : w.frozen? ⟨g, j, none⟩ = false := World.ownsRow.frozenAt h j
theorem Own.set_ {w : World} {B g c : Nat} {xs : List Int} (h : Own w B (some ⟨g, 0, none⟩) c xs) (j : Nat) (y : Int) : Own (w.setCell ⟨g, j, none⟩ (.int .u8 y)) B (some ⟨g, 0, none⟩) c (xs.set j y) := by
  unfold Own
  have := World.ownsRow.stored h j (.int .u8 y)
  rw [List.length_set]
  have e : cellsOf .u8 (xs.set j y) = (cellsOf .u8 xs).set j (.int .u8 y) := by simp [cellsOf, List.map_set]
  rw [e]
  exact this.1

/-- The place is cut to where 32 bits lie ahead. -/
theorem place_ok (a : Int) (n : Nat) (h4 : 4 ≤ n) (h : n ≤ 4000) : ∃ t : Nat, (wrap64 (a.tmod (8 * (n : Int) - 31) + (8 * (n : Int) - 31))).tmod (8 * (n : Int) - 31) = (t : Int) ∧ t + 32 ≤ 8 * n := by
  have hb : (0 : Int) < 8 * (n : Int) - 31 := by omega
  have h1 := Int.tmod_lt_of_pos a hb
  have h2 : -(8 * (n : Int) - 31) < a.tmod (8 * (n : Int) - 31) := by
    have e := Int.neg_tmod (a := -a) (b := 8 * (n : Int) - 31)
    rw [Int.neg_neg] at e
    have := Int.tmod_lt_of_pos (-a) hb
    omega
  rw [IntWalk.wrap64_in _ (by omega), Int.tmod_eq_emod_of_nonneg (by omega)]
  have h3 := Int.emod_nonneg (a.tmod (8 * (n : Int) - 31) + (8 * (n : Int) - 31)) (Int.ne_of_gt hb)
  have h4 := Int.emod_lt_of_pos (a.tmod (8 * (n : Int) - 31) + (8 * (n : Int) - 31)) hb
  exact ⟨_, (Int.toNat_of_nonneg h3).symm, by omega⟩

/-- A byte's bit is turned. -/
theorem flip_byte (x : Int) (r : Nat) (h0 : 0 ≤ x) (h1 : x < 256) (hr : r < 8) : (0 ≤ bits .xor .u8 x (2 ^ r % 256) ∧ bits .xor .u8 x (2 ^ r % 256) < 256) ∧ BitVec.ofInt 32 (bits .xor .u8 x (2 ^ r % 256)) = BitVec.ofInt 32 x ^^^ BitVec.twoPow 32 r := by
  obtain ⟨m, rfl⟩ := Int.eq_ofNat_of_zero_le h0
  have hm : m < 256 := by omega
  have hp : (2 : Nat) ^ r < 256 := by
    have := Nat.pow_lt_pow_right (a := 2) (by omega) hr
    omega
  have e2 : ((2 : Int) ^ r % 256) = ((2 ^ r : Nat) : Int) := by
    rw [show ((2 : Int) ^ r) = ((2 ^ r : Nat) : Int) by simp]
    exact Int.emod_eq_of_lt (Int.natCast_nonneg _) (Int.ofNat_lt.2 hp)
  rw [e2, u8_xor_nat m (2 ^ r) hm hp]
  have hlt : m ^^^ 2 ^ r < 2 ^ 8 := Nat.xor_lt_two_pow (by omega) (by omega)
  refine ⟨⟨by omega, by omega⟩, ?_⟩
  apply BitVec.eq_of_toNat_eq
  rw [BitVec.toNat_xor, BitVec.ofInt_natCast, BitVec.ofInt_natCast, BitVec.toNat_ofNat, BitVec.toNat_ofNat, BitVec.toNat_twoPow, Nat.mod_eq_of_lt (by omega), Nat.mod_eq_of_lt (by omega), Nat.mod_eq_of_lt (by omega)]
theorem IsBytes.set_ {xs : List Int} (h : IsBytes xs) (j : Nat) (y : Int) (hy : 0 ≤ y ∧ y < 256) : IsBytes (xs.set j y) := fun z hz => by
  rcases List.mem_or_eq_of_mem_set hz with hz | rfl
  · exact h z hz
  · exact hy
theorem turns_end (xs ys : List Int) (b : Wd) (n : Nat) (h : foldW (~~~0#32) ys = foldW (~~~0#32) xs ^^^ stepsW n (lowW b 32)) : (b = 0#32 ∧ goW 0#32 ys = goW 0#32 xs) ∨ ((uv (goW 0#32 ys) == uv (goW 0#32 xs)) = false ∧ (uv b == 0) = false) := by
  have hh := goW_turned xs ys b n h
  by_cases hb : b = 0#32
  · exact .inl ⟨hb, hh.2 hb⟩
  · refine .inr ⟨?_, ?_⟩
    · simp only [beq_eq_false_iff_ne]; exact fun e => hb (hh.1 (uv_inj e))
    · simp only [beq_eq_false_iff_ne]; exact fun e => hb (uv_inj (e.trans rfl))

theorem Own.same {w w' : World} {B g c : Nat} {xs : List Int} (h : Own w B (some ⟨g, 0, none⟩) c xs) (e : w'.heap[g]? = w.heap[g]?) : Own w' B (some ⟨g, 0, none⟩) c xs := by
  refine ⟨h.1, h.2.imp id ?_⟩
  rintro ⟨g', cap, cur, hv, hg, hb, r⟩
  have hv2 := hv
  injection hv2 with h1 _ _
  injection h1 with h1
  injection h1 with h1 _ _
  subst h1
  exact ⟨g, cap, cur, hv, hg, e.trans hb, r⟩
theorem Own.there {w : World} {B g c : Nat} {xs : List Int} (h : Own w B (some ⟨g, 0, none⟩) c xs) : g < w.heap.size := (World.ownsRow.lt h g rfl).2
theorem Only.refl (g : Nat) (w : World) : Only g w w := ⟨rfl, Below.refl _ _, fun _ _ => rfl⟩
theorem Only.set {g : Nat} {w w' : World} (h : Only g w w') (j : Nat) (v : Value) : Only g w (w'.setCell ⟨g, j, none⟩ v) :=
  ⟨by rw [← h.size]; exact (by simp [World.setCell]), h.below.setCell (p := ⟨g, j, none⟩) (Nat.le_refl _) v, fun b hb => (heap_setCell_other w' ⟨g, j, none⟩ b v hb).trans (h.block b hb)⟩
end Go.Proofs.YtcolicmefehcnaaDoor

/- The last blocks of a sum: their lengths, bytes, and how they are filled. No conditions but those that stand in each lemma. -/
import Derived.Test.YtnllladoipcfkaaDoorShaArr
import Derived.Laws.CopyOwn
import Derived.Laws.Bits64
namespace Go.Proofs.YtnllladoipcfkaaDoor.Sha3
open Go.RowKit

theorem zerosI_length (n : Nat) : (zerosI n).length = n := List.length_replicate
theorem bytes_zeros (n : Nat) : IsBytes (zerosI n) := fun x hx => by
  obtain ⟨_, rfl⟩ := List.mem_replicate.1 hx
  omega
theorem bytes_len (q : Qd) : IsBytes (lenW q) := fun x hx => by
  obtain ⟨i, _, rfl⟩ := List.mem_map.1 hx
  unfold lenAt
  omega
theorem twoB_length (xs : List Int) (h : xs.length ≤ 63) : (twoB xs).length = 64 := by
  unfold twoB
  rw [List.length_append, List.length_cons, zerosI_length]
  omega
theorem oneB_length (xs : List Int) (q : Qd) (h : xs.length < 56) : (oneB xs q).length = 64 := by
  unfold oneB
  rw [List.length_append, List.length_append, List.length_cons, zerosI_length, lenW_length]
  omega
theorem lastB_length (q : Qd) : (lastB q).length = 64 := by
  unfold lastB
  rw [List.length_append, zerosI_length, lenW_length]
theorem bytes_two {xs : List Int} (h : IsBytes xs) : IsBytes (twoB xs) := h.append (IsBytes.cons (by omega) (bytes_zeros _))
theorem bytes_one {xs : List Int} (h : IsBytes xs) (q : Qd) : IsBytes (oneB xs q) := (h.append (IsBytes.cons (by omega) (bytes_zeros _))).append (bytes_len q)
theorem bytes_last (q : Qd) : IsBytes (lastB q) := (bytes_zeros _).append (bytes_len q)
theorem over_same {α : Type} (l zs : List α) (k : Nat) (h : l.take k = zs.take k) : over l zs k = zs := by
  unfold over
  rw [h, List.take_append_drop]
theorem over_one (xs : List Int) (q : Qd) (h : xs.length < 56) : over (oneB xs q) (twoB xs) 56 = twoB xs := by
  apply over_same
  have hl : (xs ++ 128 :: zerosI (55 - xs.length)).length = 56 := by rw [List.length_append, List.length_cons, zerosI_length]; omega
  have e1 : (oneB xs q).take 56 = xs ++ 128 :: zerosI (55 - xs.length) := by
    unfold oneB
    rw [List.take_append_of_le_length (by rw [hl]; exact Nat.le_refl _), List.take_of_length_le (by rw [hl]; exact Nat.le_refl _)]
  have e2 : twoB xs = (xs ++ 128 :: zerosI (55 - xs.length)) ++ zerosI 8 := by
    unfold twoB zerosI
    rw [List.append_assoc, List.cons_append, List.replicate_append_replicate, show 55 - xs.length + 8 = 63 - xs.length by omega]
  rw [e1, e2, List.take_append_of_le_length (by rw [hl]; exact Nat.le_refl _), List.take_of_length_le (by rw [hl]; exact Nat.le_refl _)]
theorem over_last (q : Qd) : over (lastB q) (zerosI 64) 56 = zerosI 64 := by
  apply over_same
  have hl : (zerosI 56).length = 56 := zerosI_length 56
  have e2 : zerosI 64 = zerosI 56 ++ zerosI 8 := by unfold zerosI; rw [List.replicate_append_replicate]
  unfold lastB
  rw [e2, List.take_append_of_le_length (by rw [hl]; exact Nat.le_refl _), List.take_append_of_le_length (by rw [hl]; exact Nat.le_refl _)]
theorem tail_getD (p : List Int) (q : Qd) (i : Nat) (hp : p.length = 56) (hi : i < 8) : (p ++ lenW q).getD (56 + i) 0 = lenAt q i := by
  rw [List.getD_eq_getElem?_getD, List.getElem?_append_right (by omega), hp, show 56 + i - 56 = i by omega, ← List.getD_eq_getElem?_getD]
  exact lenW_getD q i hi
theorem one_getD (xs : List Int) (q : Qd) (h : xs.length < 56) (i : Nat) (hi : i < 8) : (oneB xs q).getD (56 + i) 0 = lenAt q i :=
  tail_getD _ q i (by rw [List.length_append, List.length_cons, zerosI_length]; omega) hi
theorem last_getD (q : Qd) (i : Nat) (hi : i < 8) : (lastB q).getD (56 + i) 0 = lenAt q i := tail_getD _ q i (zerosI_length 56) hi
theorem lenAt_uq (q : Qd) (i j : Nat) (h : 56 - 8 * i = j) : lenAt q i = uq q / 2 ^ j % 256 := by
  unfold lenAt uq
  rw [h, BitVec.toNat_ushiftRight, Nat.shiftRight_eq_div_pow]
  rw [Int.natCast_emod, Int.natCast_ediv]
  simp
theorem splice_zeros (xs : List Int) : (splice ((List.replicate 64 (0 : Int)).map (Value.int .u8)) 0 (cellsOf .u8 xs)).toArray = bcells (xs ++ zerosI (64 - xs.length)) := by
  unfold splice bcells cellsOf zerosI
  rw [List.take_zero, List.nil_append, Nat.zero_add, List.length_map, ← List.map_drop, List.drop_replicate, List.map_append]
theorem mark_set (xs : List Int) (h : xs.length ≤ 63) : (xs ++ zerosI (64 - xs.length)).set xs.length 128 = twoB xs := by
  rw [List.set_append_right xs.length _ (Nat.le_refl _), Nat.sub_self]
  unfold twoB zerosI
  rw [show 64 - xs.length = (63 - xs.length) + 1 by omega, List.replicate_succ, List.set_cons_zero]
theorem mark_row {n : Nat} {xs : List Int} (hn : n = xs.length) (h : xs.length ≤ 63) : (bcells (xs ++ zerosI (64 - xs.length))).setIfInBounds n (.int .u8 128) = bcells (twoB xs) := by
  subst hn
  rw [bcells_set, mark_set xs h]
theorem src_copy {w : World} {A : Option Addr} {xs : List Int} (h : Src .u8 w A xs) (hp : 0 < (cellsOf .u8 xs).length) : ∃ ad, A = some ad ∧ ∀ j v, (cellsOf .u8 xs)[j]? = some v → w.cell? (ad.add j) = some v := by
  rw [cellsOf_length] at hp
  obtain ⟨b, o, rfl, _, hc⟩ := h hp
  refine ⟨_, rfl, fun j v hv => ?_⟩
  obtain ⟨hj, rfl⟩ := cellsOf_inv .u8 xs j v hv
  have hadd : (⟨b, o, none⟩ : Addr).add j = ⟨b, o + j, none⟩ := by unfold Addr.add; split <;> simp_all
  rw [hadd]
  exact hc j hj
theorem run_field_H {P : Program} (w : World) (t : TypeId) (f0 f1 : Field) (n : Nat) (e : TypeId) (hs : List Wd) (m : Int) (hu : P.underlying t = some (.struct #[f0, f1])) (ho : f0.offset = 0) (ha : P.underlying f0.type = some (.array n e)) (hz : (P.info? f0.type).map (·.size) = some hs.length) :
    (Instr.field t (.agg (scells hs m)) 0).run P w = .ok (.agg (wcells hs)) w := by
  cases hq : P.info? f0.type with
  | none => simp [hq] at hz
  | some i =>
    have hsz : i.size = hs.length := by simpa [hq] using hz
    have hagg : (isAgg f0.type).run P w = .ok true w := by
      unfold isAgg
      rw [Sem.run_bind, run_underlying ha w]
      simp
    have he : (scells hs m).extract 0 hs.length = wcells hs := by
      apply Array.ext'
      simp [scells, wcells]
    unfold Instr.field
    simp [Sem.run_bind, run_underlying hu w, asAgg, part, hagg, sizeOf, typeInfo, hq, hsz, ho, he]
theorem bits_uq (q : Qd) (n : Nat) : IntKind.u64.wrap (8 * IntKind.u64.wrap (uq q + (n : Int))) = uq (bitsQ q n) := by
  rw [IntKind.wrap_u64, IntKind.wrap_u64]
  unfold uq bitsQ
  rw [BitVec.toNat_mul, BitVec.toNat_add, show (8#64 : Qd).toNat = 8 from rfl, show (BitVec.ofNat 64 n).toNat = n % 2 ^ 64 from BitVec.toNat_ofNat _ _]
  omega
end Go.Proofs.YtnllladoipcfkaaDoor.Sha3

/- The document's own parts: rol, not, the constants, the first state; its spelling of a word, four bytes that are added. No conditions but those that stand in each lemma. -/
import Derived.Test.YtfjkejdnbegomaaDoorMd5Text
import Derived.Test.YtfjkejdnbegomaaDoorDrawTail
namespace Go.Proofs.YtfjkejdnbegomaaDoor.Md5
open Go.RowKit

set_option maxHeartbeats 400000 in
theorem rrol_any (x : Wd) (n : Nat) (w : World) (h0 : 0 < n) (hn : n < 32) : Calls Tryd.prog 20 #[.int .u32 (uv x), .int .u64 n] w fun e w' => e = .returned (.int .u32 (uv (rolW x n))) ∧ w = w' := by
  have HR := Lib.hid (rol_uv x n)
  go_enter Tryd.func20, Tryd.ntmps20
  go_wp2_with fail
  go_ret
  exact ⟨by rw [← HR.out]; rfl, rfl⟩
theorem rrol_int (x : Wd) (m : Int) (w : World) (h0 : 0 < m) (hn : m < 32) : Calls Tryd.prog 20 #[.int .u32 (uv x), .int .u64 m] w fun e w' => e = .returned (.int .u32 (uv (rolW x m.toNat))) ∧ w = w' := by
  obtain ⟨n, rfl⟩ := Int.eq_ofNat_of_zero_le (Int.le_of_lt h0)
  exact rrol_any x n w (by omega) (by omega)
theorem not_sub (e : Wd) : IntKind.u32.wrap (4294967295 - uv e) = uv (~~~e) := by
  have := e.isLt
  rw [IntKind.wrap_u32']
  unfold uv
  rw [BitVec.toNat_not]
  omega
theorem not_any (x : Wd) (w : World) : Calls Tryd.prog 19 #[.int .u32 (uv x)] w fun e w' => e = .returned (.int .u32 (uv (~~~x))) ∧ w = w' := by
  have HN := not_sub x
  have l := uv_lo x
  have h := uv_hi x
  go_enter Tryd.func19, Tryd.ntmps19
  go_wp2_with fail
  go_ret
  exact ⟨by rw [← HN]; rfl, rfl⟩
theorem Tryd.size33 : (Tryd.prog.info? 33).map (·.size) = some 5 := by kernel_rfl
theorem Tryd.size45 : (Tryd.prog.info? 45).map (·.size) = some 64 := by kernel_rfl
theorem rrol_q (x : Wd) (m : Nat) (w : World) (h0 : 0 < m) (hn : m < 32) : Calls Tryd.prog 20 #[.int .u32 (uv x), .int .u64 m] w fun e w' => e = .returned (.int .u32 (uv (rolW x m))) ∧ Below w.heap.size w w' :=
  (rrol_any x m w h0 hn).mono fun _ _ ⟨he, hw⟩ => ⟨he, hw ▸ Below.refl _ _⟩
theorem not_q (x : Wd) (w : World) : Calls Tryd.prog 19 #[.int .u32 (uv x)] w fun e w' => e = .returned (.int .u32 (uv (~~~x))) ∧ ∃ m, w' = w.drewN m :=
  (not_any x w).mono fun _ _ ⟨he, hw⟩ => ⟨he, 0, hw ▸ rfl⟩
theorem or_add (a b i : Nat) (h : b < 2 ^ i) : b ||| a * 2 ^ i = a * 2 ^ i + b := by
  rw [← Nat.shiftLeft_eq, Nat.or_comm]
  exact (Nat.shiftLeft_add_eq_or_of_lt h a).symm
theorem four_nat (x0 x1 x2 x3 : Nat) (b0 : x0 < 256) (b1 : x1 < 256) (b2 : x2 < 256) (b3 : x3 < 256) : (fourW x0 x1 x2 x3).toNat = x0 + x1 * 256 + x2 * 65536 + x3 * 16777216 := by
  unfold fourW
  simp only [BitVec.toNat_or, BitVec.toNat_shiftLeft, BitVec.ofInt_natCast, BitVec.toNat_ofNat, Nat.shiftLeft_eq]
  have e3 : x3 % 2 ^ 32 * 2 ^ 24 % 2 ^ 32 = x3 * 2 ^ 24 := by
    rw [Nat.mod_eq_of_lt (Nat.lt_trans b3 (by decide)), Nat.mod_eq_of_lt (Nat.lt_of_lt_of_le (Nat.mul_lt_mul_of_pos_right b3 (by decide)) (by decide))]
  have e2 : x2 % 2 ^ 32 * 2 ^ 16 % 2 ^ 32 = x2 * 2 ^ 16 := by
    rw [Nat.mod_eq_of_lt (Nat.lt_trans b2 (by decide)), Nat.mod_eq_of_lt (Nat.lt_of_lt_of_le (Nat.mul_lt_mul_of_pos_right b2 (by decide)) (by decide))]
  have e1 : x1 % 2 ^ 32 * 2 ^ 8 % 2 ^ 32 = x1 * 2 ^ 8 := by
    rw [Nat.mod_eq_of_lt (Nat.lt_trans b1 (by decide)), Nat.mod_eq_of_lt (Nat.lt_of_lt_of_le (Nat.mul_lt_mul_of_pos_right b1 (by decide)) (by decide))]
  have e0 : x0 % 2 ^ 32 = x0 := Nat.mod_eq_of_lt (Nat.lt_trans b0 (by decide))
  rw [e0, e1, e2, e3, or_add x1 x0 8 (show x0 < 256 from b0), or_add x2 _ 16 (show x1 * 256 + x0 < 65536 by omega), or_add x3 _ 24 (show x2 * 65536 + (x1 * 256 + x0) < 16777216 by omega)]
  show x3 * 16777216 + (x2 * 65536 + (x1 * 256 + x0)) = _
  omega
theorem four_add (x0 x1 x2 x3 : Int) (b0 : 0 ≤ x0 ∧ x0 < 256) (b1 : 0 ≤ x1 ∧ x1 < 256) (b2 : 0 ≤ x2 ∧ x2 < 256) (b3 : 0 ≤ x3 ∧ x3 < 256) :
    IntKind.u32.wrap (IntKind.u32.wrap (IntKind.u32.wrap (IntKind.u32.wrap x0 + IntKind.u32.wrap (IntKind.u32.wrap x1 * 256)) + IntKind.u32.wrap (IntKind.u32.wrap x2 * 65536)) + IntKind.u32.wrap (IntKind.u32.wrap x3 * 16777216)) = uv (fourW x0 x1 x2 x3) := by
  obtain ⟨y0, rfl⟩ := Int.eq_ofNat_of_zero_le b0.1
  obtain ⟨y1, rfl⟩ := Int.eq_ofNat_of_zero_le b1.1
  obtain ⟨y2, rfl⟩ := Int.eq_ofNat_of_zero_le b2.1
  obtain ⟨y3, rfl⟩ := Int.eq_ofNat_of_zero_le b3.1
  unfold uv
  rw [four_nat y0 y1 y2 y3 (by omega) (by omega) (by omega) (by omega)]
  simp only [IntKind.wrap_u32']
  omega
theorem four_sum (x0 x1 x2 x3 : Int) (b0 : 0 ≤ x0 ∧ x0 < 256) (b1 : 0 ≤ x1 ∧ x1 < 256) (b2 : 0 ≤ x2 ∧ x2 < 256) (b3 : 0 ≤ x3 ∧ x3 < 256) :
    ((BitVec.ofInt 32 x0 + BitVec.ofInt 32 x1 <<< 8) + BitVec.ofInt 32 x2 <<< 16) + BitVec.ofInt 32 x3 <<< 24 = fourW x0 x1 x2 x3 := by
  apply uv_inj
  rw [← add_uv, ← add_uv, ← add_uv, ← shl8, ← shl16, ← shl24, ← byte_uv x0 b0, ← byte_uv x1 b1, ← byte_uv x2 b2, ← byte_uv x3 b3]
  exact four_add x0 x1 x2 x3 b0 b1 b2 b3
/-- The turns, as the document's slice has them. -/
def turnsC : Array Value := (turnsL.map fun (n : Nat) => Value.int .u64 (n : Int)).toArray
theorem turnsC_at (j : Nat) (h : j < 16) : turnsC[j]? = some (.int .u64 (turnN j)) := by
  have hj : j < turnsL.length := h
  simp [turnsC, turnN, List.getD_eq_getElem?_getD, List.getElem?_eq_getElem hj]
/-- What is asked of the constants. -/
def SinesTell (ks : List Wd) : Prop := ∀ w : World, Calls Tryd.prog 18 #[] w fun e w' => e = .returned (.agg (wcells ks)) ∧ Below w.heap.size w w'
def sinesP : List (Nat × Value) := ((List.range 64).zip kW).map fun p => (p.1, Value.int .u32 (uv p.2))
set_option maxRecDepth 100000 in
theorem built_sines : Tryd.prog.built 45 sinesP = some (wcells kW) := by kernel_rfl
set_option maxRecDepth 100000 in
set_option maxHeartbeats 2000000 in
theorem sines_any : SinesTell kW := by
  intro w
  have r1 := Row.new w 45 (wcells (List.replicate 64 0#32))
  have hb : Below w.heap.size w (w.alloc (.cells (wcells (List.replicate 64 0#32)) 45)) := (Below.refl _ _).alloc (Nat.le_refl _) _
  have Hbd := Lib.hid built_sines
  have HL := Lib.hid kW_length
  have hp := Lib.hid (show sinesP = _ from by unfold sinesP kW; rfl)
  generalize kW = ks at Hbd HL ⊢
  go_enter Tryd.func18, Tryd.ntmps18
  go_wp2_with (first
    | (refine wpList_build_eq rfl 45 _ rfl sinesP (by simp; rfl) (wcells ks) Hbd.out ?_)
    | (refine wpList_store_row rfl 45 (.tmp 0) (.tmp 1) rfl w.heap.size (wcells ks) rfl rfl 45 (wcells (List.replicate 64 0#32)) r1 (by rw [Tryd.size45, wcells_size, HL.out]) (by rw [wcells_size, wcells_size, HL.out, List.length_replicate]) (wcells_one _) ?_))
  refine bodyPost_ret (v := .agg (wcells ks)) ?_ rfl ?_
  · exact results_cell_row Tryd.results18 _ _ w.heap.size 45 (wcells ks) (0, 0) _ rfl (r1.setRow _) Tryd.underlying45 rfl (by rw [Tryd.size45, wcells_size, HL.out])
  · exact ⟨rfl, below_setRow hb (Nat.le_refl _) _⟩
end Go.Proofs.YtfjkejdnbegomaaDoor.Md5

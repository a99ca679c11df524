/- The closure that looks at the bytes behind the first: what goesOn makes, and what each look tells. Nothing is written but the closure's own number. No conditions but those that stand in each lemma. -/
import Derived.Test.YthifoodhndjmdaaDoorUtfSize
import Derived.OneCell
namespace Go.Proofs.YthifoodhndjmdaaDoor
open Go.RowKit
namespace Utf

/-- A byte of a text. -/
theorem run_index_str {P : Program} (w : World) (t : TypeId) (s : ByteArray) (d : Int) (j : Nat) (hd : d = (j : Int)) (hu : P.underlying t = some .string) (h1 : j < s.size) :
    (Instr.index t (.string s) (.int .i64 d)).run P w = .ok (.int .u8 ((numsOf s).getD j 0)) w := by
  subst hd
  have ha : (asIntOf (.int .i64 (j : Int))).run P w = .ok (.i64, (j : Int)) w := by simp [asIntOf]
  have hs : s[j]? = some s[j] := getElem?_pos s j h1
  have hv : ((s[j]).toNat : Int) = (numsOf s).getD j 0 := by
    have hl : j < s.data.toList.length := h1
    unfold numsOf
    rw [List.getD_eq_getElem?_getD, List.getElem?_map, List.getElem?_eq_getElem hl]
    rfl
  unfold Instr.index
  simp only [Sem.run_bind, ha, Result.andThen_ok, run_underlying hu w]
  rw [if_pos (by omega), Int.toNat_natCast, hs]
  simp only [Sem.run_pure]
  rw [← hv]

/-- The captured ones: the text in block B, how far it was looked at in the block behind. -/
def On (w : World) (B : Nat) (s : ByteArray) (j : Int) : Prop := w.heap[B]? = some (.cells #[.string s] 9 (0, 0)) ∧ w.heap[B + 1]? = some (.cells #[.int .i64 j] 3 (0, 0))
theorem on_made (w : World) (s : ByteArray) : On ((w.alloc (.cells #[.string s] 9)).alloc (.cells #[.int .i64 0] 3)) w.heap.size s 0 := by
  have h1 := Row.new w 9 #[.string s]
  have h2 := Row.new (w.alloc (.cells #[.string s] 9)) 3 #[.int .i64 0]
  rw [World.size_alloc] at h2
  exact ⟨h1.old _, h2⟩
theorem goesOn_any (s : ByteArray) (w : World) : Calls Tryd.prog 17 #[.string s] w fun e w' =>
    e = .returned (.func (Fn.func 20) #[] #[.pointer (some ⟨w.heap.size + 1, 0, none⟩), .pointer (some ⟨w.heap.size, 0, none⟩)]) ∧ On w' w.heap.size s 0 ∧ Below w.heap.size w w' := by
  have HO := Lib.hid (on_made w s)
  go_enter Tryd.func17, Tryd.ntmps17
  go_wp2_with fail
  go_ret
  exact ⟨rfl, HO.out, ((Below.refl _ _).alloc (Nat.le_refl _) _).alloc (by simp) _⟩

theorem on_bits : ∀ j : Fin 256, (128 ≤ (j.val : Int) ∧ (j.val : Int) < 192) ∧ bits .andNot .u8 (j.val : Int) 63 = 128 ∧ bits .and .u8 (j.val : Int) 63 = (j.val : Int) - 128 ∨ ¬ (128 ≤ (j.val : Int) ∧ (j.val : Int) < 192) ∧ bits .andNot .u8 (j.val : Int) 63 ≠ 128 := by decide +kernel
theorem on_bits' (x : Int) (h : 0 ≤ x ∧ x < 256) : (128 ≤ x ∧ x < 192) ∧ bits .andNot .u8 x 63 = 128 ∧ bits .and .u8 x 63 = x - 128 ∨ ¬ (128 ≤ x ∧ x < 192) ∧ bits .andNot .u8 x 63 ≠ 128 := by
  obtain ⟨m, rfl⟩ := Int.eq_ofNat_of_zero_le h.1
  exact on_bits ⟨m, by omega⟩
/-- What the look at byte j tells. -/
def LookTo (xs : List Int) (j : Nat) (e : Ending) : Prop :=
  ((j < xs.length ∧ 128 ≤ xs.getD j 0 ∧ xs.getD j 0 < 192) ∧ e = .returned (.tuple #[.int .i32 (xs.getD j 0 - 128), .bool true])) ∨ (¬ (j < xs.length ∧ 128 ≤ xs.getD j 0 ∧ xs.getD j 0 < 192) ∧ e = .returned (.tuple #[.int .i32 0, .bool false]))
theorem on_set {w : World} {B : Nat} {s : ByteArray} {j : Int} (h : On w B s j) (i : Int) : On (w.setCell ⟨B + 1, 0, none⟩ (.int .i64 i)) B s i :=
  ⟨Row.other h.1 (by omega) 0 _, one_setCell h.2⟩

set_option maxRecDepth 100000 in
set_option maxHeartbeats 1000000 in
theorem on_any (B : Nat) (s : ByteArray) (j : Nat) (w : World) (h : On w B s (j : Int)) (hj : j < 10) :
    Calls Tryd.prog 20 #[.pointer (some ⟨B + 1, 0, none⟩), .pointer (some ⟨B, 0, none⟩)] w fun e w' => LookTo (numsOf s) (j + 1) e ∧ On w' B s ((j + 1 : Nat) : Int) ∧ Below B w w' := by
  have HS := Lib.hid (on_set h ((j : Int) + 1))
  have c0 := cell_of_one h.1
  have c1 := cell_of_one h.2
  have f1 := free_of_one h.2
  have d0 := cell_of_one HS.out.1
  have d1 := cell_of_one HS.out.2
  have HB := Lib.hid ((Below.refl B w).setCell (p := ⟨B + 1, 0, none⟩) (Nat.le_succ _) (.int .i64 ((j : Int) + 1)))
  have HL := Lib.hid (numsOf_length s)
  have HJ := Lib.hid (show ((j + 1 : Nat) : Int) = (j : Int) + 1 by omega)
  have hx := (numsOf_bytes s).at_ (j + 1)
  by_cases hlt : j + 1 < s.size
  · have ix := fun w' => run_index_str (P := Tryd.prog) w' 9 s ((j : Int) + 1) (j + 1) (by omega) Tryd.underlying9 hlt
    unfold LookTo
    generalize (numsOf s).getD (j + 1) 0 = x at *
    have hlt' : (j : Int) + 1 < (s.size : Int) := by omega
    clear h
    rcases on_bits' x hx with ⟨⟨g0, g1⟩, ha, hb⟩ | ⟨hn, ha⟩
    · go_enter Tryd.func20, Tryd.ntmps20
      go_wp2_with fail
      go_ret2
      exact ⟨.inl ⟨⟨by rw [HL.out]; exact hlt, g0, g1⟩, rfl⟩, by rw [HJ.out]; exact HS.out, HB.out⟩
    · have HN := Lib.hid hn
      have ha' : (bits .andNot .u8 x 63 != 128) = true := by simpa using ha
      clear hn ha
      go_enter Tryd.func20, Tryd.ntmps20
      go_wp2_with fail
      go_ret2
      exact ⟨.inr ⟨fun hh => HN.out ⟨hh.2.1, hh.2.2⟩, rfl⟩, by rw [HJ.out]; exact HS.out, HB.out⟩
  · have hlt' : (s.size : Int) ≤ (j : Int) + 1 := by omega
    clear h
    go_enter Tryd.func20, Tryd.ntmps20
    go_wp2_with fail
    go_ret2
    exact ⟨.inr ⟨fun hh => hlt (by rw [← HL.out]; exact hh.1), rfl⟩, by rw [HJ.out]; exact HS.out, HB.out⟩
end Utf
end Go.Proofs.YthifoodhndjmdaaDoor

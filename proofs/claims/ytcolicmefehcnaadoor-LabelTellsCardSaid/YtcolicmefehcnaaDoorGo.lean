/- Go and Sum, for any sum and any bytes (at most 1000000 of them): the document's sum; nothing that was there is written. -/
import Derived.Test.YtcolicmefehcnaaDoorHalf
import Derived.LoopTactic
namespace Go.Proofs.YtcolicmefehcnaaDoor
open Go.RowKit

theorem Tab.keep {w w' : World} (h : Tab w) (hb : Below w.heap.size w w') : Tab w' :=
  ⟨by have := hb.size; have := h.1; omega, fun k hk => (hb.cell (p := ⟨0, k, none⟩) h.1).trans (h.2 k hk)⟩
theorem Tab.keepB {B : Nat} {w w' : World} (h : Tab w) (hB : 0 < B) (hb : Below B w w') : Tab w' :=
  ⟨by have := hb.size; have := h.1; omega, fun k hk => (hb.cell (p := ⟨0, k, none⟩) hB).trans (h.2 k hk)⟩

/-- The captured word holds s. -/
def Word (w : World) (B : Nat) (s : Wd) : Prop := w.heap[B]? = some (.cells #[.int .u32 (uv s)] 22 (0, 0))
theorem half_one (B : Nat) (s : Wd) (w : World) (ht : Tab w) (hw : Word w B s) :
    Calls Tryd.prog 45 #[.pointer (some ⟨B, 0, none⟩)] w fun e w' => e = .returned (.tuple #[]) ∧ Word w' B (stepsW 4 s) ∧ Below B w w' :=
  (half_any B s w ht (cell_of_one hw) (free_of_one hw)).mono fun e w' ⟨he, h⟩ => by
    subst h
    exact ⟨he, one_setCell hw, ((Below.refl B w).setCell (Nat.le_refl _) _).drew⟩

theorem below_word (B : Nat) (w : World) (v : Value) : Below B w (w.setCell ⟨B, 0, none⟩ v) := (Below.refl B w).setCell (p := ⟨B, 0, none⟩) (Nat.le_refl _) v
theorem ret_uv {a b : Wd} (h : a = b) : Ending.returned (.int .u32 (uv a)) = .returned (.int .u32 (uv b)) := by rw [h]
/-- At a round's head: k bytes are in the captured word. -/
def GoAt (w : World) (s : Wd) (xs : List Int) (i : Value) (wr : World) : Prop :=
  ∃ k : Nat, k ≤ xs.length ∧ i = .int .i64 k ∧ Word wr w.heap.size (foldW (~~~s) (xs.take k)) ∧ Below w.heap.size w wr

theorem not_uv (s : Wd) : bits .xor .u32 IntKind.u32.max (uv s) = uv (~~~s) := by
  rw [xor_uv, uv_ofInt, show BitVec.ofInt 32 IntKind.u32.max = BitVec.allOnes 32 by decide, BitVec.allOnes_xor]
theorem xor_byte (s : Wd) (x : Int) : bits .xor .u32 (uv s) x = uv (s ^^^ BitVec.ofInt 32 x) := by rw [xor_uv, uv_ofInt]
theorem foldW_snoc (s : Wd) (xs : List Int) (k : Nat) (h : k < xs.length) : foldW s (xs.take (k + 1)) = stepsW 4 (stepsW 4 (foldW s (xs.take k) ^^^ BitVec.ofInt 32 (xs.getD k 0))) := by
  rw [List.take_succ_eq_append_getElem h, foldW_append, ← stepsW_add, List.getD_eq_getElem?_getD, List.getElem?_eq_getElem h]
  rfl

set_option maxRecDepth 100000 in
set_option maxHeartbeats 1000000 in
theorem go_any (s : Wd) (A : Option Addr) (n c : Nat) (xs : List Int) (w : World) (ht : Tab w) (hn : n = xs.length) (hs : Src .u8 w A xs) (hx : IsBytes xs) (hl : n ≤ 1000000) :
    Calls Tryd.prog 34 #[.int .u32 (uv s), .slice A n c] w fun e w' => e = .returned (.int .u32 (uv (goW s xs))) ∧ Below w.heap.size w w' := by
  have Hn := Lib.hid hn
  have Hs := Lib.hid hs
  have Ht := Lib.hid ht
  have hnot := not_uv s
  clear hn hs ht
  go_enter Tryd.func34, Tryd.ntmps34
  go_wp2_with fail
  clear hnot
  go_loopw [14] (fun i wr => GoAt w s xs i wr) (fun i _ => n - (intOf i).toNat)
  case atStart => exact ⟨0, Nat.zero_le _, rfl, heap_alloc_new _ _, (Below.refl _ _).alloc (Nat.le_refl _) _⟩
  case round =>
    obtain ⟨k, hk, rfl, hw, hb⟩ := hrel
    by_cases hlt : k < xs.length
    · obtain ⟨b, o, rfl, hbl, hcell⟩ := Hs.out (by omega)
      have hc1 := (hb.cell (p := ⟨b, o + k, none⟩) hbl).trans (hcell k hlt)
      have HT := Lib.hid (foldW_snoc (~~~s) xs k hlt)
      have hb1 := hx.at_ k
      have hkn : k < n := by have := Hn.out; omega
      clear hcell
      generalize hx' : xs.getD k 0 = x at *
      generalize ht' : foldW (~~~s) (xs.take k) = t at *
      clear hx' ht'
      have hq1 := cell_of_one hw
      have hq2 := free_of_one hw
      have hxr := xor_byte t x
      go_wp2_with fail
      refine (half_one w.heap.size (t ^^^ BitVec.ofInt 32 x) _ (Tab.keepB (Tab.keep Ht.out hb) Ht.out.1 (below_word _ _ _)) (one_setCell hw)).mono ?_
      rintro e w1 ⟨rfl, hw1, hb1'⟩
      have hb2 := (hb.trans (below_word _ _ _)).trans hb1'
      clear hq1 hq2 hxr hc1 hb1' hw
      go_wp2_with fail
      refine (half_one w.heap.size _ _ (Tab.keep Ht.out hb2) hw1).mono ?_
      rintro e w2 ⟨rfl, hw2, hb3⟩
      have hb4 := hb2.trans hb3
      clear hb2 hb3 hw1 hb
      go_wp2_with fail
      go_roundw
      case rel => exact ⟨k + 1, by omega, by go_num, by rw [HT.out]; exact hw2, hb4⟩
      case measure => simp [intOf]; omega
    · have hkn : k = n := by have := Hn.out; omega
      subst hkn
      have HT := Lib.hid (show foldW (~~~s) (xs.take k) = foldW (~~~s) xs by rw [List.take_of_length_le (by omega)])
      rw [HT.out] at hw
      generalize ht' : foldW (~~~s) xs = t at *
      have hq1 := cell_of_one hw
      have hnot := not_uv t
      have HT' := Lib.hid ht'
      clear ht' hlt hk HT
      go_wp2_with fail
      go_ret
      exact ⟨ret_uv (show ~~~t = goW s xs by unfold goW; rw [HT'.out]), hb⟩

set_option maxHeartbeats 400000 in
theorem sum_any (A : Option Addr) (n c : Nat) (xs : List Int) (w : World) (ht : Tab w) (hn : n = xs.length) (hs : Src .u8 w A xs) (hx : IsBytes xs) (hl : n ≤ 1000000) :
    Calls Tryd.prog 16 #[.slice A n c] w fun e w' => e = .returned (.int .u32 (uv (goW 0#32 xs))) ∧ Below w.heap.size w w' := by
  have Hn := Lib.hid hn
  clear hn
  go_enter Tryd.func16, Tryd.ntmps16
  go_wp2_with fail
  refine (go_any 0#32 A n c xs _ ht Hn.out hs hx hl).mono ?_
  rintro e w1 ⟨rfl, hb⟩
  go_wp2_with fail
  go_ret
  exact ⟨rfl, hb⟩
end Go.Proofs.YtcolicmefehcnaaDoor

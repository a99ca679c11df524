/- Lower, for any text (at most 400000 bytes): small letters in the place of great ones; nothing that was there is written. -/
import Derived.Test.YteapddoanggniaaRow
import Derived.Test.YteapddoanggniaaKind
import Derived.Laws.IdiomStrings
namespace Go.Proofs.Yteapddoanggniaa
open Go.RowKit

theorem lowI_four {c : Int} (h : kindI c = 4) : lowI c = c + 32 ∧ 65 ≤ c ∧ c ≤ 90 := by unfold kindI at h; unfold lowI; omega
theorem lowI_other {c : Int} (h : kindI c ≠ 4) : lowI c = c := (lowI_ne c).2 h
theorem set_low (xs : List Int) (k : Nat) (hk : k < xs.length) : (lowW (xs.take k) ++ xs.drop k).set k (lowI (xs.getD k 0)) = lowW (xs.take (k + 1)) ++ xs.drop (k + 1) := by
  have h1 : (lowW (xs.take k)).length = k := by rw [lowW_length, List.length_take]; omega
  rw [lowW_next xs k hk, List.append_assoc, List.drop_eq_getElem_cons hk, List.set_append_right _ _ (by omega), h1, Nat.sub_self, List.set_cons_zero]
  rfl
theorem there_low (xs : List Int) (k : Nat) (hk : k < xs.length) : (lowW (xs.take k) ++ xs.drop k).getD k 0 = xs.getD k 0 := by
  have h1 : (lowW (xs.take k)).length = k := by rw [lowW_length, List.length_take]; omega
  simp [List.getD_eq_getElem?_getD, List.getElem?_append_right (show (lowW (xs.take k)).length ≤ k by omega), h1]
theorem skip_low (xs : List Int) (k : Nat) (hk : k < xs.length) (h : kindI (xs.getD k 0) ≠ 4) : lowW (xs.take (k + 1)) ++ xs.drop (k + 1) = lowW (xs.take k) ++ xs.drop k := by
  rw [lowW_next xs k hk, lowI_other h, List.append_assoc, List.drop_eq_getElem_cons hk]
  simp [List.getD_eq_getElem?_getD, List.getElem?_eq_getElem hk]

/-- The block g, known whole, with the run-time's mark behind its last cell. -/
def RowF (w : World) (g : Nat) (t : TypeId) (cs : Array Value) : Prop := w.heap[g]? = some (.cells cs t (cs.size, cs.size + 1))
section
variable {w w' : World} {g : Nat} {t : TypeId} {cs : Array Value}
theorem RowF.lt (h : RowF w g t cs) : g < w.heap.size := by
  rcases Nat.lt_or_ge g w.heap.size with h' | h'
  · exact h'
  · unfold RowF at h
    rw [Array.getElem?_eq_none h'] at h
    cases h
theorem RowF.cell (h : RowF w g t cs) {j : Nat} {v : Value} (hv : cs[j]? = some v) : w.cell? ⟨g, j, none⟩ = some v := (cell_of_row w g j cs t _ h).trans hv
theorem RowF.free (h : RowF w g t cs) {j : Nat} (hj : j < cs.size) : w.frozen? ⟨g, j, none⟩ = false := by
  unfold RowF at h
  simp [World.frozen?, h]
  omega
theorem RowF.keepB {B : Nat} (h : RowF w g t cs) (hb : Below B w w') (hg : g < B) : RowF w' g t cs := (hb.block g hg).trans h
theorem RowF.keep (h : RowF w g t cs) (hb : Below w.heap.size w w') : RowF w' g t cs := h.keepB hb h.lt
theorem RowF.set (h : RowF w g t cs) (j : Nat) (v : Value) : RowF (w.setCell ⟨g, j, none⟩ v) g t (cs.setIfInBounds j v) := by
  unfold RowF at *
  simp [World.setCell, Array.getElem?_modify, h]
theorem rowF_bytes {l r : List Int} (h : RowF w g t (bcells (l ++ r))) : Src .u8 w (some ⟨g, 0, none⟩) l := fun _ =>
  ⟨g, 0, rfl, h.lt, fun i hi => by
    rw [Nat.zero_add, h.cell (bcells_at (l ++ r) i (by rw [List.length_append]; omega))]
    simp [List.getD_eq_getElem?_getD, List.getElem?_append_left hi]⟩
end
theorem bytesRow_cells (s : ByteArray) (c : Nat) : bytesRow s c = bcells (numsOf s ++ List.replicate (c - s.size) 0) := by
  unfold bytesRow bcells numsOf
  apply Array.ext'
  simp
theorem of_string (s : ByteArray) : ∃ (c : World → Nat), ∀ w : World, (convert 9 22 (.string s)).run Try.prog w = .ok (.slice (some ⟨w.heap.size, 0, none⟩) s.size (c w)) (w.drew.alloc (.cells (bcells (numsOf s ++ List.replicate (c w - s.size) 0)) 5 ((bcells (numsOf s ++ List.replicate (c w - s.size) 0)).size, (bcells (numsOf s ++ List.replicate (c w - s.size) 0)).size + 1))) :=
  ⟨fun w => grownCap w s.size 0 5, fun w => by
    have := run_bytes_of_string (P := Try.prog) w 9 22 5 s Try.underlying9 Try.underlying22 Try.underlying5
    rw [bytesRow_cells] at this
    exact this⟩

/-- At a round's head: k bytes are small. -/
def LowAt (w : World) (xs zs : List Int) (i : Value) (wr : World) : Prop :=
  ∃ k : Nat, k ≤ xs.length ∧ i = .int .i64 k ∧ RowF wr w.heap.size 5 (bcells (lowW (xs.take k) ++ xs.drop k ++ zs)) ∧ Below w.heap.size w wr

set_option maxRecDepth 100000 in
set_option maxHeartbeats 1000000 in
theorem lower_any (s : ByteArray) (w : World) (hl : s.size ≤ 400000) :
    Calls Try.prog 9 #[.string s] w fun e w' => e = .returned (.string (strOfNums (lowW (numsOf s)))) ∧ Below w.heap.size w w' := by
  obtain ⟨n, hn⟩ : ∃ n, s.size = n := ⟨_, rfl⟩
  have Hn := Lib.hid (show (numsOf s).length = n by rw [numsOf_length, hn])
  have Hx := Lib.hid (numsOf_bytes s)
  obtain ⟨c, hc⟩ := of_string s
  rw [hn] at hc
  go_enter Try.func9, Try.ntmps9
  go_wp2_with fail
  have HR : RowF _ w.heap.size 5 (bcells (numsOf s ++ List.replicate (c w - n) (0 : Int))) := heap_alloc_new w.drew (.cells (bcells (numsOf s ++ List.replicate (c w - n) (0 : Int))) 5 (_, _))
  generalize List.replicate (c w - n) (0 : Int) = zs at *
  generalize eX : numsOf s = xs at *
  have EX := Lib.hid eX
  clear eX
  go_loopw [10] (fun i wr => LowAt w xs zs i wr) (fun i _ => n - (intOf i).toNat)
  case atStart =>
    refine ⟨0, Nat.zero_le _, rfl, ?_, ?_⟩
    · exact HR
    · exact ((Below.refl _ _).drew).alloc (by simp) _
  case round =>
    clear HR hc
    obtain ⟨k, hk, rfl, hrow, hb⟩ := hrel
    by_cases hlt : k < n
    · have hkx : k < xs.length := by rw [Hn.out]; exact hlt
      have HS := Lib.hid (set_low xs k hkx)
      have HK := Lib.hid (skip_low xs k hkx)
      have HL := Lib.hid (show (lowW (xs.take k) ++ xs.drop k).length = n by rw [List.length_append, lowW_length, List.length_take, List.length_drop, Hn.out]; omega)
      have hc0 := hrow.cell (bcells_at _ k (by rw [List.length_append, HL.out]; omega))
      have hfr := hrow.free (j := k) (by rw [bcells_size, List.length_append, HL.out]; omega)
      rw [show (lowW (xs.take k) ++ xs.drop k ++ zs).getD k 0 = xs.getD k 0 by rw [← there_low xs k hkx]; simp only [List.getD_eq_getElem?_getD]; rw [List.getElem?_append_left (by rw [HL.out]; exact hlt)]] at hc0
      have u0 := Hx.out.at_ k
      have C0 := Lib.hid (fun w' => kind_any (xs.getD k 0) w' u0)
      have H4 := Lib.hid (fun h => lowI_four (c := xs.getD k 0) h)
      generalize xs.getD k 0 = u at *
      generalize hkd : kindI u = d at *
      have Hkd := Lib.hid hkd
      clear hkd
      by_cases h4 : d = 4
      · subst h4
        obtain ⟨e4, u4, u5⟩ := H4.out rfl
        have E4 := Lib.hid e4
        clear e4
        go_wp2_with fail
        refine (C0.out _).mono ?_
        rintro e w1 ⟨rfl, rfl⟩
        go_wp2_with fail
        have r2 := hrow.set k (.int .u8 (u + 32))
        rw [bcells_set, List.set_append_left _ _ (by rw [HL.out]; exact hlt), ← E4.out, HS.out] at r2
        go_roundw
        case rel => exact ⟨k + 1, hkx, by go_num, by rw [← E4.out]; exact r2, hb.setCell (p := ⟨w.heap.size, k, none⟩) (Nat.le_refl _) _⟩
        case measure => simp [intOf]; omega
      · go_wp2_with fail
        refine (C0.out _).mono ?_
        rintro e w1 ⟨rfl, rfl⟩
        go_wp2_with fail
        go_roundw
        case rel => exact ⟨k + 1, hkx, by go_num, by rw [HK.out h4]; exact hrow, hb⟩
        case measure => simp [intOf]; omega
    · have hkn : k = n := by have := Hn.out; omega
      subst hkn
      rw [show xs.take k = xs by rw [List.take_of_length_le (by rw [Hn.out]; exact Nat.le_refl _)], show xs.drop k = [] by rw [List.drop_of_length_le (by rw [Hn.out]; exact Nat.le_refl _)], List.append_nil] at hrow
      have ht := fun c => run_text wr (some ⟨w.heap.size, 0, none⟩) k c (lowW xs) (by rw [lowW_length, Hn.out]) (rowF_bytes hrow)
      go_wp2_with fail
      go_ret
      exact ⟨by rw [EX.out]; rfl, hb⟩
end Go.Proofs.Yteapddoanggniaa

/- The keys of the map of what waits, sorted: the library's contracts of maps.Keys and slices.Sorted, laid by the kit's own command (its plain mode); and what they say in our words. No conditions but those that stand in each lemma. -/
import Derived.Shelf.SlIterI.Nil
import Derived.Shelf.SortM.Plain
import Derived.Shelf.SortM.SortNone
import Derived.Test.YtnllladoipcfkaaDoorDiskRead
import Derived.Test.YtnllladoipcfkaaDoorKeysLaid
namespace Go.Proofs.YtnllladoipcfkaaDoor
open Go.RowKit Go.Maps Go.Shelf Go.Sort

theorem keys_any (mb : Option Nat) (W : World) : Calls Tryd.prog 30 #[.map mb] W fun e w' => e = .returned (.func (.func 44) #[] #[.pointer (some ⟨W.heap.size, 0, none⟩)]) ∧ w' = W.alloc (.cells #[.map mb] 43) :=
  callsIn_wide.1 (AnyZI.keys_in Tryd.keysA Fence.wide 5 trivial rfl mb W)
theorem sorts (m : Nat) : AnyZI.SortsIn Tryd.prog Tryd.sortedA_ren Fence.wide m :=
  ⟨fun blk off cap ss W hH hblk hsz => callsIn_wide.2 (AnyM.slices_Sort_int Tryd.sortA blk off cap ss W hH hblk hsz),
   fun p cap W => callsIn_wide.2 (AnyM.slices_Sort_int_none Tryd.sortA p cap W)⟩
theorem sorted_own (M k g : Nat) (D : DataW Unit) (w : World) (hc : w.cell? ⟨g, 0, none⟩ = some (.map (some M))) (hg : g < w.heap.size) (hown : w.ownsMap Tryd.prog 3 secR M k D) (hk : k ≤ 100000) :
    Calls Tryd.prog 29 #[.func (.func 44) #[] #[.pointer (some ⟨g, 0, none⟩)]] w fun e w' => ∃ (v : Value) (ss : List Int), e = .returned v ∧ ss.Perm (intKeys D) ∧
      w'.ownsRow w.heap.size 3 1 v ss.length ((ss.mergeSort (fun x y => decide (x ≤ y))).map encZ) ∧ (v = .slice none 0 0 ↔ ss = []) ∧ Below w.heap.size w w' := by
  have hsz := hown.size_le
  have hseq : SeqGives Fence.wide 2 Tryd.prog 44 #[.pointer (some ⟨g, 0, none⟩)] encZ (fun ss => ss.Perm (intKeys D)) (Maps.size D) w :=
    AnyZI.keys_gives (ρ := Tryd.keysA_ren) { Tryd.keysA with } Fence.wide _ trivial rfl (by omega) g M k D _ hg hc hown
  have cS := AnyZI.sorted_in Tryd.sortedA Fence.wide 5 trivial trivial trivial trivial rfl (by omega) (sorts _) (enters_of Tryd.func43 (by kernel_rfl) rfl) 44 #[.pointer (some ⟨g, 0, none⟩)] trivial (enters_of Tryd.func44 (by kernel_rfl) rfl) _ _ (by unfold maxLen; omega) (by omega) _ hseq
  exact callsIn_wide.1 cS
/-- The numbers of the sectors that wait, rising. -/
def waitsI (D : DataW Unit) : List Int := (intKeys D).mergeSort (fun x y => decide (x ≤ y))
theorem waits_has {w : World} {M k : Nat} {D : DataW Unit} (hown : w.ownsMap Tryd.prog 3 secR M k D) {x : Int} (hx : x ∈ waitsI D) : has D (.int .i64 x) = true := by
  have h1 : x ∈ intKeys D := (List.mergeSort_perm _ _).mem_iff.1 hx
  obtain ⟨es, rfl, hko⟩ := hown.keysOf
  obtain ⟨p, hp, rfl⟩ := List.mem_map.1 h1
  obtain ⟨v, hv⟩ := hko p hp
  obtain ⟨y, _, hy, _⟩ := Maps.keyOf_i64 Tryd.underlying3 hv
  rw [has_eq, List.any_eq_true]
  exact ⟨p, hp, by rw [hy]; exact same_int y⟩
theorem sorted_any (M k g : Nat) (D : DataW Unit) (w : World) (hc : w.cell? ⟨g, 0, none⟩ = some (.map (some M))) (hg : g < w.heap.size) (hown : w.ownsMap Tryd.prog 3 secR M k D) (hk : k ≤ 100000) :
    Calls Tryd.prog 29 #[.func (.func 44) #[] #[.pointer (some ⟨g, 0, none⟩)]] w fun e w' => ∃ A n c, e = .returned (.slice A n c) ∧ n = (waitsI D).length ∧ n ≤ c ∧ c ≤ maxLen ∧ Src .i64 w' A (waitsI D) ∧ (∀ a, A = some a → w.heap.size ≤ a.block) ∧ Below w.heap.size w w' := by
  refine (sorted_own M k g D w hc hg hown hk).mono ?_
  rintro e w' ⟨v, ss, rfl, hp, hr, hnil, hb⟩
  have hm : ss.mergeSort (fun x y => decide (x ≤ y)) = waitsI D := mergeSort_of_perm_i hp
  have hl : ss.length = (waitsI D).length := by rw [← hm, List.length_mergeSort]
  rw [hm] at hr
  by_cases h0 : ss = []
  · subst h0
    obtain rfl := hnil.2 rfl
    have hw : waitsI D = [] := List.eq_nil_of_length_eq_zero (by rw [← hl]; rfl)
    rw [hw]
    exact ⟨none, 0, 0, rfl, rfl, Nat.le_refl _, by unfold maxLen; omega, Src.none_, fun _ h => (by cases h), hb⟩
  · have hpos : 0 < ss.length := List.length_pos_iff.2 h0
    obtain ⟨g', cap, hv, hge, hlt⟩ := World.ownsRow.form hr hpos
    have hcap : ss.length ≤ cap ∧ cap ≤ maxLen := by
      rcases hr.2 with ⟨_, h2⟩ | ⟨g2, cap2, cur, hv2, _, _, h1, h2, _⟩
      · omega
      · rw [hv] at hv2; injection hv2 with _ _ hc2; subst hc2; exact ⟨h1, h2⟩
    subst hv
    refine ⟨_, _, _, rfl, hl, hcap.1, hcap.2, fun _ => ⟨g', 0, rfl, hlt, fun i hi => ?_⟩, fun a h => (by injection h with h; subst h; exact hge), hb⟩
    have hadd : (⟨g', 0, none⟩ : Addr).add i = ⟨g', 0 + i, none⟩ := by unfold Addr.add; split <;> simp_all
    rw [← hadd]
    refine World.ownsRow.cells hr (g := g') rfl i _ ?_
    rw [List.getElem?_map, List.getD_eq_getElem?_getD, List.getElem?_eq_getElem hi]
    rfl
end Go.Proofs.YtnllladoipcfkaaDoor

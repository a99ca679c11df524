/- What the rows' condition on the two listed tables of utf is worth: their cells are the tables' numbers; and that the heap which the program's own initialisers leave meets it. -/
import Derived.Test.YthifoodhndjmdaaDoorUtfSize
import Derived.LaidMore
import Derived.OpenShut
import Derived.Stop.Joined
namespace Go.Proofs.YthifoodhndjmdaaDoor
namespace Utf
open Go.ChangeShapes Go.WideShapes Go.ChangeAt Go.RowKit

/-- The rows' list. -/
def laid1 : List (String × DataW Unit) := [("shadowbox/utf.lasts", Rows.laid_shadowbox_utf_lasts), ("shadowbox/utf.firstMarks", Rows.laid_shadowbox_utf_firstMarks)]
theorem gLasts : Tryd.prog.globalNamed "shadowbox/utf.lasts" = some 1 := by kernel_rfl
theorem gMarks : Tryd.prog.globalNamed "shadowbox/utf.firstMarks" = some 0 := by kernel_rfl
theorem tLasts : (Tryd.prog.globals[1]?).map (·.type) = some 38 := by kernel_rfl
theorem tMarks : (Tryd.prog.globals[0]?).map (·.type) = some 32 := by kernel_rfl
def lastsL : List Int := [127, 2047, 65535, 1114111]
def marksL : List Int := [0, 192, 224, 240]
theorem lasts_list : (Rows.laid_shadowbox_utf_lasts : DataW Unit) = .agg (lastsL.map fun x => .lit (.int .i32 x)) := by rfl
theorem marks_list : (Rows.laid_shadowbox_utf_firstMarks : DataW Unit) = .agg (marksL.map fun x => .lit (.int .u8 x)) := by rfl

theorem ints_cells {W : World} {name : String} {g n : Nat} {ty e : TypeId} {kd : IntKind} {cs : Array Value} {f : Nat} {p : List MemPlace} {D : DataW Unit} {l : List Int} (hg : Tryd.prog.globalNamed name = some g) (hu : Tryd.prog.underlying ty = some (.array n e)) (he : Tryd.prog.underlying e = some (.int kd)) (c1 : Tryd.prog.cellsOf e = 1)
    (hv : World.var? Tryd.prog W name = some cs) (hd : DataW.trod (fun _ => ()) Tryd.prog W 0 (fun _ => true) false f ty cs.toList = some (D, p)) (hD : D = .agg (l.map fun x => .lit (.int kd x))) (hn : l.length = n) (k : Nat) (hk : k < l.length) : W.cell? ⟨g, k, none⟩ = some (.int kd (l.getD k 0)) := by
  obtain ⟨xs, m, rfl, hx, hlen, hn2, hel⟩ := DataW.trod_array hu hd
  rw [hD] at hx
  simp only [Prod.mk.injEq, DataW.agg.injEq] at hx
  have h1 := hel k (by omega)
  have hkx : k < xs.length := by omega
  rw [List.getElem?_eq_getElem hkx, c1, Nat.mul_one] at h1
  obtain ⟨n', e1, e2, _⟩ := DataW.trod_int he h1
  have e3 := congrArg (fun l => l[k]?) hx.1
  simp only [List.getElem?_map, List.getElem?_eq_getElem hk, Option.map_some, List.getElem?_eq_getElem hkx, e2, Option.some.injEq] at e3
  have hk2 : n' = l.getD k 0 := by
    injection e3 with e3
    injection e3 with _ e3
    rw [List.getD_eq_getElem?_getD, List.getElem?_eq_getElem hk]
    exact e3.symm
  subst hk2
  rw [World.var?_cell hg hv k]
  have e4 : (cs.toList.drop k)[0]? = some (.int kd (l.getD k 0)) := by
    have := congrArg (fun l => l[0]?) e1
    simpa [List.getElem?_take] using this
  rw [List.getElem?_drop, Nat.add_zero] at e4
  simpa using e4
theorem lasts_at (k : Nat) (h : k < 4) : lastsL.getD k 0 = lastI k := by
  rcases (show k = 0 ∨ k = 1 ∨ k = 2 ∨ k = 3 by omega) with rfl | rfl | rfl | rfl <;> rfl
theorem marks_at (k : Nat) (h : k < 4) : marksL.getD k 0 = markI k := by
  rcases (show k = 0 ∨ k = 1 ∨ k = 2 ∨ k = 3 by omega) with rfl | rfl | rfl | rfl <;> rfl
theorem tab_of_laid {W : World} (h : laidMetH Tryd.prog laid1 W) : Tab W := by
  rw [MakeChecks.laidMetH_plain _ _ _ (by kernel_rfl)] at h
  obtain ⟨ps, ⟨g, t, cs, f, p, q, hg, ht, hv, hd, hrest, _⟩, _, _⟩ := h
  obtain ⟨g2, t2, cs2, f2, p2, q2, hg2, ht2, hv2, hd2, _, _⟩ := hrest
  obtain rfl := Option.some.inj (gLasts.symm.trans hg)
  obtain rfl := Option.some.inj (tLasts.symm.trans ht)
  obtain rfl := Option.some.inj (gMarks.symm.trans hg2)
  obtain rfl := Option.some.inj (tMarks.symm.trans ht2)
  have h1 : ∀ k, k < 4 → W.cell? ⟨1, k, none⟩ = some (.int .i32 (lastI k)) := fun k hk => by
    rw [← lasts_at k hk]
    exact ints_cells hg Tryd.underlying38 Tryd.underlying21 (by kernel_rfl) hv hd lasts_list rfl k hk
  have h2 : ∀ k, k < 4 → W.cell? ⟨0, k, none⟩ = some (.int .u8 (markI k)) := fun k hk => by
    rw [← marks_at k hk]
    exact ints_cells hg2 Tryd.underlying32 Tryd.underlying5 (by kernel_rfl) hv2 hd2 marks_list rfl k hk
  refine ⟨⟨World.block_lt_of_cell? W _ (h1 0 (by omega)), World.block_lt_of_cell? W _ (h2 0 (by omega))⟩, fun j v hv' => ?_, h2⟩
  have hj : j < 4 := by
    rcases Nat.lt_or_ge j 4 with h' | h'
    · exact h'
    · rw [Array.getElem?_eq_none (by show 4 ≤ j; exact h')] at hv'; cases hv'
  rw [lastC_at j hj] at hv'
  rw [← hv', Nat.zero_add]
  exact h1 j hj
/-- The door's own heap meets the condition. -/
theorem door_met (os : Os) (args : Array Value) : laidMetH Tryd.prog laid1 ((World.doorLaid Tryd.prog 19 os).forCall (fun _ _ => 0) ⟨#[], args, []⟩).memory :=
  laidMetH_of_parts3 (fuel := 8) (laidMet_of_run' 8 (by kernel_rfl) (by kernel_rfl)) (by kernel_rfl) (by kernel_rfl)
end Utf
end Go.Proofs.YthifoodhndjmdaaDoor

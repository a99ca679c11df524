/- What the rows' condition on the three listed tables (crc's, sha's two) is worth: their cells are the tables' words; and that the heap which the program's own initialisers leave meets it. -/
import Derived.Test.YtnllladoipcfkaaDoorPtrOf
import Derived.LaidMore
import Derived.OpenShut
import Derived.Stop.Joined
namespace Go.Proofs.YtnllladoipcfkaaDoor
open Go.ChangeShapes Go.WideShapes Go.ChangeAt Go.RowKit

/-- The rows' list. -/
def laid1 : List (String × DataW Unit) := [("shadowbox/crc.halves", Rows.laid_shadowbox_crc_halves), ("shadowbox/sha.squareRoots", Rows.laid_shadowbox_sha_squareRoots), ("shadowbox/sha.cubeRoots", Rows.laid_shadowbox_sha_cubeRoots)]
theorem gHalves : Tryd.prog.globalNamed "shadowbox/crc.halves" = some 0 := by kernel_rfl
theorem gSquare : Tryd.prog.globalNamed "shadowbox/sha.squareRoots" = some 1 := by kernel_rfl
theorem gCube : Tryd.prog.globalNamed "shadowbox/sha.cubeRoots" = some 2 := by kernel_rfl
theorem tHalves : (Tryd.prog.globals[0]?).map (·.type) = some 95 := by kernel_rfl
theorem tSquare : (Tryd.prog.globals[1]?).map (·.type) = some 75 := by kernel_rfl
theorem tCube : (Tryd.prog.globals[2]?).map (·.type) = some 73 := by kernel_rfl
theorem halves_list : (Rows.laid_shadowbox_crc_halves : DataW Unit) = .agg (((List.range 16).map tabW).map fun x => .lit (.int .u32 x)) := by rfl
theorem square_list : (Rows.laid_shadowbox_sha_squareRoots : DataW Unit) = .agg ((Sha3.h0W.map Sha3.uv).map fun x => .lit (.int .u32 x)) := by rfl
theorem cube_list : (Rows.laid_shadowbox_sha_cubeRoots : DataW Unit) = .agg ((Sha3.kW.map Sha3.uv).map fun x => .lit (.int .u32 x)) := by rfl

set_option maxRecDepth 100000 in
theorem table_cells {W : World} {name : String} {g n : Nat} {ty : TypeId} {cs : Array Value} {f : Nat} {p : List MemPlace} {D : DataW Unit} {l : List Int} (hg : Tryd.prog.globalNamed name = some g) (hu : Tryd.prog.underlying ty = some (.array n 28))
    (hv : World.var? Tryd.prog W name = some cs) (hd : DataW.trod (fun _ => ()) Tryd.prog W 0 (fun _ => true) false f ty cs.toList = some (D, p)) (hD : D = .agg (l.map fun x => .lit (.int .u32 x))) (hn : l.length = n) (k : Nat) (hk : k < l.length) : W.cell? ⟨g, k, none⟩ = some (.int .u32 (l.getD k 0)) := by
  obtain ⟨xs, m, rfl, hx, hlen, hn2, hel⟩ := DataW.trod_array hu hd
  have c27 : Tryd.prog.cellsOf 28 = 1 := by kernel_rfl
  rw [hD] at hx
  simp only [Prod.mk.injEq, DataW.agg.injEq] at hx
  have h1 := hel k (by omega)
  have hkx : k < xs.length := by omega
  rw [List.getElem?_eq_getElem hkx, c27, Nat.mul_one] at h1
  obtain ⟨n', e1, e2, _⟩ := DataW.trod_int Tryd.underlying28 h1
  have e3 := congrArg (fun l => l[k]?) hx.1
  simp only [List.getElem?_map, List.getElem?_eq_getElem hk, Option.map_some, List.getElem?_eq_getElem hkx, e2, Option.some.injEq] at e3
  have hk2 : n' = l.getD k 0 := by
    injection e3 with e3
    injection e3 with _ e3
    rw [List.getD_eq_getElem?_getD, List.getElem?_eq_getElem hk]
    exact e3.symm
  subst hk2
  rw [World.var?_cell hg hv k]
  have e4 : (cs.toList.drop k)[0]? = some (.int .u32 (l.getD k 0)) := by
    have := congrArg (fun l => l[0]?) e1
    simpa [List.getElem?_take] using this
  rw [List.getElem?_drop, Nat.add_zero] at e4
  simpa using e4
set_option maxRecDepth 100000 in
theorem words_cells {W : World} {g : Nat} {l : List Sha3.Wd} (h : ∀ k, k < (l.map Sha3.uv).length → W.cell? ⟨g, k, none⟩ = some (.int .u32 ((l.map Sha3.uv).getD k 0))) : Sha3.Cells W g 0 (Sha3.wcells l) := fun k v hv => by
  have hk : k < l.length := by
    rcases Nat.lt_or_ge k l.length with h' | h'
    · exact h'
    · rw [Array.getElem?_eq_none (by rw [Sha3.wcells_size]; exact h')] at hv; cases hv
  rw [Sha3.wcells_at l k hk] at hv
  rw [← hv, Nat.zero_add, h k (by rw [List.length_map]; exact hk)]
  simp [List.getD_eq_getElem?_getD, List.getElem?_eq_getElem hk]
set_option maxRecDepth 100000 in
theorem tab_of_laid {W : World} (h : laidMetH Tryd.prog laid1 W) : Tabs W := by
  rw [MakeChecks.laidMetH_plain _ _ _ (by kernel_rfl)] at h
  obtain ⟨ps, ⟨g, t, cs, f, p, q, hg, ht, hv, hd, hrest, _⟩, _, _⟩ := h
  obtain ⟨g2, t2, cs2, f2, p2, q2, hg2, ht2, hv2, hd2, hrest2, _⟩ := hrest
  obtain ⟨g3, t3, cs3, f3, p3, q3, hg3, ht3, hv3, hd3, _, _⟩ := hrest2
  obtain rfl := Option.some.inj (gHalves.symm.trans hg)
  obtain rfl := Option.some.inj (tHalves.symm.trans ht)
  obtain rfl := Option.some.inj (gSquare.symm.trans hg2)
  obtain rfl := Option.some.inj (tSquare.symm.trans ht2)
  obtain rfl := Option.some.inj (gCube.symm.trans hg3)
  obtain rfl := Option.some.inj (tCube.symm.trans ht3)
  have h1 := table_cells hg Tryd.underlying95 hv hd halves_list (by rw [List.length_map, List.length_range])
  have h2 := table_cells hg2 Tryd.underlying75 hv2 hd2 square_list (by rw [List.length_map]; exact Sha3.h0W_length)
  have h3 := table_cells hg3 Tryd.underlying73 hv3 hd3 cube_list (by rw [List.length_map]; exact Sha3.kW_length)
  have c1 : ∀ k, k < 16 → W.cell? ⟨0, k, none⟩ = some (.int .u32 (tabW k)) := fun k hk => by
    rw [h1 k (by rw [List.length_map, List.length_range]; exact hk)]
    simp [List.getD_eq_getElem?_getD, hk]
  have c3 := h3 0 (by rw [List.length_map, Sha3.kW_length]; omega)
  exact ⟨⟨World.block_lt_of_cell? W _ (c1 0 (by omega)), c1⟩, World.block_lt_of_cell? W _ c3, words_cells h2, words_cells h3⟩
/-- The door's own heap meets the condition. -/
theorem door_met (os : Os) (args : Array Value) : laidMetH Tryd.prog laid1 ((World.doorLaid Tryd.prog 24 os).forCall (fun _ _ => 0) ⟨#[], args, []⟩).memory :=
  laidMetH_of_parts3 (fuel := 8) (laidMet_of_run' 8 (by kernel_rfl) (by kernel_rfl)) (by kernel_rfl) (by kernel_rfl)
end Go.Proofs.YtnllladoipcfkaaDoor

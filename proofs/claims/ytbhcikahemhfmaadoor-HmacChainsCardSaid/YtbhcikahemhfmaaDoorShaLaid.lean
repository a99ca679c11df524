/- What the rows' condition on the two listed tables of sha is worth: their cells are the tables' words; and that the heap which the program's own initialisers leave meets it. -/
import Derived.Test.YtbhcikahemhfmaaDoorShaArr
import Derived.LaidMore
import Derived.OpenShut
import Derived.Stop.Joined
namespace Go.Proofs.YtbhcikahemhfmaaDoor.Sha3
open Go.ChangeShapes Go.WideShapes Go.ChangeAt Go.RowKit

/-- The rows' list. -/
def laid1 : List (String × DataW Unit) := [("shadowbox/sha.squareRoots", Rows.laid_shadowbox_sha_squareRoots), ("shadowbox/sha.cubeRoots", Rows.laid_shadowbox_sha_cubeRoots)]
theorem gSquare : Tryd.prog.globalNamed "shadowbox/sha.squareRoots" = some 0 := by kernel_rfl
theorem gCube : Tryd.prog.globalNamed "shadowbox/sha.cubeRoots" = some 1 := by kernel_rfl
theorem tSquare : (Tryd.prog.globals[0]?).map (·.type) = some 38 := by kernel_rfl
theorem tCube : (Tryd.prog.globals[1]?).map (·.type) = some 45 := by kernel_rfl
theorem square_list : (Rows.laid_shadowbox_sha_squareRoots : DataW Unit) = .agg (h0W.map fun x => .lit (.int .u32 (x.toNat : Int))) := by rfl
theorem cube_list : (Rows.laid_shadowbox_sha_cubeRoots : DataW Unit) = .agg (kW.map fun x => .lit (.int .u32 (x.toNat : Int))) := by rfl

theorem table_cells {W : World} {name : String} {g n : Nat} {ty : TypeId} {cs : Array Value} {f : Nat} {p : List MemPlace} {D : DataW Unit} {l : List Wd} (hg : Tryd.prog.globalNamed name = some g) (hu : Tryd.prog.underlying ty = some (.array n 37))
    (hv : World.var? Tryd.prog W name = some cs) (hd : DataW.trod (fun _ => ()) Tryd.prog W 0 (fun _ => true) false f ty cs.toList = some (D, p)) (hD : D = .agg (l.map fun x => .lit (.int .u32 (x.toNat : Int)))) (hn : l.length = n) : Cells W g 0 (wcells l) := by
  obtain ⟨xs, m, rfl, hx, hlen, hn2, hel⟩ := DataW.trod_array hu hd
  have c27 : Tryd.prog.cellsOf 37 = 1 := by kernel_rfl
  rw [hD] at hx
  simp only [Prod.mk.injEq, DataW.agg.injEq] at hx
  intro k v hv'
  have hk : k < l.length := by
    rcases Nat.lt_or_ge k l.length with h' | h'
    · exact h'
    · rw [Array.getElem?_eq_none (by rw [wcells_size]; exact h')] at hv'; cases hv'
  rw [wcells_at l k hk] at hv'
  rw [← hv', Nat.zero_add]
  have h1 := hel k (by omega)
  have hkx : k < xs.length := by omega
  rw [List.getElem?_eq_getElem hkx, c27, Nat.mul_one] at h1
  obtain ⟨n', e1, e2, _⟩ := DataW.trod_int Tryd.underlying37 h1
  have e3 := congrArg (fun l => l[k]?) hx.1
  simp only [List.getElem?_map, List.getElem?_eq_getElem hk, Option.map_some, List.getElem?_eq_getElem hkx, e2, Option.some.injEq] at e3
  have hk2 : n' = uv (l.getD k 0#32) := by
    injection e3 with e3
    injection e3 with _ e3
    rw [List.getD_eq_getElem?_getD, List.getElem?_eq_getElem hk]
    exact e3.symm
  subst hk2
  rw [World.var?_cell hg hv k]
  have e4 : (cs.toList.drop k)[0]? = some (.int .u32 (uv (l.getD k 0#32))) := by
    have := congrArg (fun l => l[0]?) e1
    simpa [List.getElem?_take] using this
  rw [List.getElem?_drop, Nat.add_zero] at e4
  simpa using e4
theorem tab_of_laid {W : World} (h : laidMetH Tryd.prog laid1 W) : Tab W h0W kW := by
  rw [MakeChecks.laidMetH_plain _ _ _ (by kernel_rfl)] at h
  obtain ⟨ps, ⟨g, t, cs, f, p, q, hg, ht, hv, hd, hrest, _⟩, _, _⟩ := h
  obtain ⟨g2, t2, cs2, f2, p2, q2, hg2, ht2, hv2, hd2, _, _⟩ := hrest
  obtain rfl := Option.some.inj (gSquare.symm.trans hg)
  obtain rfl := Option.some.inj (tSquare.symm.trans ht)
  obtain rfl := Option.some.inj (gCube.symm.trans hg2)
  obtain rfl := Option.some.inj (tCube.symm.trans ht2)
  have h1 := table_cells hg Tryd.underlying38 hv hd square_list h0W_length
  have h2 := table_cells hg2 Tryd.underlying45 hv2 hd2 cube_list kW_length
  refine ⟨?_, h1, h2⟩
  have := h2 0 _ (wcells_at kW 0 (by rw [kW_length]; omega))
  exact World.block_lt_of_cell? W _ this
/-- What a walk is told of the listed tables. -/
def Tabs (w : World) : Prop := Tab w h0W kW
/-- The door's own heap meets the condition. -/
theorem door_met (os : Os) (args : Array Value) : laidMetH Tryd.prog laid1 ((World.doorLaid Tryd.prog 19 os).forCall (fun _ _ => 0) ⟨#[], args, []⟩).memory :=
  laidMetH_of_parts3 (fuel := 8) (laidMet_of_run' 8 (by kernel_rfl) (by kernel_rfl)) (by kernel_rfl) (by kernel_rfl)
end Go.Proofs.YtbhcikahemhfmaaDoor.Sha3

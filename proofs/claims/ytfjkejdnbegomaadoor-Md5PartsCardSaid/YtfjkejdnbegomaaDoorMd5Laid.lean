/- What the rows' condition on the three listed tables of md5 is worth: their cells are the tables' words, and the turns; and that the heap which the program's own initialisers leave meets it. -/
import Derived.Test.YtfjkejdnbegomaaDoorMd5Arr
import Derived.LaidMore
import Derived.OpenShut
import Derived.Stop.Joined
namespace Go.Proofs.YtfjkejdnbegomaaDoor.Md5
open Go.ChangeShapes Go.WideShapes Go.ChangeAt Go.RowKit

/-- The rows' list. -/
def laid1 : List (String × DataW Unit) := [("shadowbox/md5.first", Rows.laid_shadowbox_md5_first), ("shadowbox/md5.sines", Rows.laid_shadowbox_md5_sines), ("shadowbox/md5.turns", Rows.laid_shadowbox_md5_turns)]
theorem gFirst : Tryd.prog.globalNamed "shadowbox/md5.first" = some 0 := by kernel_rfl
theorem gSines : Tryd.prog.globalNamed "shadowbox/md5.sines" = some 1 := by kernel_rfl
theorem gTurns : Tryd.prog.globalNamed "shadowbox/md5.turns" = some 2 := by kernel_rfl
theorem tFirst : (Tryd.prog.globals[0]?).map (·.type) = some 28 := by kernel_rfl
theorem tSines : (Tryd.prog.globals[1]?).map (·.type) = some 45 := by kernel_rfl
theorem tTurns : (Tryd.prog.globals[2]?).map (·.type) = some 55 := by kernel_rfl
theorem first_list : (Rows.laid_shadowbox_md5_first : DataW Unit) = .agg (h0W.map fun x => .lit (.int .u32 (x.toNat : Int))) := by rfl
theorem sines_list : (Rows.laid_shadowbox_md5_sines : DataW Unit) = .agg (kW.map fun x => .lit (.int .u32 (x.toNat : Int))) := by rfl
theorem turns_list : (Rows.laid_shadowbox_md5_turns : DataW Unit) = .agg ((List.range 4).map fun a => .agg ((List.range 4).map fun b => .lit (.int .i64 (turnN (a * 4 + b) : Int)))) := by rfl

theorem table_cells {W : World} {name : String} {g n : Nat} {ty : TypeId} {cs : Array Value} {f : Nat} {p : List MemPlace} {D : DataW Unit} {l : List Wd} (hg : Tryd.prog.globalNamed name = some g) (hu : Tryd.prog.underlying ty = some (.array n 27))
    (hv : World.var? Tryd.prog W name = some cs) (hd : DataW.trod (fun _ => ()) Tryd.prog W 0 (fun _ => true) false f ty cs.toList = some (D, p)) (hD : D = .agg (l.map fun x => .lit (.int .u32 (x.toNat : Int)))) (hn : l.length = n) : Cells W g 0 (wcells l) := by
  obtain ⟨xs, m, rfl, hx, hlen, hn2, hel⟩ := DataW.trod_array hu hd
  have c27 : Tryd.prog.cellsOf 27 = 1 := by kernel_rfl
  rw [hD] at hx
  simp only [Prod.mk.injEq, DataW.agg.injEq] at hx
  intro k v hv'
  have hk : k < l.length := by
    rcases Nat.lt_or_ge k l.length with h' | h'
    · exact h'
    · rw [Array.getElem?_eq_none (by rw [wcells_size]; exact h')] at hv'; cases hv'
  rw [wcells_at l k hk] at hv'
  rw [← hv', Nat.zero_add]
  have h1 := hel k (by omega)
  have hkx : k < xs.length := by omega
  rw [List.getElem?_eq_getElem hkx, c27, Nat.mul_one] at h1
  obtain ⟨n', e1, e2, _⟩ := DataW.trod_int Tryd.underlying27 h1
  have e3 := congrArg (fun l => l[k]?) hx.1
  simp only [List.getElem?_map, List.getElem?_eq_getElem hk, Option.map_some, List.getElem?_eq_getElem hkx, e2, Option.some.injEq] at e3
  have hk2 : n' = uv (l.getD k 0#32) := by
    injection e3 with e3
    injection e3 with _ e3
    rw [List.getD_eq_getElem?_getD, List.getElem?_eq_getElem hk]
    exact e3.symm
  subst hk2
  rw [World.var?_cell hg hv k]
  have e4 : (cs.toList.drop k)[0]? = some (.int .u32 (uv (l.getD k 0#32))) := by
    have := congrArg (fun l => l[0]?) e1
    simpa [List.getElem?_take] using this
  rw [List.getElem?_drop, Nat.add_zero] at e4
  simpa using e4
theorem turns_cells {W : World} {name : String} {g : Nat} {cs : Array Value} {f : Nat} {p : List MemPlace} {D : DataW Unit} (hg : Tryd.prog.globalNamed name = some g)
    (hv : World.var? Tryd.prog W name = some cs) (hd : DataW.trod (fun _ => ()) Tryd.prog W 0 (fun _ => true) false f 55 cs.toList = some (D, p)) (hD : D = .agg ((List.range 4).map fun a => .agg ((List.range 4).map fun b => .lit (.int .i64 (turnN (a * 4 + b) : Int))))) (j : Nat) (hj : j < 16) :
    W.cell? ⟨g, j, none⟩ = some (.int .i64 (turnN j)) := by
  obtain ⟨xs, m, rfl, hx, hlen, hn2, hel⟩ := DataW.trod_array Tryd.underlying55 hd
  have c54 : Tryd.prog.cellsOf 54 = 4 := by kernel_rfl
  have c3 : Tryd.prog.cellsOf 3 = 1 := by kernel_rfl
  rw [hD] at hx
  simp only [Prod.mk.injEq, DataW.agg.injEq] at hx
  obtain ⟨a, ha⟩ : ∃ a, j / 4 = a := ⟨_, rfl⟩
  obtain ⟨b, hb⟩ : ∃ b, j % 4 = b := ⟨_, rfl⟩
  have hab : a * 4 + b = j := by omega
  have ha4 : a < 4 := by omega
  have hb4 : b < 4 := by omega
  have h1 := hel a ha4
  have hax : a < xs.length := by omega
  rw [List.getElem?_eq_getElem hax, c54] at h1
  have e3 := congrArg (fun l => l[a]?) hx.1
  simp only [List.getElem?_map, List.getElem?_range ha4, Option.map_some, List.getElem?_eq_getElem hax, Option.some.injEq] at e3
  generalize xs[a] = y at h1 e3
  obtain ⟨D1, p1⟩ := y
  obtain ⟨ys, m2, rfl, hy, hlen2, hn3, hel2⟩ := DataW.trod_array Tryd.underlying54 h1
  simp only [Prod.mk.injEq] at hy
  rw [hy.1] at e3
  simp only [DataW.agg.injEq] at e3
  have h2 := hel2 b hb4
  have hbx : b < ys.length := by omega
  rw [List.getElem?_eq_getElem hbx, c3, Nat.mul_one] at h2
  obtain ⟨n', e1, e2, _⟩ := DataW.trod_int Tryd.underlying3 h2
  have e5 := congrArg (fun l => l[b]?) e3
  simp only [List.getElem?_map, List.getElem?_range hb4, Option.map_some, List.getElem?_eq_getElem hbx, e2, Option.some.injEq] at e5
  have hk2 : n' = (turnN j : Int) := by
    injection e5 with e5
    injection e5 with _ e5
    rw [← hab]
    exact e5.symm
  subst hk2
  rw [World.var?_cell hg hv j]
  have e4 := congrArg (fun l => l[0]?) e1
  simp only [List.getElem?_take, List.getElem?_drop, Nat.add_zero] at e4
  rw [if_pos (by omega), if_pos hb4, show a * 4 + b = j from hab] at e4
  simpa using e4
theorem tab_of_laid {W : World} (h : laidMetH Tryd.prog laid1 W) : Tab W h0W kW := by
  rw [MakeChecks.laidMetH_plain _ _ _ (by kernel_rfl)] at h
  obtain ⟨ps, ⟨g, t, cs, f, p, q, hg, ht, hv, hd, hrest, _⟩, _, _⟩ := h
  obtain ⟨g2, t2, cs2, f2, p2, q2, hg2, ht2, hv2, hd2, hrest2, _⟩ := hrest
  obtain ⟨g3, t3, cs3, f3, p3, q3, hg3, ht3, hv3, hd3, _, _⟩ := hrest2
  obtain rfl := Option.some.inj (gFirst.symm.trans hg)
  obtain rfl := Option.some.inj (tFirst.symm.trans ht)
  obtain rfl := Option.some.inj (gSines.symm.trans hg2)
  obtain rfl := Option.some.inj (tSines.symm.trans ht2)
  obtain rfl := Option.some.inj (gTurns.symm.trans hg3)
  obtain rfl := Option.some.inj (tTurns.symm.trans ht3)
  have h1 := table_cells hg Tryd.underlying28 hv hd first_list h0W_length
  have h2 := table_cells hg2 Tryd.underlying45 hv2 hd2 sines_list kW_length
  have h3 := fun j hj => turns_cells hg3 hv3 hd3 turns_list j hj
  exact ⟨World.block_lt_of_cell? W _ (h3 0 (by omega)), h1, h2, h3⟩
/-- What a walk is told of the listed tables. -/
def Tabs (w : World) : Prop := Tab w h0W kW
/-- The door's own heap meets the condition. -/
theorem door_met (os : Os) (args : Array Value) : laidMetH Tryd.prog laid1 ((World.doorLaid Tryd.prog 28 os).forCall (fun _ _ => 0) ⟨#[], args, []⟩).memory :=
  laidMetH_of_parts3 (fuel := 8) (laidMet_of_run' 8 (by kernel_rfl) (by kernel_rfl)) (by kernel_rfl) (by kernel_rfl)
end Go.Proofs.YtfjkejdnbegomaaDoor.Md5

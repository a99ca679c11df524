/- What the rows' condition on the six listed tables is worth: their cells are the tables' numbers and texts; and that the heap which the program's own initialisers leave meets it. -/
import Derived.Test.YtfbgcjpakahocaaDoorClkSmall
import Derived.LaidMore
import Derived.OpenShut
import Derived.Stop.Joined
import Derived.Lib.LaidTab
namespace Go.Proofs.YtfbgcjpakahocaaDoor
namespace Clk
open Go.ChangeShapes Go.WideShapes Go.ChangeAt Go.RowKit

/-- The rows' list. -/
def laid1 : List (String × DataW Unit) := [("math/bits.deBruijn32tab", Rows.laid_math_bits_deBruijn32tab), ("math/bits.deBruijn64tab", Rows.laid_math_bits_deBruijn64tab), ("internal/strconv.uint64pow10", Rows.laid_internal_strconv_uint64pow10), ("shadowbox/clock.monthDays", Rows.laid_shadowbox_clock_monthDays), ("shadowbox/clock.monthNames", Rows.laid_shadowbox_clock_monthNames), ("shadowbox/clock.weekdayNames", Rows.laid_shadowbox_clock_weekdayNames)]
theorem gPow : Tryd.prog.globalNamed "internal/strconv.uint64pow10" = some 4 := by kernel_rfl
theorem tPow : (Tryd.prog.globals[4]?).map (·.type) = some 94 := by kernel_rfl
theorem gDays : Tryd.prog.globalNamed "shadowbox/clock.monthDays" = some 2 := by kernel_rfl
theorem tDays : (Tryd.prog.globals[2]?).map (·.type) = some 52 := by kernel_rfl
theorem gMons : Tryd.prog.globalNamed "shadowbox/clock.monthNames" = some 1 := by kernel_rfl
theorem tMons : (Tryd.prog.globals[1]?).map (·.type) = some 50 := by kernel_rfl
theorem gWds : Tryd.prog.globalNamed "shadowbox/clock.weekdayNames" = some 0 := by kernel_rfl
theorem tWds : (Tryd.prog.globals[0]?).map (·.type) = some 48 := by kernel_rfl
theorem pow_list : (Rows.laid_internal_strconv_uint64pow10 : DataW Unit) = Lib.tabData .u64 Lib.pow10Tab := by rfl
def daysL : List Int := (List.range 12).map mdN
def bytesOf (l : List Int) : List UInt8 := l.map fun n => UInt8.ofNat n.toNat
def monsL : List (List UInt8) := (List.range 12).map fun k => bytesOf (moN k)
def wdsL : List (List UInt8) := (List.range 7).map fun k => bytesOf (wdN k)
theorem days_list : (Rows.laid_shadowbox_clock_monthDays : DataW Unit) = .agg (daysL.map fun x => .lit (.int .i64 x)) := by rfl
theorem mons_list : (Rows.laid_shadowbox_clock_monthNames : DataW Unit) = .agg (monsL.map fun x => .lit (.string x)) := by rfl
theorem wds_list : (Rows.laid_shadowbox_clock_weekdayNames : DataW Unit) = .agg (wdsL.map fun x => .lit (.string x)) := by rfl

theorem ints_cells {W : World} {name : String} {g n : Nat} {ty e : TypeId} {kd : IntKind} {cs : Array Value} {f : Nat} {p : List MemPlace} {D : DataW Unit} {l : List Int} (hg : Tryd.prog.globalNamed name = some g) (hu : Tryd.prog.underlying ty = some (.array n e)) (he : Tryd.prog.underlying e = some (.int kd)) (c1 : Tryd.prog.cellsOf e = 1)
    (hv : World.var? Tryd.prog W name = some cs) (hd : DataW.trod (fun _ => ()) Tryd.prog W 0 (fun _ => true) false f ty cs.toList = some (D, p)) (hD : D = .agg (l.map fun x => .lit (.int kd x))) (hn : l.length = n) (k : Nat) (hk : k < l.length) : W.cell? ⟨g, k, none⟩ = some (.int kd (l.getD k 0)) := by
  obtain ⟨xs, m, rfl, hx, hlen, hn2, hel⟩ := DataW.trod_array hu hd
  rw [hD] at hx
  simp only [Prod.mk.injEq, DataW.agg.injEq] at hx
  have h1 := hel k (by omega)
  have hkx : k < xs.length := by omega
  rw [List.getElem?_eq_getElem hkx, c1, Nat.mul_one] at h1
  obtain ⟨n', e1, e2, _⟩ := DataW.trod_int he h1
  have e3 := congrArg (fun l => l[k]?) hx.1
  simp only [List.getElem?_map, List.getElem?_eq_getElem hk, Option.map_some, List.getElem?_eq_getElem hkx, e2, Option.some.injEq] at e3
  have hk2 : n' = l.getD k 0 := by
    injection e3 with e3
    injection e3 with _ e3
    rw [List.getD_eq_getElem?_getD, List.getElem?_eq_getElem hk]
    exact e3.symm
  subst hk2
  rw [World.var?_cell hg hv k]
  have e4 : (cs.toList.drop k)[0]? = some (.int kd (l.getD k 0)) := by
    have := congrArg (fun l => l[0]?) e1
    simpa [List.getElem?_take] using this
  rw [List.getElem?_drop, Nat.add_zero] at e4
  simpa using e4
theorem strs_cells {W : World} {name : String} {g n : Nat} {ty e : TypeId} {cs : Array Value} {f : Nat} {p : List MemPlace} {D : DataW Unit} {l : List (List UInt8)} (hg : Tryd.prog.globalNamed name = some g) (hu : Tryd.prog.underlying ty = some (.array n e)) (he : Tryd.prog.underlying e = some .string) (c1 : Tryd.prog.cellsOf e = 1)
    (hv : World.var? Tryd.prog W name = some cs) (hd : DataW.trod (fun _ => ()) Tryd.prog W 0 (fun _ => true) false f ty cs.toList = some (D, p)) (hD : D = .agg (l.map fun x => .lit (.string x))) (hn : l.length = n) (k : Nat) (hk : k < l.length) : W.cell? ⟨g, k, none⟩ = some (.string ⟨(l.getD k []).toArray⟩) := by
  obtain ⟨xs, m, rfl, hx, hlen, hn2, hel⟩ := DataW.trod_array hu hd
  rw [hD] at hx
  simp only [Prod.mk.injEq, DataW.agg.injEq] at hx
  have h1 := hel k (by omega)
  have hkx : k < xs.length := by omega
  rw [List.getElem?_eq_getElem hkx, c1, Nat.mul_one] at h1
  obtain ⟨s, e1, e2, _⟩ := DataW.trod_string he h1
  have e3 := congrArg (fun l => l[k]?) hx.1
  simp only [List.getElem?_map, List.getElem?_eq_getElem hk, Option.map_some, List.getElem?_eq_getElem hkx, e2, Option.some.injEq] at e3
  have hk2 : s.data.toList = l.getD k [] := by
    injection e3 with e3
    injection e3 with e3
    rw [List.getD_eq_getElem?_getD, List.getElem?_eq_getElem hk]
    exact e3.symm
  have hs : s = ⟨(l.getD k []).toArray⟩ := by
    rw [← hk2]
  subst hs
  rw [World.var?_cell hg hv k]
  have e4 : (cs.toList.drop k)[0]? = some (.string ⟨(l.getD k []).toArray⟩) := by
    have := congrArg (fun l => l[0]?) e1
    simpa [List.getElem?_take] using this
  rw [List.getElem?_drop, Nat.add_zero] at e4
  simpa using e4
theorem ldays_at (k : Nat) (h : k < 12) : daysL.getD k 0 = mdN k := by simp [daysL, List.getD_eq_getElem?_getD, h]
theorem lmons_at (k : Nat) (h : k < 12) : (⟨(monsL.getD k []).toArray⟩ : ByteArray) = strOfNums (moN k) := by
  simp [monsL, List.getD_eq_getElem?_getD, h, bytesOf, strOfNums]
theorem lwds_at (k : Nat) (h : k < 7) : (⟨(wdsL.getD k []).toArray⟩ : ByteArray) = strOfNums (wdN k) := by
  simp [wdsL, List.getD_eq_getElem?_getD, h, bytesOf, strOfNums]
theorem tab_of_laid {W : World} (h : laidMetH Tryd.prog laid1 W) : Tabs W := by
  rw [MakeChecks.laidMetH_plain _ _ _ (by kernel_rfl)] at h
  obtain ⟨ps, ⟨_, _, _, _, _, _, _, _, _, _, hrest, _⟩, _, _⟩ := h
  obtain ⟨_, _, _, _, _, _, _, _, _, _, hrest2, _⟩ := hrest
  obtain ⟨g, t, cs, f, p, q, hg, ht, hv, hd, hrest3, _⟩ := hrest2
  obtain ⟨g3, t3, cs3, f3, p3, q3, hg3, ht3, hv3, hd3, hrest4, _⟩ := hrest3
  obtain ⟨g4, t4, cs4, f4, p4, q4, hg4, ht4, hv4, hd4, hrest5, _⟩ := hrest4
  obtain ⟨g5, t5, cs5, f5, p5, q5, hg5, ht5, hv5, hd5, _, _⟩ := hrest5
  obtain rfl := Option.some.inj (gPow.symm.trans hg)
  obtain rfl := Option.some.inj (tPow.symm.trans ht)
  obtain rfl := Option.some.inj (gDays.symm.trans hg3)
  obtain rfl := Option.some.inj (tDays.symm.trans ht3)
  obtain rfl := Option.some.inj (gMons.symm.trans hg4)
  obtain rfl := Option.some.inj (tMons.symm.trans ht4)
  obtain rfl := Option.some.inj (gWds.symm.trans hg5)
  obtain rfl := Option.some.inj (tWds.symm.trans ht5)
  have h0 : Tab W := by
    rw [pow_list] at hd
    have hc := Lib.cells_of_tab Tryd.underlying94 Tryd.underlying79 (by kernel_rfl) (by kernel_rfl) hd
    unfold Tab Lib.TabIs
    rw [hv, ← hc]
  have h1 : ∀ k, k < 12 → W.cell? ⟨2, k, none⟩ = some (.int .i64 (mdN k)) := fun k hk => by
    rw [← ldays_at k hk]
    exact ints_cells hg3 Tryd.underlying52 Tryd.underlying3 (by kernel_rfl) hv3 hd3 days_list rfl k hk
  have h2 : ∀ k, k < 12 → W.cell? ⟨1, k, none⟩ = some (.string (strOfNums (moN k))) := fun k hk => by
    rw [← lmons_at k hk]
    exact strs_cells hg4 Tryd.underlying50 Tryd.underlying9 (by kernel_rfl) hv4 hd4 mons_list rfl k hk
  have h3 : ∀ k, k < 7 → W.cell? ⟨0, k, none⟩ = some (.string (strOfNums (wdN k))) := fun k hk => by
    rw [← lwds_at k hk]
    exact strs_cells hg5 Tryd.underlying48 Tryd.underlying9 (by kernel_rfl) hv5 hd5 wds_list rfl k hk
  exact ⟨h0, World.block_lt_of_cell? W _ (h1 0 (by omega)), World.block_lt_of_cell? W _ (h2 0 (by omega)), World.block_lt_of_cell? W _ (h3 0 (by omega)), h1, fun j v hv' => by
    have hj : j < 12 := by
      rcases Nat.lt_or_ge j 12 with h' | h'
      · exact h'
      · rw [Array.getElem?_eq_none (by show 12 ≤ j; exact h')] at hv'; cases hv'
    rw [moC_at j hj] at hv'
    rw [← hv', Nat.zero_add]
    exact h2 j hj, h3⟩
/-- The door's own heap meets the condition. -/
theorem door_met (os : Os) (args : Array Value) : laidMetH Tryd.prog laid1 ((World.doorLaid Tryd.prog 39 os).forCall (fun _ _ => 0) ⟨#[], args, []⟩).memory :=
  laidMetH_of_parts3 (fuel := 8) (laidMet_of_run' 8 (by kernel_rfl) (by kernel_rfl)) (by kernel_rfl) (by kernel_rfl)
end Clk
end Go.Proofs.YtfbgcjpakahocaaDoor

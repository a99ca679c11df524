/- What the rows' condition on the listed table is worth: its cells are the table's numbers; and that the heap which the program's own initialisers leave meets it. -/
import Derived.Test.YtcolicmefehcnaaDoorHalf
import Derived.LaidMore
import Derived.OpenShut
import Derived.Stop.Joined
namespace Go.Proofs.YtcolicmefehcnaaDoor
open Go.ChangeShapes Go.WideShapes Go.ChangeAt Go.RowKit

/-- The rows' list. -/
def laid1 : List (String × DataW Unit) := [("shadowbox/crc.halves", Rows.laid_shadowbox_crc_halves)]
theorem gHalves : Tryd.prog.globalNamed "shadowbox/crc.halves" = some 0 := by kernel_rfl
theorem tHalves : (Tryd.prog.globals[0]?).map (·.type) = some 78 := by kernel_rfl
theorem halves_list : (Rows.laid_shadowbox_crc_halves : DataW Unit) = .agg ((List.range 16).map fun k => .lit (.int .u32 (tabW k))) := by rfl

theorem tab_of_laid {W : World} (h : laidMetH Tryd.prog laid1 W) : Tab W := by
  rw [MakeChecks.laidMetH_plain _ _ _ (by kernel_rfl)] at h
  obtain ⟨ps, ⟨g, t, cs, f, p, q, hg, ht, hv, hd, _, _⟩, _, _⟩ := h
  obtain rfl := Option.some.inj (gHalves.symm.trans hg)
  obtain rfl := Option.some.inj (tHalves.symm.trans ht)
  obtain ⟨xs, m, rfl, hx, hlen, hn, hel⟩ := DataW.trod_array Tryd.underlying78 hd
  have c23 : Tryd.prog.cellsOf 22 = 1 := by kernel_rfl
  rw [halves_list] at hx
  simp only [Prod.mk.injEq, DataW.agg.injEq] at hx
  have hcell : ∀ k, k < 16 → W.cell? ⟨0, k, none⟩ = some (.int .u32 (tabW k)) := by
    intro k hk
    have h1 := hel k hk
    have hkx : k < xs.length := by omega
    rw [List.getElem?_eq_getElem hkx, c23, Nat.mul_one] at h1
    obtain ⟨n, e1, e2, _⟩ := DataW.trod_int Tryd.underlying22 h1
    have e3 := congrArg (fun l => l[k]?) hx.1
    simp only [List.getElem?_map, List.getElem?_range hk, Option.map_some, List.getElem?_eq_getElem hkx, e2, Option.some.injEq] at e3
    have hk2 : n = tabW k := by injection e3 with e3; injection e3 with _ e3; exact e3.symm
    subst hk2
    rw [World.var?_cell hg hv k]
    have e4 : (cs.toList.drop k)[0]? = some (.int .u32 (tabW k)) := by
      have := congrArg (fun l => l[0]?) e1
      simpa [List.getElem?_take] using this
    rw [List.getElem?_drop, Nat.add_zero] at e4
    simpa using e4
  exact ⟨World.block_lt_of_cell? W _ (hcell 0 (by omega)), hcell⟩

/-- The door's own heap meets the condition. -/
theorem door_met (os : Os) (args : Array Value) : laidMetH Tryd.prog laid1 ((World.doorLaid Tryd.prog 14 os).forCall (fun _ _ => 0) ⟨#[], args, []⟩).memory :=
  laidMetH_of_parts3 (fuel := 8) (laidMet_of_run' 8 (by kernel_rfl) (by kernel_rfl)) (by kernel_rfl) (by kernel_rfl)
end Go.Proofs.YtcolicmefehcnaaDoor

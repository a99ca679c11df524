/- The document's Of: any bytes (at most 1000000) have their pointer: as the program's. -/
import Derived.Test.YtnllladoipcfkaaDoorPtrOf
import Derived.Test.YtnllladoipcfkaaDoorCrcRef
import Derived.Test.YtnllladoipcfkaaDoorShaRefSum
namespace Go.Proofs.YtnllladoipcfkaaDoor
open Go.RowKit

theorem refCrc_any (A : Option Addr) (n c : Nat) (xs : List Int) (w : World) (hn : n = xs.length) (hs : Src .u8 w A xs) (hx : IsBytes xs) (hl : n ≤ 1000000) :
    Calls Tryd.prog 22 #[.int .u32 0, .slice A n c] w fun e w' => e = .returned (.int .u32 (crcS xs)) ∧ Below w.heap.size w w' :=
  (refGo_any 0#32 A n c xs w hn hs hx hl).mono fun e w' ⟨he, hw⟩ => by subst hw; exact ⟨he, Below.refl _ _⟩
theorem refSha_any (A : Option Addr) (n c : Nat) (xs : List Int) (w : World) (hn : n = xs.length) (hs : Src .u8 w A xs) (hx : IsBytes xs) (hnc : n ≤ c) (hc : c ≤ 9223372036854775807) :
    Calls Tryd.prog 23 #[.slice A n c] w fun e w' => e = .returned (.agg (bcells (shaS xs))) ∧ Below w.heap.size w w' := Sha3.rsum_any Sha3.h0W Sha3.kW A n c xs w Sha3.keys_any Sha3.rbegin_any Sha3.h0W_length Sha3.kW_length hn hs hx hnc hc
theorem Tryd.resultsRefOf : Tryd.f8.results = #[.cell 6 31] := by kernel_rfl
set_option maxHeartbeats 1000000 in
theorem refOf_any (place birth : Int) (A : Option Addr) (n c : Nat) (xs : List Int) (w : World) (hn : n = xs.length) (hs : Src .u8 w A xs) (hx : IsBytes xs) (hl : n ≤ 1000000) (hnc : n ≤ c) (hc : c ≤ 9223372036854775807) :
    Calls Tryd.prog 8 #[.int .i64 place, .int .i64 birth, .slice A n c] w fun e w' => e = .returned (.agg (pcells (ofP place birth xs))) ∧ Below w.heap.size w w' := by
  have HE := Lib.hid (show ofP place birth xs = ⟨place, birth, (n : Int), crcS xs, shaS xs⟩ by rw [hn]; rfl)
  have HB := Lib.hid (built_of place birth (n : Int) (crcS xs) (shaS xs) (shaS_length xs))
  have HL := Lib.hid (shaS_length xs)
  have HC := Lib.hid (fun w' (hb : Below w.heap.size w w') => refCrc_any A n c xs w' hn (hs.keep hb) hx hl)
  have HS := Lib.hid (fun w' (hb : Below w.heap.size w w') => refSha_any A n c xs w' hn (hs.keep hb) hx hnc hc)
  have r1 := zeroP_row w
  have b1 := zeroP_below w
  rw [HE.out]
  clear hn hs hx hl hnc hc HE
  obtain ⟨ps, hps⟩ : ∃ ps, ps = pcells ⟨place, birth, (n : Int), crcS xs, shaS xs⟩ := ⟨_, rfl⟩
  have HS1 : Hid ((Tryd.prog.info? 31).map (·.size) = some ps.size) := Lib.hid (by rw [hps]; exact pt_size HL.out)
  have HS2 : Hid ((pcells Pt.zero).size = ps.size) := Lib.hid (by rw [hps, pcells_size, pcells_size]; show (32 : Nat) + 4 = (shaS xs).length + 4; rw [HL.out])
  have HS3 : Hid (ps.all (·.oneCell') = true) := Lib.hid (by rw [hps]; exact pcells_one _)
  rw [← hps] at HB ⊢
  clear hps HL
  generalize crcS xs = d at *
  generalize shaS xs = ss at *
  go_enter Tryd.func8, Tryd.ntmps8
  go_wp2_with fail
  refine (HC.out _ b1).mono ?_
  rintro e w1 ⟨rfl, hb1⟩
  have r2 := r1.keep hb1
  have b2 := b1.trans (hb1.mono b1.size)
  clear r1 b1 hb1 HC
  go_wp2_with fail
  refine (HS.out _ b2).mono ?_
  rintro e w2 ⟨rfl, hb2⟩
  have r3 := r2.keep hb2
  have b3 := b2.trans (hb2.mono b2.size)
  clear r2 b2 hb2 HS
  go_wp2_with (first
    | (refine wpList_build_eq rfl 31 #[(0, .tmp 7), (1, .tmp 8), (2, .tmp 10), (3, .tmp 12), (4, .tmp 14)] rfl [(0, .int .i64 place), (1, .int .i64 birth), (2, .int .i64 (n : Int)), (3, .int .u32 d), (4, .agg (bcells ss))] (by simp; exact ⟨rfl, rfl, rfl, rfl, rfl⟩) ps HB.out ?_)
    | (refine wpList_store_row rfl 31 (.tmp 6) (.tmp 15) rfl w.heap.size ps rfl rfl 31 (pcells Pt.zero) r3 HS1.out HS2.out HS3.out ?_))
  refine bodyPost_ret (v := .agg ps) ?_ rfl ?_
  · exact results_cell_row Tryd.resultsRefOf _ _ w.heap.size 31 ps (0, 0) _ rfl (r3.setRow ps) Tryd.underlying31 rfl HS1.out
  · exact ⟨rfl, below_setRow b3 (Nat.le_refl _) _⟩
end Go.Proofs.YtnllladoipcfkaaDoor

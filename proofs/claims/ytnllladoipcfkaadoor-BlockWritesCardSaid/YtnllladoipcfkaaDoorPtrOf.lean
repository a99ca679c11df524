/- Of, the program's and the document's: any bytes (at most 1000000) have their pointer; nothing that was there is written. -/
import Derived.Test.YtnllladoipcfkaaDoorPtr
import Derived.Test.YtnllladoipcfkaaDoorGo
import Derived.Test.YtnllladoipcfkaaDoorShaSum
import Derived.Test.YtnllladoipcfkaaDoorShaWords
namespace Go.Proofs.YtnllladoipcfkaaDoor
open Go.RowKit

/-- The program's three tables lie where they were laid. -/
def Tabs (w : World) : Prop := Tab w ∧ Sha3.Tab w Sha3.h0W Sha3.kW
theorem Tabs.keep {w w' : World} (h : Tabs w) (hb : Below w.heap.size w w') : Tabs w' := ⟨h.1.keep hb, h.2.keep hb⟩
/-- The sum SHA-256. -/
def shaS (xs : List Int) : List Int := Sha3.sumW Sha3.kW Sha3.h0W xs
theorem shaS_length (xs : List Int) : (shaS xs).length = 32 := Sha3.sumW_length _ _ _
theorem laidW_bytes (hs : List Sha3.Wd) : IsBytes (Sha3.laidW hs) := fun x hx => by
  obtain ⟨i, _, rfl⟩ := List.mem_map.1 hx
  unfold Sha3.byteAt
  omega
theorem shaS_bytes (xs : List Int) : IsBytes (shaS xs) := by
  unfold shaS Sha3.sumW Sha3.endW
  split <;> exact laidW_bytes _
/-- The sum CRC-32C. -/
def crcS (xs : List Int) : Int := uv (goW 0#32 xs)
theorem crcS_lo (xs : List Int) : 0 ≤ crcS xs := uv_lo _
theorem crcS_hi (xs : List Int) : crcS xs < 4294967296 := uv_hi _
/-- The pointer of bytes. -/
def ofP (place birth : Int) (xs : List Int) : Pt := ⟨place, birth, (xs.length : Int), crcS xs, shaS xs⟩
theorem ofP_ok {place birth : Int} {xs : List Int} (h1 : -9223372036854775808 ≤ place) (h2 : place ≤ 9223372036854775807) (h3 : -9223372036854775808 ≤ birth) (h4 : birth ≤ 9223372036854775807) (h5 : xs.length ≤ 1000000) : (ofP place birth xs).Ok :=
  ⟨h1, h2, h3, h4, by show (-9223372036854775808 : Int) ≤ (xs.length : Int); omega, by show (xs.length : Int) ≤ 9223372036854775807; omega, crcS_lo _, crcS_hi _, shaS_length _, shaS_bytes _⟩
theorem crc_any (A : Option Addr) (n c : Nat) (xs : List Int) (w : World) (ht : Tabs w) (hn : n = xs.length) (hs : Src .u8 w A xs) (hx : IsBytes xs) (hl : n ≤ 1000000) :
    Calls Tryd.prog 34 #[.slice A n c] w fun e w' => e = .returned (.int .u32 (crcS xs)) ∧ Below w.heap.size w w' := sum_any A n c xs w ht.1 hn hs hx hl
theorem sha_any (A : Option Addr) (n c : Nat) (xs : List Int) (w : World) (ht : Tabs w) (hn : n = xs.length) (hs : Src .u8 w A xs) (hx : IsBytes xs) (hnc : n ≤ c) (hc : c ≤ 9223372036854775807) :
    Calls Tryd.prog 35 #[.slice A n c] w fun e w' => e = .returned (.agg (bcells (shaS xs))) ∧ Below w.heap.size w w' := Sha3.sum_any Sha3.h0W Sha3.kW A n c xs w Sha3.h0W_length ht.2 Sha3.kW_length hn hs hx hnc hc
theorem built_32 (a b c d : Int) (x0 x1 x2 x3 x4 x5 x6 x7 x8 x9 x10 x11 x12 x13 x14 x15 x16 x17 x18 x19 x20 x21 x22 x23 x24 x25 x26 x27 x28 x29 x30 x31 : Int) : Tryd.prog.built 31 [(0, .int .i64 a), (1, .int .i64 b), (2, .int .i64 c), (3, .int .u32 d), (4, .agg (bcells [x0, x1, x2, x3, x4, x5, x6, x7, x8, x9, x10, x11, x12, x13, x14, x15, x16, x17, x18, x19, x20, x21, x22, x23, x24, x25, x26, x27, x28, x29, x30, x31]))] = some (pcells ⟨a, b, c, d, [x0, x1, x2, x3, x4, x5, x6, x7, x8, x9, x10, x11, x12, x13, x14, x15, x16, x17, x18, x19, x20, x21, x22, x23, x24, x25, x26, x27, x28, x29, x30, x31]⟩) := by kernel_rfl
theorem built_of (a b c d : Int) (xs : List Int) (h : xs.length = 32) : Tryd.prog.built 31 [(0, .int .i64 a), (1, .int .i64 b), (2, .int .i64 c), (3, .int .u32 d), (4, .agg (bcells xs))] = some (pcells ⟨a, b, c, d, xs⟩) := by
  match xs, h with
  | [x0, x1, x2, x3, x4, x5, x6, x7, x8, x9, x10, x11, x12, x13, x14, x15, x16, x17, x18, x19, x20, x21, x22, x23, x24, x25, x26, x27, x28, x29, x30, x31], _ => exact built_32 a b c d x0 x1 x2 x3 x4 x5 x6 x7 x8 x9 x10 x11 x12 x13 x14 x15 x16 x17 x18 x19 x20 x21 x22 x23 x24 x25 x26 x27 x28 x29 x30 x31
theorem Tryd.resultsOf : Tryd.f21.results = #[.cell 6 31] := by kernel_rfl
theorem zeroP_row (w : World) : Row (w.alloc (.cells #[Value.int IntKind.i64 0, Value.int IntKind.i64 0, Value.int IntKind.i64 0, Value.int IntKind.u32 0, Value.int IntKind.u8 0, Value.int IntKind.u8 0, Value.int IntKind.u8 0, Value.int IntKind.u8 0, Value.int IntKind.u8 0, Value.int IntKind.u8 0, Value.int IntKind.u8 0, Value.int IntKind.u8 0, Value.int IntKind.u8 0, Value.int IntKind.u8 0, Value.int IntKind.u8 0, Value.int IntKind.u8 0, Value.int IntKind.u8 0, Value.int IntKind.u8 0, Value.int IntKind.u8 0, Value.int IntKind.u8 0, Value.int IntKind.u8 0, Value.int IntKind.u8 0, Value.int IntKind.u8 0, Value.int IntKind.u8 0, Value.int IntKind.u8 0, Value.int IntKind.u8 0, Value.int IntKind.u8 0, Value.int IntKind.u8 0, Value.int IntKind.u8 0, Value.int IntKind.u8 0, Value.int IntKind.u8 0, Value.int IntKind.u8 0, Value.int IntKind.u8 0, Value.int IntKind.u8 0, Value.int IntKind.u8 0, Value.int IntKind.u8 0] 31)) w.heap.size 31 (pcells Pt.zero) := Row.new w 31 (pcells Pt.zero)
theorem zeroP_below (w : World) : Below w.heap.size w (w.alloc (.cells #[Value.int IntKind.i64 0, Value.int IntKind.i64 0, Value.int IntKind.i64 0, Value.int IntKind.u32 0, Value.int IntKind.u8 0, Value.int IntKind.u8 0, Value.int IntKind.u8 0, Value.int IntKind.u8 0, Value.int IntKind.u8 0, Value.int IntKind.u8 0, Value.int IntKind.u8 0, Value.int IntKind.u8 0, Value.int IntKind.u8 0, Value.int IntKind.u8 0, Value.int IntKind.u8 0, Value.int IntKind.u8 0, Value.int IntKind.u8 0, Value.int IntKind.u8 0, Value.int IntKind.u8 0, Value.int IntKind.u8 0, Value.int IntKind.u8 0, Value.int IntKind.u8 0, Value.int IntKind.u8 0, Value.int IntKind.u8 0, Value.int IntKind.u8 0, Value.int IntKind.u8 0, Value.int IntKind.u8 0, Value.int IntKind.u8 0, Value.int IntKind.u8 0, Value.int IntKind.u8 0, Value.int IntKind.u8 0, Value.int IntKind.u8 0, Value.int IntKind.u8 0, Value.int IntKind.u8 0, Value.int IntKind.u8 0, Value.int IntKind.u8 0] 31)) := (Below.refl _ _).alloc (Nat.le_refl _) _
set_option maxHeartbeats 1000000 in
theorem of_any (place birth : Int) (A : Option Addr) (n c : Nat) (xs : List Int) (w : World) (ht : Tabs w) (hn : n = xs.length) (hs : Src .u8 w A xs) (hx : IsBytes xs) (hl : n ≤ 1000000) (hnc : n ≤ c) (hc : c ≤ 9223372036854775807) :
    Calls Tryd.prog 21 #[.int .i64 place, .int .i64 birth, .slice A n c] w fun e w' => e = .returned (.agg (pcells (ofP place birth xs))) ∧ Below w.heap.size w w' := by
  have HE := Lib.hid (show ofP place birth xs = ⟨place, birth, (n : Int), crcS xs, shaS xs⟩ by rw [hn]; rfl)
  have HB := Lib.hid (built_of place birth (n : Int) (crcS xs) (shaS xs) (shaS_length xs))
  have HL := Lib.hid (shaS_length xs)
  have HC := Lib.hid (fun w' (hb : Below w.heap.size w w') => crc_any A n c xs w' (ht.keep hb) hn (hs.keep hb) hx hl)
  have HS := Lib.hid (fun w' (hb : Below w.heap.size w w') => sha_any A n c xs w' (ht.keep hb) hn (hs.keep hb) hx hnc hc)
  have r1 := zeroP_row w
  have b1 := zeroP_below w
  rw [HE.out]
  clear ht hn hs hx hl hnc hc HE
  obtain ⟨ps, hps⟩ : ∃ ps, ps = pcells ⟨place, birth, (n : Int), crcS xs, shaS xs⟩ := ⟨_, rfl⟩
  have HS1 : Hid ((Tryd.prog.info? 31).map (·.size) = some ps.size) := Lib.hid (by rw [hps]; exact pt_size HL.out)
  have HS2 : Hid ((pcells Pt.zero).size = ps.size) := Lib.hid (by rw [hps, pcells_size, pcells_size]; show (32 : Nat) + 4 = (shaS xs).length + 4; rw [HL.out])
  have HS3 : Hid (ps.all (·.oneCell') = true) := Lib.hid (by rw [hps]; exact pcells_one _)
  rw [← hps] at HB ⊢
  clear hps HL
  generalize crcS xs = d at *
  generalize shaS xs = ss at *
  go_enter Tryd.func21, Tryd.ntmps21
  go_wp2_with fail
  refine (HC.out _ b1).mono ?_
  rintro e w1 ⟨rfl, hb1⟩
  have r2 := r1.keep hb1
  have b2 := b1.trans (hb1.mono b1.size)
  clear r1 b1 hb1 HC
  go_wp2_with fail
  refine (HS.out _ b2).mono ?_
  rintro e w2 ⟨rfl, hb2⟩
  have r3 := r2.keep hb2
  have b3 := b2.trans (hb2.mono b2.size)
  clear r2 b2 hb2 HS
  go_wp2_with (first
    | (refine wpList_build_eq rfl 31 #[(0, .tmp 7), (1, .tmp 8), (2, .tmp 10), (3, .tmp 12), (4, .tmp 14)] rfl [(0, .int .i64 place), (1, .int .i64 birth), (2, .int .i64 (n : Int)), (3, .int .u32 d), (4, .agg (bcells ss))] (by simp; exact ⟨rfl, rfl, rfl, rfl, rfl⟩) ps HB.out ?_)
    | (refine wpList_store_row rfl 31 (.tmp 6) (.tmp 15) rfl w.heap.size ps rfl rfl 31 (pcells Pt.zero) r3 HS1.out HS2.out HS3.out ?_))
  refine bodyPost_ret (v := .agg ps) ?_ rfl ?_
  · exact results_cell_row Tryd.resultsOf _ _ w.heap.size 31 ps (0, 0) _ rfl (r3.setRow ps) Tryd.underlying31 rfl HS1.out
  · exact ⟨rfl, below_setRow b3 (Nat.le_refl _) _⟩
end Go.Proofs.YtnllladoipcfkaaDoor

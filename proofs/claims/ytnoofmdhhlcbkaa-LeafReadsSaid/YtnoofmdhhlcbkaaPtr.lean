/- A pointer as five fields, and as 36 cells: what is right, how many sectors; equality of pointers. No conditions but those that stand in each lemma. -/
import Derived.Test.YtnoofmdhhlcbkaaCells
namespace Go.Proofs.Ytnoofmdhhlcbkaa
open Go.RowKit

/-- A pointer. -/
structure Pt where
  place : Int
  birth : Int
  len : Int
  crc : Int
  sha : List Int
/-- Its fields are what their types hold. -/
structure Pt.Ok (p : Pt) : Prop where
  place1 : -9223372036854775808 ≤ p.place
  place2 : p.place ≤ 9223372036854775807
  birth1 : -9223372036854775808 ≤ p.birth
  birth2 : p.birth ≤ 9223372036854775807
  len1 : -9223372036854775808 ≤ p.len
  len2 : p.len ≤ 9223372036854775807
  crc1 : 0 ≤ p.crc
  crc2 : p.crc < 4294967296
  shaL : p.sha.length = 32
  shaB : IsBytes p.sha
/-- None. -/
def Pt.zero : Pt := ⟨0, 0, 0, 0, List.replicate 32 0⟩
theorem Pt.zero_ok : Pt.zero.Ok := ⟨by decide, by decide, by decide, by decide, by decide, by decide, by decide, by decide, rfl, fun x hx => by rw [(List.mem_replicate.1 hx).2]; omega⟩
/-- All fields are equal. -/
def Pt.same (p q : Pt) : Bool := p.place == q.place && (p.birth == q.birth && (p.len == q.len && (p.crc == q.crc && decide (p.sha = q.sha))))
theorem Pt.same_iff (p q : Pt) : Pt.same p q = true ↔ p = q := by
  cases p; cases q
  simp [Pt.same]
theorem Pt.same_self (p : Pt) : Pt.same p p = true := (Pt.same_iff p p).2 rfl
/-- None, or not. -/
def Pt.none (p : Pt) : Bool := Pt.same p Pt.zero
def lenOk (n : Int) : Bool := decide (1 ≤ n ∧ n ≤ 65536)
def secsOf (n : Int) : Int := if lenOk n = true then (n + 511) / 512 else 0
def Pt.right (p : Pt) : Bool := decide (1 ≤ p.len ∧ p.len ≤ 65536 ∧ 1 ≤ p.birth ∧ p.birth ≤ 1152921504606846976 ∧ 2 ≤ p.place ∧ p.place + secsOf p.len ≤ 8192)
theorem secs_bounds (n : Int) : 0 ≤ secsOf n ∧ secsOf n ≤ 128 := by
  unfold secsOf lenOk
  split
  · rename_i h
    have := of_decide_eq_true h
    omega
  · omega

/-- As cells. -/
def pcells (p : Pt) : Array Value := (Value.int .i64 p.place :: Value.int .i64 p.birth :: Value.int .i64 p.len :: Value.int .u32 p.crc :: p.sha.map (Value.int .u8)).toArray
theorem pcells_size (p : Pt) : (pcells p).size = p.sha.length + 4 := by simp [pcells]
theorem pcells_0 (p : Pt) : (pcells p)[0]? = some (.int .i64 p.place) := rfl
theorem pcells_1 (p : Pt) : (pcells p)[1]? = some (.int .i64 p.birth) := rfl
theorem pcells_2 (p : Pt) : (pcells p)[2]? = some (.int .i64 p.len) := rfl
theorem pcells_3 (p : Pt) : (pcells p)[3]? = some (.int .u32 p.crc) := rfl
theorem pcells_sha (p : Pt) (j : Nat) (h : j < p.sha.length) : (pcells p)[4 + j]? = some (.int .u8 (p.sha.getD j 0)) := by
  unfold pcells
  rw [List.getElem?_toArray, show 4 + j = j + 1 + 1 + 1 + 1 by omega, List.getElem?_cons_succ, List.getElem?_cons_succ, List.getElem?_cons_succ, List.getElem?_cons_succ, List.getElem?_map, List.getD_eq_getElem?_getD, List.getElem?_eq_getElem h]
  rfl
theorem pcells_one (p : Pt) : (pcells p).all (·.oneCell') = true := by
  simp [pcells, List.all_map, Value.oneCell']
theorem Try.sizeP : (Try.prog.info? 43).map (·.size) = some 36 := by kernel_rfl
theorem Try.size8 : (Try.prog.info? 5).map (·.size) = some 1 := by kernel_rfl
theorem Try.size32 : (Try.prog.info? 41).map (·.size) = some 32 := by kernel_rfl
theorem pt_size {p : Pt} (h : p.sha.length = 32) : (Try.prog.info? 43).map (·.size) = some (pcells p).size := by rw [Try.sizeP, pcells_size, h]
theorem Try.fieldsP : (Try.prog.fieldsOf 43).toList.map (fun f => (f.name == "_", f.type, f.offset)) = [(false, 3, 0), (false, 3, 1), (false, 3, 2), (false, 40, 3), (false, 41, 4)] := by kernel_rfl
theorem Try.structP : Try.prog.underlying 43 = some (.struct (Try.prog.fieldsOf 43)) := by kernel_rfl
theorem Try.heldP : Try.prog.stoodInHeld 43 = false := by kernel_rfl

theorem eq_fields {d : Nat} {xs ys : Array Value} {w : World} {P : Program} {f : Field} {fs : List Field} {x y : Value} {b : Bool} (hn : (f.name == "_") = false) (t : TypeId) (ht : f.type = t) (o : Nat) (ho : f.offset = o)
    (hx : (part t xs o).run P w = .ok x w) (hy : (part t ys o).run P w = .ok y w) (he : (Op.equalIn d t x y).run P w = .ok b w) {c : Bool} (hr : (Op.eqFields d xs ys fs).run P w = .ok c w) :
    (Op.eqFields d xs ys (f :: fs)).run P w = .ok (b && c) w := by
  subst ht; subst ho
  have n0 : f.name ≠ "_" := by simpa using hn
  simp only [Op.eqFields, n0, ne_eq, not_false_eq_true, if_true, Sem.run_bind, hx, hy, he, Result.andThen_ok]
  cases b with
  | true => simpa using hr
  | false => simp
theorem part_int {P : Program} (w : World) (t : TypeId) (k : IntKind) (h : P.underlying t = some (.int k)) (cs : Array Value) (o : Nat) (v : Value) (hv : cs[o]? = some v) : (part t cs o).run P w = .ok v w := by
  simp [part, isAgg, run_underlying h, hv]
theorem part_sha (w : World) (p : Pt) (h : p.sha.length = 32) : (part 41 (pcells p) 4).run Try.prog w = .ok (.agg (bcells p.sha)) w := by
  have hagg : (isAgg 41).run Try.prog w = .ok true w := by
    unfold isAgg
    rw [Sem.run_bind, run_underlying Try.underlying41 w]
    simp
  have he : (pcells p).extract 4 36 = bcells p.sha := by
    apply Array.ext'
    rw [Array.toList_extract]
    show (List.drop 4 (Value.int .i64 p.place :: Value.int .i64 p.birth :: Value.int .i64 p.len :: Value.int .u32 p.crc :: p.sha.map (Value.int .u8))).take 32 = p.sha.map (Value.int .u8)
    exact List.take_of_length_le (by show (p.sha.map (Value.int .u8)).length ≤ 32; rw [List.length_map, h]; exact Nat.le_refl _)
  cases hq : Try.prog.info? 41 with
  | none => have := Try.size32; simp [hq] at this
  | some i =>
    have hsz : i.size = 32 := by simpa [hq] using Try.size32
    simp [part, Sem.run_bind, hagg, sizeOf, typeInfo, hq, hsz, he]
theorem equal_pts (w : World) (d : Nat) (p q : Pt) (hp : p.sha.length = 32) (hq : q.sha.length = 32) : (Op.equalIn (d + 3) 43 (.agg (pcells p)) (.agg (pcells q))).run Try.prog w = .ok (Pt.same p q) w := by
  have eq32 := run_equal_bytes (P := Try.prog) w d 41 5 32 Try.underlying41 Try.underlying5 (size_one Try.size8) p.sha q.sha hp hq
  rw [run_equalIn_struct w (d + 2) 43 _ _ Try.structP Try.heldP]
  have hf := Try.fieldsP
  generalize (Try.prog.fieldsOf 43).toList = fs at hf ⊢
  rcases fs with _ | ⟨f0, _ | ⟨f1, _ | ⟨f2, _ | ⟨f3, _ | ⟨f4, _ | ⟨f5, r⟩⟩⟩⟩⟩⟩ <;> simp only [List.map_cons, List.map_nil, List.cons.injEq, Prod.mk.injEq, and_true, reduceCtorEq, and_false] at hf
  obtain ⟨⟨a0, a1, a2⟩, ⟨b0, b1, b2⟩, ⟨c0, c1, c2⟩, ⟨d0, d1, d2⟩, e0, e1, e2⟩ := hf
  have hnil : (Op.eqFields (d + 2) (pcells p) (pcells q) []).run Try.prog w = .ok true w := by simp [Op.eqFields]
  have i64 := Try.underlying3
  have u32 := Try.underlying40
  have := eq_fields a0 _ a1 _ a2 (part_int w _ _ i64 _ _ _ (pcells_0 p)) (part_int w _ _ i64 _ _ _ (pcells_0 q)) (run_equalIn_int w (d + 1) _ .i64 .i64 p.place q.place i64)
    (eq_fields b0 _ b1 _ b2 (part_int w _ _ i64 _ _ _ (pcells_1 p)) (part_int w _ _ i64 _ _ _ (pcells_1 q)) (run_equalIn_int w (d + 1) _ .i64 .i64 p.birth q.birth i64)
    (eq_fields c0 _ c1 _ c2 (part_int w _ _ i64 _ _ _ (pcells_2 p)) (part_int w _ _ i64 _ _ _ (pcells_2 q)) (run_equalIn_int w (d + 1) _ .i64 .i64 p.len q.len i64)
    (eq_fields d0 _ d1 _ d2 (part_int w _ _ u32 _ _ _ (pcells_3 p)) (part_int w _ _ u32 _ _ _ (pcells_3 q)) (run_equalIn_int w (d + 1) _ .u32 .u32 p.crc q.crc u32)
    (eq_fields e0 _ e1 _ e2 (part_sha w p hp) (part_sha w q hq) eq32 hnil))))
  rw [this]
  simp [Pt.same]
theorem eql_pts (w : World) (p q : Pt) (hp : p.sha.length = 32) (hq : q.sha.length = 32) : (binOp .eql 43 (.agg (pcells p)) (.agg (pcells q))).run Try.prog w = .ok (.bool (Pt.same p q)) w := by
  rw [run_eql_struct, equal_pts w 9997 p q hp hq]
  rfl
theorem neq_pts (w : World) (p q : Pt) (hp : p.sha.length = 32) (hq : q.sha.length = 32) : (binOp .neq 43 (.agg (pcells p)) (.agg (pcells q))).run Try.prog w = .ok (.bool (!Pt.same p q)) w := by
  rw [run_neq_struct, equal_pts w 9997 p q hp hq]
  rfl
section
variable {w : World} {g : Nat} {p : Pt}
theorem row_place (h : Row w g 43 (pcells p)) : w.cell? ⟨g, 0, none⟩ = some (.int .i64 p.place) := h.cell (pcells_0 p)
theorem row_birth (h : Row w g 43 (pcells p)) : w.cell? ⟨g, 1, none⟩ = some (.int .i64 p.birth) := h.cell (pcells_1 p)
theorem row_len (h : Row w g 43 (pcells p)) : w.cell? ⟨g, 2, none⟩ = some (.int .i64 p.len) := h.cell (pcells_2 p)
theorem row_crc (h : Row w g 43 (pcells p)) : w.cell? ⟨g, 3, none⟩ = some (.int .u32 p.crc) := h.cell (pcells_3 p)
theorem row_sha (h : Row w g 43 (pcells p)) : Src .u8 w (some ⟨g, 4, none⟩) p.sha := fun _ =>
  ⟨g, 4, rfl, h.lt, fun i hi => h.cell (pcells_sha p i hi)⟩
end
end Go.Proofs.Ytnoofmdhhlcbkaa

/- Two states that hold the same are equal: the operation == on the document's state. -/
import Derived.Test.YthinoalanieknaaDoorEq
import Derived.Laws.StructEq
namespace Go.Proofs.YthinoalanieknaaDoor
open Go.RowKit

theorem Tryd.fields35 : (Tryd.prog.fieldsOf 35).toList.map (fun f => (f.name == "_", f.type, f.offset)) = [(false, 28, 0), (false, 29, 8)] := by kernel_rfl
theorem Tryd.struct35 : Tryd.prog.underlying 35 = some (.struct (Tryd.prog.fieldsOf 35)) := by kernel_rfl
theorem Tryd.held35 : Tryd.prog.stoodInHeld 35 = false := by kernel_rfl
theorem part_H (w : World) (hs : List Wd) (n : Int) (h : hs.length = 8) : (part 28 (scells hs n) 0).run Tryd.prog w = .ok (.agg (wcells hs)) w := by
  have hagg : (isAgg 28).run Tryd.prog w = .ok true w := by
    unfold isAgg
    rw [Sem.run_bind, run_underlying Tryd.underlying28 w]
    simp
  have he : (scells hs n).extract 0 8 = wcells hs := by
    apply Array.ext'
    simp [scells, wcells, ← h]
  cases hq : Tryd.prog.info? 28 with
  | none => have := Tryd.size28; simp [hq] at this
  | some i =>
    have hsz : i.size = 8 := by simpa [hq] using Tryd.size28
    simp [part, Sem.run_bind, hagg, sizeOf, typeInfo, hq, hsz, he]
theorem part_n (w : World) (hs : List Wd) (n : Int) (h : hs.length = 8) : (part 29 (scells hs n) 8).run Tryd.prog w = .ok (.int .u64 n) w := by
  simp [part, isAgg, run_underlying Tryd.underlying29, scells_last hs n 8 h]
theorem eql_states (w : World) (hs : List Wd) (n : Int) (h : hs.length = 8) : (binOp .eql 35 (.agg (scells hs n)) (.agg (scells hs n))).run Tryd.prog w = .ok (.bool true) w := by
  have h1 := run_equal_ints (P := Tryd.prog) w 9997 28 27 8 .u32 Tryd.underlying28 Tryd.underlying27 (size_one Tryd.one27) (wcells hs) (ints_w hs 8 h)
  have h2 : (Op.equalIn 9999 29 (.int .u64 n) (.int .u64 n)).run Tryd.prog w = .ok true w := by
    rw [run_equalIn_int w 9998 29 .u64 .u64 n n Tryd.underlying29]
    simp
  rw [run_eql_struct, run_equalIn_struct w 9999 35 _ _ Tryd.struct35 Tryd.held35]
  have hf := Tryd.fields35
  cases hl : (Tryd.prog.fieldsOf 35).toList with
  | nil => rw [hl] at hf; simp at hf
  | cons f0 r =>
    cases r with
    | nil => rw [hl] at hf; simp at hf
    | cons f1 r2 =>
      cases r2 with
      | cons f2 r3 => rw [hl] at hf; simp at hf
      | nil =>
        rw [hl] at hf
        simp only [List.map_cons, List.map_nil, List.cons.injEq, Prod.mk.injEq, and_true] at hf
        obtain ⟨⟨a0, a1, a2⟩, b0, b1, b2⟩ := hf
        have n0 : f0.name ≠ "_" := by simpa using a0
        have n1 : f1.name ≠ "_" := by simpa using b0
        simp only [Op.eqFields, n0, n1, ne_eq, not_false_eq_true, if_true, Sem.run_bind, a1, a2, b1, b2, part_H w hs n h, part_n w hs n h, Result.andThen_ok, h1, h2, Bool.not_true, Bool.false_eq_true, if_false, Sem.run_pure]
end Go.Proofs.YthinoalanieknaaDoor

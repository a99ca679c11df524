/- The document's first state; its End of any rest; two of its states that hold the same are equal (the operation ==). -/
import Derived.Test.YtfjkejdnbegomaaDoorMd5RefEnd
import Derived.Laws.StructEq
namespace Go.Proofs.YtfjkejdnbegomaaDoor.Md5
open Go.RowKit

theorem Tryd.fields33 : (Tryd.prog.fieldsOf 33).toList.map (fun f => (f.name == "_", f.type, f.offset)) = [(false, 28, 0), (false, 29, 4)] := by kernel_rfl
theorem Tryd.struct33 : Tryd.prog.underlying 33 = some (.struct (Tryd.prog.fieldsOf 33)) := by kernel_rfl
theorem Tryd.held33 : Tryd.prog.stoodInHeld 33 = false := by kernel_rfl
theorem part_H (w : World) (hs : List Wd) (n : Int) (h : hs.length = 4) : (part 28 (scells hs n) 0).run Tryd.prog w = .ok (.agg (wcells hs)) w := by
  have hagg : (isAgg 28).run Tryd.prog w = .ok true w := by
    unfold isAgg
    rw [Sem.run_bind, run_underlying Tryd.underlying28 w]
    simp
  have he : (scells hs n).extract 0 4 = wcells hs := by
    apply Array.ext'
    simp [scells, wcells, ← h]
  cases hq : Tryd.prog.info? 28 with
  | none => have := Tryd.size28; simp [hq] at this
  | some i =>
    have hsz : i.size = 4 := by simpa [hq] using Tryd.size28
    simp [part, Sem.run_bind, hagg, sizeOf, typeInfo, hq, hsz, he]
theorem part_n (w : World) (hs : List Wd) (n : Int) (h : hs.length = 4) : (part 29 (scells hs n) 4).run Tryd.prog w = .ok (.int .u64 n) w := by
  simp [part, isAgg, run_underlying Tryd.underlying29, scells_last hs n 4 h]
theorem eql_states (w : World) (hs : List Wd) (n : Int) (h : hs.length = 4) : (binOp .eql 33 (.agg (scells hs n)) (.agg (scells hs n))).run Tryd.prog w = .ok (.bool true) w := by
  have h1 := run_equal_ints (P := Tryd.prog) w 9997 28 27 4 .u32 Tryd.underlying28 Tryd.underlying27 (size_one Tryd.one27) (wcells hs) (ints_w hs 4 h)
  have h2 : (Op.equalIn 9999 29 (.int .u64 n) (.int .u64 n)).run Tryd.prog w = .ok true w := by
    rw [run_equalIn_int w 9998 29 .u64 .u64 n n Tryd.underlying29]
    simp
  rw [run_eql_struct, run_equalIn_struct w 9999 33 _ _ Tryd.struct33 Tryd.held33]
  have hf := Tryd.fields33
  cases hl : (Tryd.prog.fieldsOf 33).toList with
  | nil => rw [hl] at hf; simp at hf
  | cons f0 r =>
    cases r with
    | nil => rw [hl] at hf; simp at hf
    | cons f1 r2 =>
      cases r2 with
      | cons f2 r3 => rw [hl] at hf; simp at hf
      | nil =>
        rw [hl] at hf
        simp only [List.map_cons, List.map_nil, List.cons.injEq, Prod.mk.injEq, and_true] at hf
        obtain ⟨⟨a0, a1, a2⟩, b0, b1, b2⟩ := hf
        have n0 : f0.name ≠ "_" := by simpa using a0
        have n1 : f1.name ≠ "_" := by simpa using b0
        simp only [Op.eqFields, n0, n1, ne_eq, not_false_eq_true, if_true, Sem.run_bind, a1, a2, b1, b2, part_H w hs n h, part_n w hs n h, Result.andThen_ok, h1, h2, Bool.not_true, Bool.false_eq_true, if_false, Sem.run_pure]
/-- What is asked of the first state. -/
def BeginTells (h0 : List Wd) : Prop := ∀ w : World, Calls Tryd.prog 15 #[] w fun e w' => e = .returned (.agg (scells h0 0)) ∧ Below w.heap.size w w'
set_option maxRecDepth 100000 in
set_option maxHeartbeats 1000000 in
theorem rbegin_any : BeginTells h0W := by
  intro w
  go_enter Tryd.func15, Tryd.ntmps15
  go_wp2_with fail
  refine bodyPost_ret (v := .agg (scells h0W 0)) ?_ rfl ?_
  · exact results_cell_row Tryd.results15 _ _ w.heap.size 33 (scells h0W 0) (0, 0) _ rfl (Row.new w 33 (scells h0W 0)) Tryd.underlying33 rfl (by rw [Tryd.size33, scells_size, h0W_length])
  · exact ⟨rfl, (Below.refl _ _).alloc (Nat.le_refl _) _⟩
theorem rend_any (ks hs : List Wd) (q : Qd) (A : Option Addr) (n c : Nat) (xs : List Int) (w : World) (hh : hs.length = 4) (hst : SinesTell ks) (hks : ks.length = 64) (hs0 : Src .u8 w A xs) (hx : IsBytes xs) (hn : n = xs.length) (hnc : n ≤ c) (hc : c ≤ 9223372036854775807) :
    Calls Tryd.prog 13 #[.agg (scells hs (uq q)), .slice A n c] w fun e w' => e = .returned (.agg (bcells (endW ks hs q (xs.take 63)))) ∧ Below w.heap.size w w' := by
  by_cases h : n ≤ 63
  · rw [List.take_of_length_le (by omega)]
    obtain ⟨J, m, hT, hm, ho⟩ := end_blocks ks hs q xs (by omega)
    exact rend_short ks hs q A n c xs _ J m w hh hst hks hs0 hx hn (by omega) hT hm ho
  · have hs1 := hs0
    obtain ⟨b, o, rfl, _, _⟩ := hs1 (by omega)
    have hl : 63 = (xs.take 63).length := by rw [List.length_take]; omega
    obtain ⟨J, m, hT, hm, ho⟩ := end_blocks ks hs q (xs.take 63) (by omega)
    exact rend_long ks hs q b o n c (xs.take 63) _ J m w hh hst hks (hs0.take 63) (hx.take 63) hl (by omega) hnc hc hT hm ho
end Go.Proofs.YtfjkejdnbegomaaDoor.Md5

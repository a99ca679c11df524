/- What an alloc that no call made answers. No conditions but those that stand in each lemma. -/
import Derived.Test.YtnlkljmboifnkaaAlRow
namespace Go.Proofs.Ytnlkljmboifnkaa
open Go.RowKit Go.Maps

theorem noalloc_within (w : World) (d : Value) (x y : Int) (h : NoAlloc w d) : Calls Try.prog 25 #[d, .agg #[.int .i64 x, .int .i64 y]] w fun e w' => e = .returned (.int .i64 1) ∧ Below w.heap.size w w' := by
  have h1 := fun o => h.keep ((Below.refl w.heap.size w).alloc (Nat.le_refl _) o)
  go_enter Try.func25, Try.ntmps25
  go_wp2_with fail
  refine (noalloc_made _ _ (h1 _)).mono ?_
  rintro e w1 ⟨rfl, rfl⟩
  go_wp2_with fail
  go_ret
  exact ⟨rfl, (Below.refl _ _).alloc (Nat.le_refl _) _⟩
theorem noalloc_inUse (w : World) (d : Value) (x y : Int) (h : NoAlloc w d) : Calls Try.prog 27 #[d, .agg #[.int .i64 x, .int .i64 y]] w fun e w' => e = .returned (.int .i64 1) ∧ Below w.heap.size w w' := by
  have h1 := fun o => h.keep ((Below.refl w.heap.size w).alloc (Nat.le_refl _) o)
  go_enter Try.func27, Try.ntmps27
  go_wp2_with fail
  refine (noalloc_within _ _ _ _ (h1 _)).mono ?_
  rintro e w1 ⟨rfl, hb1⟩
  obtain ⟨d0, d1, hb2⟩ := sp_new hb1
  clear hb1 d0 d1
  go_wp2_with fail
  go_ret
  exact ⟨rfl, hb2⟩
theorem noalloc_use (w : World) (d : Value) (x y : Int) (h : NoAlloc w d) : Calls Try.prog 10 #[d, .agg #[.int .i64 x, .int .i64 y]] w fun e w' => e = .returned (.int .i64 1) ∧ Below w.heap.size w w' := by
  have h1 := fun o => h.keep ((Below.refl w.heap.size w).alloc (Nat.le_refl _) o)
  go_enter Try.func10, Try.ntmps10
  go_wp2_with fail
  refine (noalloc_within _ _ _ _ (h1 _)).mono ?_
  rintro e w1 ⟨rfl, hb1⟩
  obtain ⟨d0, d1, hb2⟩ := sp_new hb1
  clear hb1 d0 d1
  go_wp2_with fail
  go_ret
  exact ⟨rfl, hb2⟩
theorem noalloc_give (w : World) (d : Value) (x y : Int) (h : NoAlloc w d) : Calls Try.prog 11 #[d, .agg #[.int .i64 x, .int .i64 y]] w fun e w' => e = .returned (.int .i64 1) ∧ Below w.heap.size w w' := by
  have h1 := fun o => h.keep ((Below.refl w.heap.size w).alloc (Nat.le_refl _) o)
  go_enter Try.func11, Try.ntmps11
  go_wp2_with fail
  refine (noalloc_inUse _ _ _ _ (h1 _)).mono ?_
  rintro e w1 ⟨rfl, hb1⟩
  obtain ⟨d0, d1, hb2⟩ := sp_new hb1
  clear hb1 d0 d1
  go_wp2_with fail
  go_ret
  exact ⟨rfl, hb2⟩
theorem noalloc_later (w : World) (d : Value) (x y : Int) (h : NoAlloc w d) : Calls Try.prog 12 #[d, .agg #[.int .i64 x, .int .i64 y]] w fun e w' => e = .returned (.int .i64 1) ∧ Below w.heap.size w w' := by
  have h1 := fun o => h.keep ((Below.refl w.heap.size w).alloc (Nat.le_refl _) o)
  go_enter Try.func12, Try.ntmps12
  go_wp2_with fail
  refine (noalloc_inUse _ _ _ _ (h1 _)).mono ?_
  rintro e w1 ⟨rfl, hb1⟩
  obtain ⟨d0, d1, hb2⟩ := sp_new hb1
  clear hb1 d0 d1
  go_wp2_with fail
  go_ret
  exact ⟨rfl, hb2⟩
theorem noalloc_take (w : World) (d : Value) (n : Int) (s : Bool) (h : NoAlloc w d) : Calls Try.prog 7 #[d, .int .i64 n, .bool s] w fun e w' => e = .returned (.tuple #[.int .i64 0, .int .i64 1]) ∧ Below w.heap.size w w' := by
  go_enter Try.func7, Try.ntmps7
  go_wp2_with fail
  refine (noalloc_made _ _ h).mono ?_
  rintro e w1 ⟨rfl, rfl⟩
  go_wp2_with fail
  go_ret2
  exact ⟨rfl, Below.refl _ _⟩
theorem noalloc_commit (w : World) (d : Value) (h : NoAlloc w d) : Calls Try.prog 8 #[d] w fun e w' => e = .returned (.tuple #[]) ∧ Below w.heap.size w w' := by
  go_enter Try.func8, Try.ntmps8
  go_wp2_with fail
  refine (noalloc_made _ _ h).mono ?_
  rintro e w1 ⟨rfl, rfl⟩
  go_wp2_with fail
  refine bodyPost_ret (results_none rfl _ _ _) rfl ?_
  exact ⟨rfl, Below.refl _ _⟩
theorem noalloc_abort (w : World) (d : Value) (h : NoAlloc w d) : Calls Try.prog 9 #[d] w fun e w' => e = .returned (.tuple #[]) ∧ Below w.heap.size w w' := by
  go_enter Try.func9, Try.ntmps9
  go_wp2_with fail
  refine (noalloc_made _ _ h).mono ?_
  rintro e w1 ⟨rfl, rfl⟩
  go_wp2_with fail
  refine bodyPost_ret (results_none rfl _ _ _) rfl ?_
  exact ⟨rfl, Below.refl _ _⟩
theorem noalloc_free (w : World) (d : Value) (h : NoAlloc w d) : Calls Try.prog 13 #[d] w fun e w' => e = .returned (.int .i64 0) ∧ Below w.heap.size w w' := by
  go_enter Try.func13, Try.ntmps13
  go_wp2_with fail
  refine (noalloc_made _ _ h).mono ?_
  rintro e w1 ⟨rfl, rfl⟩
  go_wp2_with fail
  go_ret
  exact ⟨rfl, Below.refl _ _⟩
theorem noalloc_waiting (w : World) (d : Value) (h : NoAlloc w d) : Calls Try.prog 14 #[d] w fun e w' => e = .returned (.int .i64 0) ∧ Below w.heap.size w w' := by
  go_enter Try.func14, Try.ntmps14
  go_wp2_with fail
  refine (noalloc_made _ _ h).mono ?_
  rintro e w1 ⟨rfl, rfl⟩
  go_wp2_with fail
  go_ret
  exact ⟨rfl, Below.refl _ _⟩
theorem noalloc_used (w : World) (d : Value) (h : NoAlloc w d) : Calls Try.prog 15 #[d] w fun e w' => e = .returned (.int .i64 0) ∧ Below w.heap.size w w' := by
  go_enter Try.func15, Try.ntmps15
  go_wp2_with fail
  refine (noalloc_made _ _ h).mono ?_
  rintro e w1 ⟨rfl, rfl⟩
  go_wp2_with fail
  go_ret
  exact ⟨rfl, Below.refl _ _⟩
theorem noalloc_spans (w : World) (d : Value) (h : NoAlloc w d) : Calls Try.prog 16 #[d] w fun e w' => e = .returned (.slice none 0 0) ∧ Below w.heap.size w w' := by
  go_enter Try.func16, Try.ntmps16
  go_wp2_with fail
  refine (noalloc_made _ _ h).mono ?_
  rintro e w1 ⟨rfl, rfl⟩
  go_wp2_with fail
  go_ret
  exact ⟨rfl, Below.refl _ _⟩
end Go.Proofs.Ytnlkljmboifnkaa

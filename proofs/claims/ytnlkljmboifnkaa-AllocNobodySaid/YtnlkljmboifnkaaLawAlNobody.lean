/- AllocNobody: its walk. No conditions but those that stand in each lemma. -/
import Derived.Test.YtnlkljmboifnkaaAlNo
import Derived.Test.YtnlkljmboifnkaaLawAlKeeps
namespace Go.Proofs.Ytnlkljmboifnkaa
open Go.RowKit Go.Maps

/-- What the law keeps in memory while it asks: the span, a plain alloc, the slice of both. -/
def NoW (w : World) (x y : Int) (wr : World) : Prop :=
  Row wr w.heap.size 23 #[.int .i64 x, .int .i64 y] ∧ Row wr (w.heap.size + 1) 28 noCells ∧
    Row wr (w.heap.size + 1 + 1) 24 #[.pointer none, .pointer (some ⟨w.heap.size + 1, 0, none⟩)] ∧ Below w.heap.size w wr
theorem NoW.keep {w wr wn : World} {x y : Int} (h : NoW w x y wr) (hb : Below wr.heap.size wr wn) : NoW w x y wn :=
  ⟨h.1.keep hb, h.2.1.keep hb, h.2.2.1.keep hb, h.2.2.2.trans (hb.mono h.2.2.2.size)⟩
theorem NoW.plain {w wr : World} {x y : Int} (h : NoW w x y wr) : NoAlloc wr (.pointer (some ⟨w.heap.size + 1, 0, none⟩)) := .inr ⟨_, rfl, h.2.1⟩
theorem nobody_start (w : World) (x y : Int) : NoW w x y (((w.alloc (.cells #[.int .i64 x, .int .i64 y] 23)).alloc (.cells noCells 28)).alloc (.cells #[.pointer none, .pointer (some ⟨w.heap.size + 1, 0, none⟩)] 24)) := by
  have z1 : (w.alloc (.cells #[.int .i64 x, .int .i64 y] 23)).heap.size = w.heap.size + 1 := by show (w.heap.push _).size = _; rw [Array.size_push]
  have z2 : ((w.alloc (.cells #[.int .i64 x, .int .i64 y] 23)).alloc (.cells noCells 28)).heap.size = w.heap.size + 1 + 1 := by show (Array.push _ _).size = _; rw [Array.size_push, z1]
  have r1 := Row.new w 23 #[.int .i64 x, .int .i64 y]
  have r2 := Row.new (w.alloc (.cells #[.int .i64 x, .int .i64 y] 23)) 28 noCells
  rw [z1] at r2
  have r3 := Row.new ((w.alloc (.cells #[.int .i64 x, .int .i64 y] 23)).alloc (.cells noCells 28)) 24 #[.pointer none, .pointer (some ⟨w.heap.size + 1, 0, none⟩)]
  rw [z2] at r3
  exact ⟨(r1.old _).old _, r2.old _, r3, (((Below.refl w.heap.size w).alloc (Nat.le_refl _) _).alloc (by omega) _).alloc (by omega) _⟩
theorem five_free : Spans.totalL (alNew 0 5 0).free = 5 := by decide +kernel

set_option maxRecDepth 100000 in
set_option maxHeartbeats 8000000 in
theorem nobody_any (n x y : Int) (w : World) :
    Calls Try.prog 3 #[.int .i64 n, .agg #[.int .i64 x, .int .i64 y]] w fun e w' => e = .returned (.bool true) ∧ Below w.heap.size w w' := by
  have start := nobody_start w x y
  go_enter Try.func3, Try.ntmps3
  go_wp2_with fail
  go_loopw [6, 7, 8, 15] (fun _ _ _ iv wr => ∃ k : Nat, k ≤ 2 ∧ iv = .int .i64 (k : Int) ∧ NoW w x y wr) (fun _ _ _ iv _ => 2 - (intOf iv).toNat)
  case atStart => exact ⟨0, by omega, rfl, start⟩
  case round =>
    clear start
    obtain ⟨k, hk, rfl, hw⟩ := hrel
    have HW := Lib.hid hw
    have p0 := hw.2.2.1.cell (j := 0) (v := .pointer none) rfl
    have p1 := hw.2.2.1.cell (j := 1) (v := .pointer (some ⟨w.heap.size + 1, 0, none⟩)) rfl
    have plt := hw.2.2.1.lt
    clear hw
    obtain rfl | rfl | rfl : k = 0 ∨ k = 1 ∨ k = 2 := by omega
    · go_wp2_with fail
      · clear p0 p1
        refine (noalloc_take _ _ n true (.inl rfl)).mono ?_
        rintro e wn ⟨rfl, hbn⟩
        replace HW := Lib.hid (HW.out.keep hbn)
        have e0 := HW.out.1.cell (j := 0) (v := .int .i64 x) rfl
        have e1 := HW.out.1.cell (j := 1) (v := .int .i64 y) rfl
        clear hbn
        go_wp2_with fail
        clear e0 e1
        refine (noalloc_commit _ _ (.inl rfl)).mono ?_
        rintro e wn ⟨rfl, hbn⟩
        replace HW := Lib.hid (HW.out.keep hbn)
        have e0 := HW.out.1.cell (j := 0) (v := .int .i64 x) rfl
        have e1 := HW.out.1.cell (j := 1) (v := .int .i64 y) rfl
        clear hbn
        go_wp2_with fail
        clear e0 e1
        refine (noalloc_abort _ _ (.inl rfl)).mono ?_
        rintro e wn ⟨rfl, hbn⟩
        replace HW := Lib.hid (HW.out.keep hbn)
        have e0 := HW.out.1.cell (j := 0) (v := .int .i64 x) rfl
        have e1 := HW.out.1.cell (j := 1) (v := .int .i64 y) rfl
        clear hbn
        go_wp2_with fail
        clear e0 e1
        refine (noalloc_use _ _ x y (.inl rfl)).mono ?_
        rintro e wn ⟨rfl, hbn⟩
        replace HW := Lib.hid (HW.out.keep hbn)
        have e0 := HW.out.1.cell (j := 0) (v := .int .i64 x) rfl
        have e1 := HW.out.1.cell (j := 1) (v := .int .i64 y) rfl
        clear hbn
        go_wp2_with fail
        clear e0 e1
        refine (noalloc_give _ _ x y (.inl rfl)).mono ?_
        rintro e wn ⟨rfl, hbn⟩
        replace HW := Lib.hid (HW.out.keep hbn)
        have e0 := HW.out.1.cell (j := 0) (v := .int .i64 x) rfl
        have e1 := HW.out.1.cell (j := 1) (v := .int .i64 y) rfl
        clear hbn
        go_wp2_with fail
        clear e0 e1
        refine (noalloc_later _ _ x y (.inl rfl)).mono ?_
        rintro e wn ⟨rfl, hbn⟩
        replace HW := Lib.hid (HW.out.keep hbn)
        have e0 := HW.out.1.cell (j := 0) (v := .int .i64 x) rfl
        have e1 := HW.out.1.cell (j := 1) (v := .int .i64 y) rfl
        clear hbn
        go_wp2_with fail
        clear e0 e1
        refine (noalloc_free _ _ (.inl rfl)).mono ?_
        rintro e wn ⟨rfl, hbn⟩
        replace HW := Lib.hid (HW.out.keep hbn)
        have e0 := HW.out.1.cell (j := 0) (v := .int .i64 x) rfl
        have e1 := HW.out.1.cell (j := 1) (v := .int .i64 y) rfl
        clear hbn
        go_wp2_with fail
        clear e0 e1
        refine (noalloc_waiting _ _ (.inl rfl)).mono ?_
        rintro e wn ⟨rfl, hbn⟩
        replace HW := Lib.hid (HW.out.keep hbn)
        have e0 := HW.out.1.cell (j := 0) (v := .int .i64 x) rfl
        have e1 := HW.out.1.cell (j := 1) (v := .int .i64 y) rfl
        clear hbn
        go_wp2_with fail
        clear e0 e1
        refine (noalloc_used _ _ (.inl rfl)).mono ?_
        rintro e wn ⟨rfl, hbn⟩
        replace HW := Lib.hid (HW.out.keep hbn)
        have e0 := HW.out.1.cell (j := 0) (v := .int .i64 x) rfl
        have e1 := HW.out.1.cell (j := 1) (v := .int .i64 y) rfl
        clear hbn
        go_wp2_with fail
        clear e0 e1
        refine (noalloc_spans _ _ (.inl rfl)).mono ?_
        rintro e wn ⟨rfl, hbn⟩
        replace HW := Lib.hid (HW.out.keep hbn)
        have e0 := HW.out.1.cell (j := 0) (v := .int .i64 x) rfl
        have e1 := HW.out.1.cell (j := 1) (v := .int .i64 y) rfl
        clear hbn
        go_wp2_with fail
        clear e0 e1
        go_roundw
        case rel => exact ⟨1, by omega, by go_num, HW.out⟩
        case measure => simp [intOf]
    · go_wp2_with fail
      · clear p0 p1
        refine (noalloc_take _ _ n true HW.out.plain).mono ?_
        rintro e wn ⟨rfl, hbn⟩
        replace HW := Lib.hid (HW.out.keep hbn)
        have e0 := HW.out.1.cell (j := 0) (v := .int .i64 x) rfl
        have e1 := HW.out.1.cell (j := 1) (v := .int .i64 y) rfl
        clear hbn
        go_wp2_with fail
        clear e0 e1
        refine (noalloc_commit _ _ HW.out.plain).mono ?_
        rintro e wn ⟨rfl, hbn⟩
        replace HW := Lib.hid (HW.out.keep hbn)
        have e0 := HW.out.1.cell (j := 0) (v := .int .i64 x) rfl
        have e1 := HW.out.1.cell (j := 1) (v := .int .i64 y) rfl
        clear hbn
        go_wp2_with fail
        clear e0 e1
        refine (noalloc_abort _ _ HW.out.plain).mono ?_
        rintro e wn ⟨rfl, hbn⟩
        replace HW := Lib.hid (HW.out.keep hbn)
        have e0 := HW.out.1.cell (j := 0) (v := .int .i64 x) rfl
        have e1 := HW.out.1.cell (j := 1) (v := .int .i64 y) rfl
        clear hbn
        go_wp2_with fail
        clear e0 e1
        refine (noalloc_use _ _ x y HW.out.plain).mono ?_
        rintro e wn ⟨rfl, hbn⟩
        replace HW := Lib.hid (HW.out.keep hbn)
        have e0 := HW.out.1.cell (j := 0) (v := .int .i64 x) rfl
        have e1 := HW.out.1.cell (j := 1) (v := .int .i64 y) rfl
        clear hbn
        go_wp2_with fail
        clear e0 e1
        refine (noalloc_give _ _ x y HW.out.plain).mono ?_
        rintro e wn ⟨rfl, hbn⟩
        replace HW := Lib.hid (HW.out.keep hbn)
        have e0 := HW.out.1.cell (j := 0) (v := .int .i64 x) rfl
        have e1 := HW.out.1.cell (j := 1) (v := .int .i64 y) rfl
        clear hbn
        go_wp2_with fail
        clear e0 e1
        refine (noalloc_later _ _ x y HW.out.plain).mono ?_
        rintro e wn ⟨rfl, hbn⟩
        replace HW := Lib.hid (HW.out.keep hbn)
        have e0 := HW.out.1.cell (j := 0) (v := .int .i64 x) rfl
        have e1 := HW.out.1.cell (j := 1) (v := .int .i64 y) rfl
        clear hbn
        go_wp2_with fail
        clear e0 e1
        refine (noalloc_free _ _ HW.out.plain).mono ?_
        rintro e wn ⟨rfl, hbn⟩
        replace HW := Lib.hid (HW.out.keep hbn)
        have e0 := HW.out.1.cell (j := 0) (v := .int .i64 x) rfl
        have e1 := HW.out.1.cell (j := 1) (v := .int .i64 y) rfl
        clear hbn
        go_wp2_with fail
        clear e0 e1
        refine (noalloc_waiting _ _ HW.out.plain).mono ?_
        rintro e wn ⟨rfl, hbn⟩
        replace HW := Lib.hid (HW.out.keep hbn)
        have e0 := HW.out.1.cell (j := 0) (v := .int .i64 x) rfl
        have e1 := HW.out.1.cell (j := 1) (v := .int .i64 y) rfl
        clear hbn
        go_wp2_with fail
        clear e0 e1
        refine (noalloc_used _ _ HW.out.plain).mono ?_
        rintro e wn ⟨rfl, hbn⟩
        replace HW := Lib.hid (HW.out.keep hbn)
        have e0 := HW.out.1.cell (j := 0) (v := .int .i64 x) rfl
        have e1 := HW.out.1.cell (j := 1) (v := .int .i64 y) rfl
        clear hbn
        go_wp2_with fail
        clear e0 e1
        refine (noalloc_spans _ _ HW.out.plain).mono ?_
        rintro e wn ⟨rfl, hbn⟩
        replace HW := Lib.hid (HW.out.keep hbn)
        have e0 := HW.out.1.cell (j := 0) (v := .int .i64 x) rfl
        have e1 := HW.out.1.cell (j := 1) (v := .int .i64 y) rfl
        clear hbn
        go_wp2_with fail
        clear e0 e1
        go_roundw
        case rel => exact ⟨2, by omega, by go_num, HW.out⟩
        case measure => simp [intOf]
    · clear p0 p1 plt
      have HN := Lib.hid (new_alloc wr 0 5 0 (by omega) (by omega) (by omega) (by omega) (by omega))
      have HOK := Lib.hid ((new_good (lo := 0) (hi := 5) (res := 0) (by omega) (by omega) (by omega) (by omega) (by omega)).1.ok (by show (0 : Int) ≤ _; omega))
      go_wp2_with fail
      refine HN.out.mono ?_
      rintro e w1 ⟨p, m, rfl, hp, hm, hb1, F, S, o, hA1⟩
      have HB1 := Lib.hid (HW.out.2.2.2.trans (hb1.mono HW.out.2.2.2.size))
      have HF := alloc_free hA1 HOK.out
      rw [five_free] at HF
      have HF := Lib.hid HF
      clear HN hb1 hA1
      go_wp2_with fail
      refine HF.out.mono ?_
      rintro e w2 ⟨rfl, hb2⟩
      have HB2 := Lib.hid (HB1.out.trans (hb2.mono HB1.out.size))
      go_wp2_with fail
      go_ret
      exact ⟨rfl, HB2.out⟩
end Go.Proofs.Ytnlkljmboifnkaa

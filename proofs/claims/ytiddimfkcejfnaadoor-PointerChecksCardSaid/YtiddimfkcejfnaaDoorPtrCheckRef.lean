/- The document's Check: for any pointer and any bytes (at most 1000000): as the program's. -/
import Derived.Test.YtiddimfkcejfnaaDoorPtrOfRef
import Derived.Test.YtiddimfkcejfnaaDoorPtrCheck
import Derived.Test.YtiddimfkcejfnaaDoorPtrRefRight
namespace Go.Proofs.YtiddimfkcejfnaaDoor
open Go.RowKit

/-- The three that are asked. -/
theorem same_parts (p : Pt) (xs : List Int) : Pt.same (ofP p.place p.birth xs) p = (decide ((xs.length : Int) = p.len) && (decide (crcS xs = p.crc) && decide (shaS xs = p.sha))) := by
  rw [Bool.eq_iff_iff, Pt.same_iff]
  simp only [Bool.and_eq_true, decide_eq_true_eq]
  constructor
  · intro h
    exact ⟨congrArg Pt.len h, congrArg Pt.crc h, congrArg Pt.sha h⟩
  · rintro ⟨h1, h2, h3⟩
    cases p
    unfold ofP
    simp only [Pt.mk.injEq, true_and]
    exact ⟨h1, h2, h3⟩
theorem neq_sums (w : World) (xs ys : List Int) (hx : xs.length = 32) (hy : ys.length = 32) : (binOp .neq 23 (.agg (bcells xs)) (.agg (bcells ys))).run Tryd.prog w = .ok (.bool (!decide (xs = ys))) w := by
  rw [run_neq_struct, run_equal_bytes w 9998 23 5 32 Tryd.underlying23 Tryd.underlying5 (size_one Tryd.size8) xs ys hx hy]
  rfl
theorem row_shaCells {w : World} {g : Nat} {p : Pt} (h : Row w g 25 (pcells p)) : Cells w g 4 (bcells p.sha) := fun j v hv => by
  have hj : j < p.sha.length := by
    rcases Nat.lt_or_ge j p.sha.length with h' | h'
    · exact h'
    · rw [Array.getElem?_eq_none (by rw [bcells_size]; exact h')] at hv; cases hv
  rw [bcells_at p.sha j hj] at hv
  exact h.cell ((pcells_sha p j hj).trans hv)
set_option maxHeartbeats 2000000 in
theorem refCheck_any (p : Pt) (A : Option Addr) (n c : Nat) (xs : List Int) (w : World) (hp : p.Ok) (hn : n = xs.length) (hs : Src .u8 w A xs) (hx : IsBytes xs) (hl : n ≤ 1000000) (hnc : n ≤ c) (hc : c ≤ 9223372036854775807) :
    Calls Tryd.prog 8 #[.agg (pcells p), .slice A n c] w fun e w' => e = .returned (.int .i64 (checkP p xs)) ∧ Below w.heap.size w w' := by
  have r1 := Row.new w 25 (pcells p)
  have b1 : Below w.heap.size w (w.alloc (.cells (pcells p) 25)) := (Below.refl _ _).alloc (Nat.le_refl _) _
  have HPS := Lib.hid (pt_size hp.shaL)
  have HSS : Hid ((Tryd.prog.info? 23).map (·.size) = some (bcells p.sha).size) := Lib.hid (by rw [Tryd.size32, bcells_size, hp.shaL])
  have HR := Lib.hid (fun w' => refRight_any p w' hp)
  have HO := Lib.hid (fun w' (hb : Below w.heap.size w w') => refCrc_any A n c xs w' hn (hs.keep hb) hx hl)
  have HU := Lib.hid (fun w' (hb : Below w.heap.size w w') => refSha_any A n c xs w' hn (hs.keep hb) hx hnc hc)
  have HQ := Lib.hid (fun w' => neq_sums w' (shaS xs) p.sha (shaS_length xs) hp.shaL)
  obtain ⟨R, hR⟩ : ∃ R, checkP p xs = R := ⟨_, rfl⟩
  have HD := Lib.hid (show R = if p.right = true then (if (decide ((n : Int) = p.len) && (decide (crcS xs = p.crc) && decide (shaS xs = p.sha))) = true then 0 else 12) else 2 by rw [← hR, hn, ← same_parts]; rfl)
  rw [hR]
  have d0 := crcS_lo xs
  have d1 := crcS_hi xs
  clear hR hp hn hs hx hnc hc
  generalize decide (shaS xs = p.sha) = v at *
  generalize bcells (shaS xs) = ss at *
  generalize crcS xs = d at *
  go_enter Tryd.func8, Tryd.ntmps8
  go_wp2_with (refine wpList_load_cells rfl 25 (.tmp 2) rfl w.heap.size 0 rfl (pcells p) _ r1.cells Tryd.underlying25 rfl HPS.out ?_)
  refine (HR.out _).mono ?_
  rintro e w1 ⟨rfl, hb1⟩
  have r2 := r1.keep hb1
  have b2 := b1.trans (hb1.mono b1.size)
  clear r1 b1 hb1 HR
  cases hr : p.right with
  | false =>
    have HE := Lib.hid (show R = 2 by rw [HD.out, hr]; rfl)
    clear hr
    go_wp2_with fail
    go_ret
    exact ⟨by rw [HE.out]; rfl, b2⟩
  | true =>
    have HE := Lib.hid (show R = if (decide ((n : Int) = p.len) && (decide (d = p.crc) && v)) = true then 0 else 12 by rw [HD.out, hr]; rfl)
    clear hr
    go_wp2_with fail
    have r3 := r2.drew
    have b3 := b2.drew
    clear r2 b2
    have c2 : ∀ x : Above w1.drew, x.1.cell? ⟨w.heap.size, 2, none⟩ = some (.int .i64 p.len) := r3.above (pcells_2 p)
    refine wp_region_segs [([0, 2, 3], 1), ([4, 5, 6, 8, 9], 7), ([10, 11, 12, 13, 15, 16], 14)] [17, 18] (by kernel_rfl) (by kernel_rfl) (by kernel_rfl) (by kernel_rfl) (fun _ _ d _ _ h => by cases d <;> exact h) ?_
    refine wpSegs_next (by simp [pickOps]; rfl) ?_
    repeat (go_big_quiet_step (fail))
    refine wpQuiet_nil ?_
    refine wpOp_alone rfl rfl (fun K hK => ?_)
    go_simp
    refine hK _ _ ⟨Ext.refl _, ?_⟩
    clear hK K
    clear c2
    by_cases hne : (n : Int) = p.len
    · have t1 : ((n : Int) != p.len) = false := by simpa using hne
      have HNE := Lib.hid hne
      clear hne
      have c3 : ∀ x : Above w1.drew, x.1.cell? ⟨w.heap.size, 3, none⟩ = some (.int .u32 p.crc) := r3.above (pcells_3 p)
      refine wpSegs_next (by simp [pickOps]; rfl) ?_
      repeat (go_big_quiet_step (fail))
      refine wpQuiet_nil ?_
      refine wpOp_alone rfl rfl (fun K hK => ?_)
      go_simp
      refine (HO.out _ b3).mono ?_
      rintro e w2 ⟨rfl, hb2⟩
      have b4 := b3.trans (hb2.mono b3.size)
      have r4 := r3.keep hb2
      refine hK _ _ ⟨hb2, ?_⟩
      clear hK K hb2 b3 c3 r3 t1
      by_cases hce : d = p.crc
      · have t2 : (d != p.crc) = false := by simpa using hce
        have HCE := Lib.hid hce
        clear hce
        refine wpSegs_next (by simp [pickOps]; rfl) ?_
        repeat (go_big_quiet_step (fail))
        refine wpQuiet_load_cells rfl 23 (.tmp 23) rfl w.heap.size 4 rfl (bcells p.sha) _ (row_shaCells r4) r4.lt Tryd.underlying23 rfl HSS.out ?_
        refine wpQuiet_nil ?_
        refine wpOp_alone rfl rfl (fun K hK => ?_)
        go_simp
        refine (HU.out _ b4).mono ?_
        rintro e w3 ⟨rfl, hb3⟩
        have b5 := b4.trans (hb3.mono b4.size)
        refine hK _ _ ⟨hb3, ?_⟩
        clear hK K hb3 b4 r4 t2
        have hq := HQ.out
        refine wpSegs_last (by simp [pickOps]; rfl) ?_
        repeat (go_big_quiet_step (fail))
        refine wpQuiet_nil ?_
        clear hq
        cases v with
        | true =>
          have HE2 := Lib.hid (show R = 0 by rw [HE.out, decide_eq_true HNE.out, decide_eq_true HCE.out]; rfl)
          go_wp2_with fail
          go_ret
          exact ⟨by rw [HE2.out]; rfl, b5⟩
        | false =>
          have HE2 := Lib.hid (show R = 12 by rw [HE.out, Bool.and_false, Bool.and_false]; rfl)
          go_wp2_with fail
          go_ret
          exact ⟨by rw [HE2.out]; rfl, b5⟩
      · have t2 : (d != p.crc) = true := by simpa using hce
        have HE2 := Lib.hid (show R = 12 by rw [HE.out, decide_eq_false hce, Bool.false_and, Bool.and_false]; rfl)
        clear hce
        refine wpSegs_next (by simp [pickOps]; rfl) ?_
        repeat (go_big_quiet_step (fail))
        refine wpQuiet_nil ?_
        refine wpOp_skip rfl rfl ⟨Ext.refl _, ?_⟩
        go_simp
        refine wpSegs_last (by simp [pickOps]; rfl) ?_
        repeat (go_big_quiet_step (fail))
        refine wpQuiet_nil ?_
        go_wp2_with fail
        go_ret
        exact ⟨by rw [HE2.out]; rfl, b4⟩
    · have t1 : ((n : Int) != p.len) = true := by simpa using hne
      have HE2 := Lib.hid (show R = 12 by rw [HE.out, decide_eq_false hne, Bool.false_and]; rfl)
      clear hne
      refine wpSegs_next (by simp [pickOps]; rfl) ?_
      repeat (go_big_quiet_step (fail))
      refine wpQuiet_nil ?_
      refine wpOp_skip rfl rfl ⟨Ext.refl _, ?_⟩
      go_simp
      refine wpSegs_next (by simp [pickOps]; rfl) ?_
      repeat (go_big_quiet_step (fail))
      refine wpQuiet_nil ?_
      refine wpOp_skip rfl rfl ⟨Ext.refl _, ?_⟩
      go_simp
      refine wpSegs_last (by simp [pickOps]; rfl) ?_
      repeat (go_big_quiet_step (fail))
      refine wpQuiet_nil ?_
      go_wp2_with fail
      go_ret
      exact ⟨by rw [HE2.out]; rfl, b3⟩
end Go.Proofs.YtiddimfkcejfnaaDoor

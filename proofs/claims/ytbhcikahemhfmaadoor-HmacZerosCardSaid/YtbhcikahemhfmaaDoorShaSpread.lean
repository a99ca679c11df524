/- spread makes the 16 words of a block 64: the document's words, for any 64 bytes. -/
import Derived.Test.YtbhcikahemhfmaaDoorShaWords
import Derived.Test.YtbhcikahemhfmaaDoorDraw
import Derived.StillTailTactics
import Derived.IntWalk
namespace Go.Proofs.YtbhcikahemhfmaaDoor.Sha3
open Go.RowKit

theorem rows3 (w : World) (A B C : Array Value) (ta tb tc : TypeId) :
    Row (((w.alloc (.cells A ta)).alloc (.cells B tb)).alloc (.cells C tc)) w.heap.size ta A ∧ Row (((w.alloc (.cells A ta)).alloc (.cells B tb)).alloc (.cells C tc)) (w.heap.size + 1) tb B ∧
    Row (((w.alloc (.cells A ta)).alloc (.cells B tb)).alloc (.cells C tc)) (w.heap.size + 1 + 1) tc C ∧ Below w.heap.size w (((w.alloc (.cells A ta)).alloc (.cells B tb)).alloc (.cells C tc)) := by
  have h1 := Row.new w ta A
  have h2 := Row.new (w.alloc (.cells A ta)) tb B
  have h3 := Row.new ((w.alloc (.cells A ta)).alloc (.cells B tb)) tc C
  simp at h2 h3
  refine ⟨(h1.old _).old _, h2.old _, h3, (((Below.refl _ _).alloc (Nat.le_refl _) _).alloc (by simp) _).alloc (by simp; omega) _⟩

/-- At a round's head: k words are there. -/
def SpAt (w : World) (bs : List Int) (l : List Wd) (i : Value) (wr : World) : Prop :=
  ∃ k : Nat, k ≤ 16 ∧ i = .int .i64 k ∧ Row wr w.heap.size 43 (bcells bs) ∧ Row wr (w.heap.size + 1) 45 (wcells (List.replicate 64 0#32)) ∧ Row wr (w.heap.size + 1 + 1) 45 (wcells (partly l 0#32 k)) ∧ Below w.heap.size w wr

/-- .. from the sixteenth word on. -/
def SpMore (w : World) (l : List Wd) (i : Value) (wr : World) : Prop :=
  ∃ k : Nat, 16 ≤ k ∧ k ≤ 64 ∧ i = .int .i64 k ∧ Row wr (w.heap.size + 1) 45 (wcells (List.replicate 64 0#32)) ∧ Row wr (w.heap.size + 1 + 1) 45 (wcells (partly l 0#32 k)) ∧ Below w.heap.size w wr
theorem row_next {w : World} {g t k : Nat} {l : List Wd} {x : Wd} (h : Row w g t (wcells (partly l 0#32 k))) (hk : k < l.length) (hx : l.getD k 0#32 = x) : Row (w.setCell ⟨g, k, none⟩ (.int .u32 (uv x))) g t (wcells (partly l 0#32 (k + 1))) := by
  subst hx
  rw [← partly_set l 0#32 0#32 k hk, ← wcells_set]
  exact h.set k _
theorem row_word {w : World} {g t k j : Nat} {l : List Wd} (h : Row w g t (wcells (partly l 0#32 k))) (hk : k ≤ l.length) (hj : j < k) : w.cell? ⟨g, j, none⟩ = some (.int .u32 (uv (l.getD j 0#32))) := by
  rw [h.cell (wcells_at _ j (by rw [partly_length]; omega)), partly_getD l 0#32 0#32 k j hj, if_pos (by omega)]
theorem row_there {w : World} {g t k j : Nat} {l : List Wd} (h : Row w g t (wcells (partly l 0#32 k))) (hj : j < l.length) : w.cell? ⟨g, j, none⟩ = some (.int .u32 (uv ((partly l 0#32 k).getD j 0#32))) :=
  h.cell (wcells_at _ j (by rw [partly_length]; exact hj))
theorem next_uv (x w7 y w16 : Wd) : (bits .xor .u32 (bits .xor .u32 (uv (rotW x 17)) (uv (rotW x 19))) (uv x / 1024) + uv w7 + bits .xor .u32 (bits .xor .u32 (uv (rotW y 7)) (uv (rotW y 18))) (uv y / 8) + uv w16) % 4294967296 = uv (nextW x w7 y w16) := by
  have e1 : uv x / (1024 : Int) = uv (x >>> 10) := shr_uv x 10
  have e2 : uv y / (8 : Int) = uv (y >>> 3) := shr_uv y 3
  rw [e1, e2, xor_uv, xor_uv, xor_uv, xor_uv, add4_mod]
  rfl

set_option maxRecDepth 100000 in
set_option maxHeartbeats 1000000 in
theorem spread_gen (bs : List Int) (l : List Wd) (w : World) (hl : bs.length = 64) (hx : IsBytes bs) (hlen : l.length = 64) (hhead : ∀ t, t < 16 → l.getD t 0#32 = headW bs t)
    (hnext : ∀ t, 16 ≤ t → t < 64 → l.getD t 0#32 = nextW (l.getD (t - 2) 0#32) (l.getD (t - 7) 0#32) (l.getD (t - 15) 0#32) (l.getD (t - 16) 0#32)) :
    Calls Tryd.prog 30 #[.agg (bcells bs)] w fun e w' => e = .returned (.agg (wcells l)) ∧ Below w.heap.size w w' := by
  have Hl := Lib.hid hl
  have HL := Lib.hid hlen
  have HH := Lib.hid hhead
  have HN := Lib.hid hnext
  clear hl hlen hhead hnext
  go_enter Tryd.func30, Tryd.ntmps30
  go_wp2_with fail
  go_loopw [8] (fun i wr => SpAt w bs l i wr) (fun i _ => 16 - (intOf i).toNat)
  case atStart =>
    obtain ⟨h1, h2, h3, h4⟩ := rows3 w (bcells bs) (wcells (List.replicate 64 0#32)) (wcells (List.replicate 64 0#32)) 43 45 45
    exact ⟨0, Nat.zero_le _, rfl, h1, h2, by rw [partly_none, HL.out]; exact h3, h4⟩
  case round =>
    obtain ⟨k, hk, rfl, r1, r2, r3, hb⟩ := hrel
    by_cases hlt : k < 16
    · obtain ⟨j0, e0⟩ : ∃ j : Nat, 4 * k = j := ⟨_, rfl⟩
      obtain ⟨j1, e1⟩ : ∃ j : Nat, j0 + 1 = j := ⟨_, rfl⟩
      obtain ⟨j2, e2⟩ : ∃ j : Nat, j0 + 2 = j := ⟨_, rfl⟩
      obtain ⟨j3, e3⟩ : ∃ j : Nat, j0 + 3 = j := ⟨_, rfl⟩
      have c0 := r1.cell (bcells_at bs j0 (by rw [Hl.out]; omega))
      have c1 := r1.cell (bcells_at bs j1 (by rw [Hl.out]; omega))
      have c2 := r1.cell (bcells_at bs j2 (by rw [Hl.out]; omega))
      have c3 := r1.cell (bcells_at bs j3 (by rw [Hl.out]; omega))
      have b0 := hx.at_ j0
      have b1 := hx.at_ j1
      have b2 := hx.at_ j2
      have b3 := hx.at_ j3
      have f3 := r3.free k
      have c4 := row_there (j := k) r3 (by rw [HL.out]; omega)
      have g0 : (j0 : Int) < 64 := by omega
      have g1 : (j1 : Int) < 64 := by omega
      have g2 : (j2 : Int) < 64 := by omega
      have g3 : (j3 : Int) < 64 := by omega
      have s0 : IntKind.i64.wrap (4 * (k : Int)) = (j0 : Int) := by rw [IntWalk.i64_in _ (by omega)]; omega
      have s1 : IntKind.i64.wrap ((j0 : Int) + 1) = (j1 : Int) := by rw [IntWalk.i64_in _ (by omega)]; omega
      have s2 : IntKind.i64.wrap ((j0 : Int) + 2) = (j2 : Int) := by rw [IntWalk.i64_in _ (by omega)]; omega
      have s3 : IntKind.i64.wrap ((j0 : Int) + 3) = (j3 : Int) := by rw [IntWalk.i64_in _ (by omega)]; omega
      have HW := Lib.hid (show l.getD k 0#32 = fourW (bs.getD j0 0) (bs.getD j1 0) (bs.getD j2 0) (bs.getD j3 0) by rw [HH.out k hlt, ← e1, ← e2, ← e3, ← e0]; rfl)
      clear e0 e1 e2 e3
      generalize bs.getD j0 0 = x0 at *
      generalize bs.getD j1 0 = x1 at *
      generalize bs.getD j2 0 = x2 at *
      generalize bs.getD j3 0 = x3 at *
      have HF := Lib.hid (four_uv x0 x1 x2 x3 b0 b1 b2 b3)
      clear b0 b1 b2 b3
      have gk : (k : Int) < 64 := by omega
      go_wp2_with fail
      go_still_tail 31, (by kernel_rfl)
      rw [HF.out]
      change wpList _ _ _ _ _ wr.drew
      go_wp2_with fail
      refine ⟨⟨k + 1, by omega, by go_num, r1.other (by omega) _ _, r2.other (by omega) _ _, row_next r3 (by rw [HL.out]; omega) HW.out, (hb.setCell (p := ⟨w.heap.size + 1 + 1, k, none⟩) (Nat.le_add_right_of_le (Nat.le_add_right _ _)) _).drew⟩, ?_⟩
      simp [intOf]; omega
    · obtain rfl : k = 16 := by omega
      rw [show ((16 : Nat) : Int) = (16 : Int) from rfl]
      go_wp2_with fail
      go_loopw [5] (fun i wr => SpMore w l i wr) (fun i _ => 64 - (intOf i).toNat)
      case atStart => exact ⟨16, by omega, by omega, rfl, r2, r3, hb⟩
      case round =>
        clear r1 r2 r3 hb hk hlt
        obtain ⟨k, hk0, hk, rfl, r2, r3, hb⟩ := hrel
        by_cases hlt : k < 64
        · obtain ⟨j2, e2⟩ : ∃ j : Nat, k - 2 = j := ⟨_, rfl⟩
          obtain ⟨j7, e7⟩ : ∃ j : Nat, k - 7 = j := ⟨_, rfl⟩
          obtain ⟨j15, e15⟩ : ∃ j : Nat, k - 15 = j := ⟨_, rfl⟩
          obtain ⟨j16, e16⟩ : ∃ j : Nat, k - 16 = j := ⟨_, rfl⟩
          have HW := Lib.hid (HN.out k hk0 hlt)
          rw [e2, e7, e15, e16] at HW
          have c2 := row_word (j := j2) r3 (by rw [HL.out]; omega) (by omega)
          have c7 := row_word (j := j7) r3 (by rw [HL.out]; omega) (by omega)
          have c15 := row_word (j := j15) r3 (by rw [HL.out]; omega) (by omega)
          have c16 := row_word (j := j16) r3 (by rw [HL.out]; omega) (by omega)
          have ck := row_there (j := k) r3 (by rw [HL.out]; omega)
          have fk := r3.free k
          generalize l.getD j2 0#32 = x at *
          generalize l.getD j7 0#32 = w7 at *
          generalize l.getD j15 0#32 = y at *
          generalize l.getD j16 0#32 = w16 at *
          have g2 : (j2 : Int) < 64 := by omega
          have g7 : (j7 : Int) < 64 := by omega
          have g15 : (j15 : Int) < 64 := by omega
          have g16 : (j16 : Int) < 64 := by omega
          have gk : (k : Int) < 64 := by omega
          have s2 : IntKind.i64.wrap ((k : Int) - 2) = (j2 : Int) := by rw [IntWalk.i64_in _ (by omega)]; omega
          have s7 : IntKind.i64.wrap ((k : Int) - 7) = (j7 : Int) := by rw [IntWalk.i64_in _ (by omega)]; omega
          have s15 : IntKind.i64.wrap ((k : Int) - 15) = (j15 : Int) := by rw [IntWalk.i64_in _ (by omega)]; omega
          have s16 : IntKind.i64.wrap ((k : Int) - 16) = (j16 : Int) := by rw [IntWalk.i64_in _ (by omega)]; omega
          clear e2 e7 e15 e16
          go_wp2_with fail
          go_quiet (fail)
          go_wp2_with fail
          have HV := Lib.hid (next_uv x w7 y w16)
          have q2 := r2.drewN nq
          have q3 := r3.drewN nq
          have qb := below_drewN hb nq
          have q7 : (wr.drewN nq).cell? ⟨w.heap.size + 1 + 1, j7, none⟩ = some (.int .u32 (uv w7)) := c7
          have q16 : (wr.drewN nq).cell? ⟨w.heap.size + 1 + 1, j16, none⟩ = some (.int .u32 (uv w16)) := c16
          have qk : (wr.drewN nq).cell? ⟨w.heap.size + 1 + 1, k, none⟩ = _ := ck
          clear c2 c7 c15 c16 ck fk r2 r3 hb
          generalize wr.drewN nq = wq at *
          have d7 : ∀ g : Above wq.drew, g.1.cell? ⟨w.heap.size + 1 + 1, j7, none⟩ = some (.int .u32 (uv w7)) := fun g => (g.2.cell (p := ⟨w.heap.size + 1 + 1, j7, none⟩) q3.lt).trans q7
          have d16 : ∀ g : Above wq.drew, g.1.cell? ⟨w.heap.size + 1 + 1, j16, none⟩ = some (.int .u32 (uv w16)) := fun g => (g.2.cell (p := ⟨w.heap.size + 1 + 1, j16, none⟩) q3.lt).trans q16
          refine wp_region_segsT 29 [([0, 1, 3, 6, 7, 9, 10, 11, 12, 14, 16, 19, 20, 23, 24, 25, 26], 2), ([], 4), ([5, 8, 13], 15), ([], 17)] [18, 21, 22, 27, 28] (by kernel_rfl) (by kernel_rfl) ⟨by kernel_rfl, by decide⟩ (by kernel_rfl) (by kernel_rfl) (fun _ _ d _ _ h => by cases d <;> exact h) ?_
          refine wpSegsT_next (by simp [pickOps]; rfl) ?_
          repeat (go_big_quiet_step (fail))
          refine wpQuiet_nil ?_
          clear d7 d16
          refine wpOp_alone rfl rfl (fun K hK => ?_)
          go_simp
          refine (rot_at x 17 17 rfl _ (by omega) (by omega)).mono ?_
          rintro e w' ⟨rfl, m1, rfl⟩
          refine hK _ _ ⟨⟨rfl, rfl, rfl, Nat.le_refl _, fun _ _ => rfl⟩, ?_⟩
          clear hK K
          refine wpSegsT_next (by simp [pickOps]; rfl) ?_
          refine wpQuiet_nil ?_
          refine wpOp_alone rfl rfl (fun K hK => ?_)
          go_simp
          refine (rot_at x 19 19 rfl _ (by omega) (by omega)).mono ?_
          rintro e w' ⟨rfl, m2, rfl⟩
          refine hK _ _ ⟨⟨rfl, rfl, rfl, Nat.le_refl _, fun _ _ => rfl⟩, ?_⟩
          clear hK K
          refine wpSegsT_next (by simp [pickOps]; rfl) ?_
          repeat (go_big_quiet_step (fail))
          refine wpQuiet_nil ?_
          refine wpOp_alone rfl rfl (fun K hK => ?_)
          go_simp
          refine (rot_at y 7 7 rfl _ (by omega) (by omega)).mono ?_
          rintro e w' ⟨rfl, m3, rfl⟩
          refine hK _ _ ⟨⟨rfl, rfl, rfl, Nat.le_refl _, fun _ _ => rfl⟩, ?_⟩
          clear hK K
          refine wpSegsT_next (by simp [pickOps]; rfl) ?_
          refine wpQuiet_nil ?_
          refine wpOp_alone rfl rfl (fun K hK => ?_)
          go_simp
          refine (rot_at y 18 18 rfl _ (by omega) (by omega)).mono ?_
          rintro e w' ⟨rfl, m4, rfl⟩
          refine hK _ _ ⟨⟨rfl, rfl, rfl, Nat.le_refl _, fun _ _ => rfl⟩, ?_⟩
          clear hK K
          refine wpSegsT_last (by simp [pickOps]; rfl) ?_
          repeat (go_big_quiet_step (fail))
          refine wpQuiet_nil ?_
          have qf := q3.free k
          refine wpOp_alone rfl rfl (fun K hK => ?_)
          go_simp
          refine hK _ _ ?_
          clear hK K qk qf q7 q16
          go_wp2_with fail
          rw [HV.out]
          refine ⟨⟨k + 1, by omega, by omega, by go_num, (q2.drewN _).other (by omega) _ _, row_next (q3.drewN _) (by rw [HL.out]; omega) HW.out, (below_drewN qb _).setCell (p := ⟨w.heap.size + 1 + 1, k, none⟩) (Nat.le_add_right_of_le (Nat.le_add_right _ _)) _⟩, ?_⟩
          simp [intOf]; omega
        · obtain rfl : k = 64 := by omega
          rw [show ((64 : Nat) : Int) = (64 : Int) from rfl]
          rw [partly_all l _ _ (by rw [HL.out]; omega)] at r3
          go_wp2_with (first
            | (refine wpList_load_row rfl 45 (.tmp 3) rfl (w.heap.size + 1 + 1) rfl 45 (wcells l) (0, 0) _ r3 Tryd.underlying45 rfl (by rw [Tryd.size33, wcells_size, HL.out]) ?_)
            | (refine wpList_store_row rfl 45 (.tmp 2) (.tmp 84) rfl (w.heap.size + 1) (wcells l) rfl rfl 45 (wcells (List.replicate 64 0#32)) r2 (by rw [Tryd.size33, wcells_size, HL.out]) (by rw [wcells_size, wcells_size, HL.out, List.length_replicate]) (wcells_one l) ?_))
          exact bodyPost_ret (v := .agg (wcells l)) (results_cell_row Tryd.results30 _ _ (w.heap.size + 1) 45 (wcells l) (0, 0) _ rfl (r2.setRow (wcells l)) Tryd.underlying45 rfl (by rw [Tryd.size33, wcells_size, HL.out])) rfl ⟨rfl, below_setRow hb (Nat.le_add_right _ _) _⟩
theorem spread_any (bs : List Int) (w : World) (hl : bs.length = 64) (hx : IsBytes bs) :
    Calls Tryd.prog 30 #[.agg (bcells bs)] w fun e w' => e = .returned (.agg (wcells (spreadW bs))) ∧ Below w.heap.size w w' :=
  spread_gen bs (spreadW bs) w hl hx (spreadW_length bs) (spreadW_head bs) (spreadW_next bs)
end Go.Proofs.YtbhcikahemhfmaaDoor.Sha3

/- step: what a step makes of three words, and which word of the block it takes; read: the words of a block: the document's, for any words, any step, any 64 bytes. -/
import Derived.Test.YtfjkejdnbegomaaDoorMd5Arr
import Derived.StillTailTactics
import Derived.IntWalk
namespace Go.Proofs.YtfjkejdnbegomaaDoor.Md5
open Go.RowKit

theorem f0_uv (i : Nat) (b c d : Wd) (h : i < 16) : bits .or .u32 (bits .and .u32 (uv b) (uv c)) (bits .and .u32 (uv (~~~b)) (uv d)) = uv (fW i b c d) := by
  unfold fW
  rw [if_pos h, and_uv, and_uv, or_uv]
theorem f1_uv (i : Nat) (b c d : Wd) (h0 : 16 ≤ i) (h : i < 32) : bits .or .u32 (bits .and .u32 (uv d) (uv b)) (bits .and .u32 (uv (~~~d)) (uv c)) = uv (fW i b c d) := by
  unfold fW
  rw [if_neg (by omega), if_pos h, and_uv, and_uv, or_uv]
theorem f2_uv (i : Nat) (b c d : Wd) (h0 : 32 ≤ i) (h : i < 48) : bits .xor .u32 (bits .xor .u32 (uv b) (uv c)) (uv d) = uv (fW i b c d) := by
  unfold fW
  rw [if_neg (by omega), if_neg (by omega), if_pos h, xor_uv, xor_uv]
theorem f3_uv (i : Nat) (b c d : Wd) (h0 : 48 ≤ i) : bits .xor .u32 (uv c) (bits .or .u32 (uv b) (uv (~~~d))) = uv (fW i b c d) := by
  unfold fW
  rw [if_neg (by omega), if_neg (by omega), if_neg (by omega), or_uv, xor_uv]
theorem k0_i (i : Nat) (h : i < 16) : (kI i : Int) = (i : Int) := by unfold kI; rw [if_pos h]
theorem k1_i (i : Nat) (h0 : 16 ≤ i) (h : i < 32) : (kI i : Int) = 5 * (i : Int) + 1 := by unfold kI; rw [if_neg (by omega), if_pos h]; omega
theorem k2_i (i : Nat) (h0 : 32 ≤ i) (h : i < 48) : (kI i : Int) = 3 * (i : Int) + 5 := by unfold kI; rw [if_neg (by omega), if_neg (by omega), if_pos h]; omega
theorem k3_i (i : Nat) (h0 : 48 ≤ i) : (kI i : Int) = 7 * (i : Int) := by unfold kI; rw [if_neg (by omega), if_neg (by omega), if_neg (by omega)]; omega
theorem kI_lt (i : Nat) (h : i < 64) : kI i < 448 := by
  unfold kI
  split
  · omega
  · split
    · omega
    · split <;> omega
theorem quo16 (i q : Nat) (h : 16 * q ≤ i) (h2 : i < 16 * q + 16) : (i : Int) / 16 = (q : Int) ∧ (i : Int).tdiv 16 = (q : Int) := by
  refine ⟨by omega, ?_⟩
  rw [Int.tdiv_eq_ediv_of_nonneg (by omega)]
  omega

set_option maxHeartbeats 1000000 in
theorem step_any (i : Nat) (b c d : Wd) (w : World) (hi : i < 64) :
    Calls Tryd.prog 22 #[.int .i64 i, .int .u32 (uv b), .int .u32 (uv c), .int .u32 (uv d)] w fun e w' => e = .returned (.tuple #[.int .u32 (uv (fW i b c d)), .int .i64 (kI i)]) ∧ w = w' := by
  by_cases h1 : i < 16
  · have HF := Lib.hid (f0_uv i b c d h1)
    have HK := Lib.hid (k0_i i h1)
    obtain ⟨e1, e2⟩ := quo16 i 0 (by omega) (by omega)
    have hn := not_uv b
    go_enter Tryd.func22, Tryd.ntmps22
    go_wp2_with fail
    go_ret2
    exact ⟨by rw [← HF.out, HK.out]; rfl, rfl⟩
  · by_cases h2 : i < 32
    · have HF := Lib.hid (f1_uv i b c d (by omega) h2)
      have HK := Lib.hid (k1_i i (by omega) h2)
      obtain ⟨e1, e2⟩ := quo16 i 1 (by omega) (by omega)
      have hn := not_uv d
      go_enter Tryd.func22, Tryd.ntmps22
      go_wp2_with fail
      go_ret2
      exact ⟨by rw [← HF.out, HK.out]; rfl, rfl⟩
    · by_cases h3 : i < 48
      · have HF := Lib.hid (f2_uv i b c d (by omega) h3)
        have HK := Lib.hid (k2_i i (by omega) h3)
        obtain ⟨e1, e2⟩ := quo16 i 2 (by omega) (by omega)
        go_enter Tryd.func22, Tryd.ntmps22
        go_wp2_with fail
        go_ret2
        exact ⟨by rw [← HF.out, HK.out]; rfl, rfl⟩
      · have HF := Lib.hid (f3_uv i b c d (by omega))
        have HK := Lib.hid (k3_i i (by omega))
        obtain ⟨e1, e2⟩ := quo16 i 3 (by omega) (by omega)
        have hn := not_uv d
        go_enter Tryd.func22, Tryd.ntmps22
        go_wp2_with fail
        go_ret2
        exact ⟨by rw [← HF.out, HK.out]; rfl, rfl⟩

theorem rows3 (w : World) (A B C : Array Value) (ta tb tc : TypeId) :
    Row (((w.alloc (.cells A ta)).alloc (.cells B tb)).alloc (.cells C tc)) w.heap.size ta A ∧ Row (((w.alloc (.cells A ta)).alloc (.cells B tb)).alloc (.cells C tc)) (w.heap.size + 1) tb B ∧
    Row (((w.alloc (.cells A ta)).alloc (.cells B tb)).alloc (.cells C tc)) (w.heap.size + 1 + 1) tc C ∧ Below w.heap.size w (((w.alloc (.cells A ta)).alloc (.cells B tb)).alloc (.cells C tc)) := by
  have h1 := Row.new w ta A
  have h2 := Row.new (w.alloc (.cells A ta)) tb B
  have h3 := Row.new ((w.alloc (.cells A ta)).alloc (.cells B tb)) tc C
  simp at h2 h3
  refine ⟨(h1.old _).old _, h2.old _, h3, (((Below.refl _ _).alloc (Nat.le_refl _) _).alloc (by simp) _).alloc (by simp; omega) _⟩
/-- At a round's head: k words are there. -/
def SpAt (w : World) (bs : List Int) (l : List Wd) (i : Value) (wr : World) : Prop :=
  ∃ k : Nat, k ≤ 16 ∧ i = .int .i64 k ∧ Row wr w.heap.size 32 (bcells bs) ∧ Row wr (w.heap.size + 1) 43 (wcells (List.replicate 16 0#32)) ∧ Row wr (w.heap.size + 1 + 1) 43 (wcells (partly l 0#32 k)) ∧ Below w.heap.size w wr
theorem row_next {w : World} {g t k : Nat} {l : List Wd} {x : Wd} (h : Row w g t (wcells (partly l 0#32 k))) (hk : k < l.length) (hx : l.getD k 0#32 = x) : Row (w.setCell ⟨g, k, none⟩ (.int .u32 (uv x))) g t (wcells (partly l 0#32 (k + 1))) := by
  subst hx
  rw [← partly_set l 0#32 0#32 k hk, ← wcells_set]
  exact h.set k _
theorem row_there {w : World} {g t k j : Nat} {l : List Wd} (h : Row w g t (wcells (partly l 0#32 k))) (hj : j < l.length) : w.cell? ⟨g, j, none⟩ = some (.int .u32 (uv ((partly l 0#32 k).getD j 0#32))) :=
  h.cell (wcells_at _ j (by rw [partly_length]; exact hj))

set_option maxRecDepth 100000 in
set_option maxHeartbeats 1000000 in
theorem read_gen (bs : List Int) (l : List Wd) (w : World) (hl : bs.length = 64) (hx : IsBytes bs) (hlen : l.length = 16) (hhead : ∀ t, t < 16 → l.getD t 0#32 = headW bs t) :
    Calls Tryd.prog 17 #[.agg (bcells bs)] w fun e w' => e = .returned (.agg (wcells l)) ∧ Below w.heap.size w w' := by
  have Hl := Lib.hid hl
  have HL := Lib.hid hlen
  have HH := Lib.hid hhead
  clear hl hlen hhead
  go_enter Tryd.func17, Tryd.ntmps17
  go_wp2_with fail
  go_loopw [5] (fun i wr => SpAt w bs l i wr) (fun i _ => 16 - (intOf i).toNat)
  case atStart =>
    obtain ⟨h1, h2, h3, h4⟩ := rows3 w (bcells bs) (wcells (List.replicate 16 0#32)) (wcells (List.replicate 16 0#32)) 32 43 43
    exact ⟨0, Nat.zero_le _, rfl, h1, h2, by rw [partly_none, HL.out]; exact h3, h4⟩
  case round =>
    obtain ⟨k, hk, rfl, r1, r2, r3, hb⟩ := hrel
    by_cases hlt : k < 16
    · obtain ⟨j0, e0⟩ : ∃ j : Nat, 4 * k = j := ⟨_, rfl⟩
      obtain ⟨j1, e1⟩ : ∃ j : Nat, j0 + 1 = j := ⟨_, rfl⟩
      obtain ⟨j2, e2⟩ : ∃ j : Nat, j0 + 2 = j := ⟨_, rfl⟩
      obtain ⟨j3, e3⟩ : ∃ j : Nat, j0 + 3 = j := ⟨_, rfl⟩
      have c0 := r1.cell (bcells_at bs j0 (by rw [Hl.out]; omega))
      have c1 := r1.cell (bcells_at bs j1 (by rw [Hl.out]; omega))
      have c2 := r1.cell (bcells_at bs j2 (by rw [Hl.out]; omega))
      have c3 := r1.cell (bcells_at bs j3 (by rw [Hl.out]; omega))
      have b0 := hx.at_ j0
      have b1 := hx.at_ j1
      have b2 := hx.at_ j2
      have b3 := hx.at_ j3
      have f3 := r3.free k
      have c4 := row_there (j := k) r3 (by rw [HL.out]; omega)
      have g0 : (j0 : Int) < 64 := by omega
      have g1 : (j1 : Int) < 64 := by omega
      have g2 : (j2 : Int) < 64 := by omega
      have g3 : (j3 : Int) < 64 := by omega
      have s0 : IntKind.i64.wrap (4 * (k : Int)) = (j0 : Int) := by rw [IntWalk.i64_in _ (by omega)]; omega
      have s1 : IntKind.i64.wrap ((j0 : Int) + 1) = (j1 : Int) := by rw [IntWalk.i64_in _ (by omega)]; omega
      have s2 : IntKind.i64.wrap ((j0 : Int) + 2) = (j2 : Int) := by rw [IntWalk.i64_in _ (by omega)]; omega
      have s3 : IntKind.i64.wrap ((j0 : Int) + 3) = (j3 : Int) := by rw [IntWalk.i64_in _ (by omega)]; omega
      have HW := Lib.hid (show l.getD k 0#32 = fourW (bs.getD j0 0) (bs.getD j1 0) (bs.getD j2 0) (bs.getD j3 0) by rw [HH.out k hlt, ← e1, ← e2, ← e3, ← e0]; rfl)
      clear e0 e1 e2 e3
      generalize bs.getD j0 0 = x0 at *
      generalize bs.getD j1 0 = x1 at *
      generalize bs.getD j2 0 = x2 at *
      generalize bs.getD j3 0 = x3 at *
      have HF := Lib.hid (four_uv x0 x1 x2 x3 b0 b1 b2 b3)
      clear b0 b1 b2 b3
      have gk : (k : Int) < 16 := by omega
      go_wp2_with fail
      go_still_tail 31, (by kernel_rfl)
      rw [HF.out]
      change wpList _ _ _ _ _ wr.drew
      go_wp2_with fail
      refine ⟨⟨k + 1, by omega, by go_num, r1.other (by omega) _ _, r2.other (by omega) _ _, row_next r3 (by rw [HL.out]; omega) HW.out, (hb.setCell (p := ⟨w.heap.size + 1 + 1, k, none⟩) (Nat.le_add_right_of_le (Nat.le_add_right _ _)) _).drew⟩, ?_⟩
      simp [intOf]; omega
    · obtain rfl : k = 16 := by omega
      rw [show ((16 : Nat) : Int) = (16 : Int) from rfl]
      rw [partly_all l _ _ (by rw [HL.out]; omega)] at r3
      go_wp2_with (first
        | (refine wpList_load_row rfl 43 (.tmp 3) rfl (w.heap.size + 1 + 1) rfl 43 (wcells l) (0, 0) _ r3 Tryd.underlying43 rfl (by rw [Tryd.size43, wcells_size, HL.out]) ?_)
        | (refine wpList_store_row rfl 43 (.tmp 2) (.tmp 40) rfl (w.heap.size + 1) (wcells l) rfl rfl 43 (wcells (List.replicate 16 0#32)) r2 (by rw [Tryd.size43, wcells_size, HL.out]) (by rw [wcells_size, wcells_size, HL.out, List.length_replicate]) (wcells_one l) ?_))
      exact bodyPost_ret (v := .agg (wcells l)) (results_cell_row Tryd.results17 _ _ (w.heap.size + 1) 43 (wcells l) (0, 0) _ rfl (r2.setRow (wcells l)) Tryd.underlying43 rfl (by rw [Tryd.size43, wcells_size, HL.out])) rfl ⟨rfl, below_setRow hb (Nat.le_add_right _ _) _⟩
theorem read_any (bs : List Int) (w : World) (hl : bs.length = 64) (hx : IsBytes bs) :
    Calls Tryd.prog 17 #[.agg (bcells bs)] w fun e w' => e = .returned (.agg (wcells (readW bs))) ∧ Below w.heap.size w w' :=
  read_gen bs (readW bs) w hl hx (readW_length bs) (readW_getD bs)
end Go.Proofs.YtfjkejdnbegomaaDoor.Md5

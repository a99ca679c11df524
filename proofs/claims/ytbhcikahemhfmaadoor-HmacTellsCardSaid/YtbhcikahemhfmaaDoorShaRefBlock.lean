/- The document's spellings of a word: four bytes that are added, a word that is turned by a difference. No conditions but those that stand in each lemma. | The document's Block: the same state, for any state, any 64 bytes and any 64 constants. -/
import Derived.Test.YtbhcikahemhfmaaDoorShaWords
import Derived.Test.YtbhcikahemhfmaaDoorShaBlock

namespace Go.Proofs.YtbhcikahemhfmaaDoor.Sha3
open Go.RowKit

theorem or_add (a b i : Nat) (h : b < 2 ^ i) : a * 2 ^ i ||| b = a * 2 ^ i + b := by
  rw [← Nat.shiftLeft_eq]
  exact (Nat.shiftLeft_add_eq_or_of_lt h a).symm
theorem four_nat (x0 x1 x2 x3 : Nat) (b0 : x0 < 256) (b1 : x1 < 256) (b2 : x2 < 256) (b3 : x3 < 256) : (fourW x0 x1 x2 x3).toNat = x0 * 16777216 + x1 * 65536 + x2 * 256 + x3 := by
  unfold fourW
  simp only [BitVec.toNat_or, BitVec.toNat_shiftLeft, BitVec.ofInt_natCast, BitVec.toNat_ofNat, Nat.shiftLeft_eq]
  have e0 : x0 % 2 ^ 32 * 2 ^ 24 % 2 ^ 32 = x0 * 2 ^ 24 := by
    rw [Nat.mod_eq_of_lt (Nat.lt_trans b0 (by decide)), Nat.mod_eq_of_lt (Nat.lt_of_lt_of_le (Nat.mul_lt_mul_of_pos_right b0 (by decide)) (by decide))]
  have e1 : x1 % 2 ^ 32 * 2 ^ 16 % 2 ^ 32 = x1 * 2 ^ 16 := by
    rw [Nat.mod_eq_of_lt (Nat.lt_trans b1 (by decide)), Nat.mod_eq_of_lt (Nat.lt_of_lt_of_le (Nat.mul_lt_mul_of_pos_right b1 (by decide)) (by decide))]
  have e2 : x2 % 2 ^ 32 * 2 ^ 8 % 2 ^ 32 = x2 * 2 ^ 8 := by
    rw [Nat.mod_eq_of_lt (Nat.lt_trans b2 (by decide)), Nat.mod_eq_of_lt (Nat.lt_of_lt_of_le (Nat.mul_lt_mul_of_pos_right b2 (by decide)) (by decide))]
  have e3 : x3 % 2 ^ 32 = x3 := Nat.mod_eq_of_lt (Nat.lt_trans b3 (by decide))
  rw [e0, e1, e2, e3, or_add x0 (x1 * 2 ^ 16) 24 (show x1 * 65536 < 16777216 by omega), show x0 * 2 ^ 24 + x1 * 2 ^ 16 = (x0 * 2 ^ 8 + x1) * 2 ^ 16 from (show x0 * 16777216 + x1 * 65536 = (x0 * 256 + x1) * 65536 by omega), or_add _ (x2 * 2 ^ 8) 16 (show x2 * 256 < 65536 by omega),
    show (x0 * 2 ^ 8 + x1) * 2 ^ 16 + x2 * 2 ^ 8 = ((x0 * 2 ^ 8 + x1) * 2 ^ 8 + x2) * 2 ^ 8 from (show (x0 * 256 + x1) * 65536 + x2 * 256 = ((x0 * 256 + x1) * 256 + x2) * 256 by omega), or_add _ x3 8 (show x3 < 256 from b3)]
theorem four_add (x0 x1 x2 x3 : Int) (b0 : 0 ≤ x0 ∧ x0 < 256) (b1 : 0 ≤ x1 ∧ x1 < 256) (b2 : 0 ≤ x2 ∧ x2 < 256) (b3 : 0 ≤ x3 ∧ x3 < 256) :
    IntKind.u32.wrap (IntKind.u32.wrap (IntKind.u32.wrap (IntKind.u32.wrap (IntKind.u32.wrap x0 * 16777216) + IntKind.u32.wrap (IntKind.u32.wrap x1 * 65536)) + IntKind.u32.wrap (IntKind.u32.wrap x2 * 256)) + IntKind.u32.wrap x3) = uv (fourW x0 x1 x2 x3) := by
  obtain ⟨y0, rfl⟩ := Int.eq_ofNat_of_zero_le b0.1
  obtain ⟨y1, rfl⟩ := Int.eq_ofNat_of_zero_le b1.1
  obtain ⟨y2, rfl⟩ := Int.eq_ofNat_of_zero_le b2.1
  obtain ⟨y3, rfl⟩ := Int.eq_ofNat_of_zero_le b3.1
  unfold uv
  rw [four_nat y0 y1 y2 y3 (by omega) (by omega) (by omega) (by omega)]
  simp only [IntKind.wrap_u32']
  omega
end Go.Proofs.YtbhcikahemhfmaaDoor.Sha3

namespace Go.Proofs.YtbhcikahemhfmaaDoor.Sha3
open Go.RowKit

theorem rows4 (w : World) (A B C D : Array Value) (ta tb tc td : TypeId) :
    Row ((((w.alloc (.cells A ta)).alloc (.cells B tb)).alloc (.cells C tc)).alloc (.cells D td)) w.heap.size ta A ∧ Row ((((w.alloc (.cells A ta)).alloc (.cells B tb)).alloc (.cells C tc)).alloc (.cells D td)) (w.heap.size + 1) tb B ∧
    Row ((((w.alloc (.cells A ta)).alloc (.cells B tb)).alloc (.cells C tc)).alloc (.cells D td)) (w.heap.size + 1 + 1) tc C ∧ Row ((((w.alloc (.cells A ta)).alloc (.cells B tb)).alloc (.cells C tc)).alloc (.cells D td)) (w.heap.size + 1 + 1 + 1) td D ∧
    Below w.heap.size w ((((w.alloc (.cells A ta)).alloc (.cells B tb)).alloc (.cells C tc)).alloc (.cells D td)) := by
  obtain ⟨h1, h2, h3, hb⟩ := rows3 w A B C ta tb tc
  have h4 := Row.new (((w.alloc (.cells A ta)).alloc (.cells B tb)).alloc (.cells C tc)) td D
  simp at h4
  exact ⟨h1.old _, h2.old _, h3.old _, h4, hb.alloc (by simp; omega) _⟩
/-- The blocks that stay as they are: the state, the constants, the answer. -/
def RbRows (w : World) (hs ks : List Wd) (n : Qd) (wr : World) : Prop :=
  Row wr w.heap.size 47 (scells hs (uq n)) ∧ Row wr (w.heap.size + 1) 45 (wcells ks) ∧ Row wr (w.heap.size + 1 + 1) 47 (scells (List.replicate 8 0#32) 0) ∧ Below w.heap.size w wr
def RbAt (lo hi : Nat) (w : World) (hs ks l : List Wd) (n : Qd) (i : Value) (wr : World) : Prop :=
  ∃ k : Nat, lo ≤ k ∧ k ≤ hi ∧ i = .int .i64 k ∧ RbRows w hs ks n wr ∧ Row wr (w.heap.size + 1 + 1 + 1) 45 (wcells (partly l 0#32 k))
theorem RbRows.step {w : World} {hs ks : List Wd} {n : Qd} {wr : World} (h : RbRows w hs ks n wr) {b : Nat} (hb : w.heap.size + 1 + 1 < b) (j : Nat) (v : Value) : RbRows w hs ks n (wr.setCell ⟨b, j, none⟩ v) :=
  ⟨h.1.other (by omega) _ _, h.2.1.other (by omega) _ _, h.2.2.1.other (by omega) _ _, h.2.2.2.setCell (p := ⟨b, j, none⟩) (by show w.heap.size ≤ b; omega) _⟩
theorem RbRows.drewN {w : World} {hs ks : List Wd} {n : Qd} {wr : World} (h : RbRows w hs ks n wr) (m : Nat) : RbRows w hs ks n (wr.drewN m) := ⟨h.1, h.2.1, h.2.2.1, below_drewN h.2.2.2 m⟩
theorem RbRows.drew {w : World} {hs ks : List Wd} {n : Qd} {wr : World} (h : RbRows w hs ks n wr) : RbRows w hs ks n wr.drew := ⟨h.1, h.2.1, h.2.2.1, h.2.2.2.drew⟩

theorem ofL_toL (hs : List Wd) (h : hs.length = 8) : (St.ofL hs).toL = hs := by
  match hs, h with
  | [a, b, c, d, e, f, g, i], _ => rfl
theorem not_sub (e : Wd) : IntKind.u32.wrap (4294967295 - uv e) = uv (~~~e) := by
  have := e.isLt
  rw [IntKind.wrap_u32']
  unfold uv
  rw [BitVec.toNat_not]
  omega
theorem t1_half (e f g h k w : Wd) : ((uv h + bits .xor .u32 (bits .xor .u32 (uv (rotW e 6)) (uv (rotW e 11))) (uv (rotW e 25)) + bits .xor .u32 (bits .and .u32 (uv e) (uv f)) (bits .and .u32 (uv (~~~e)) (uv g)) + uv k) % 4294967296 + uv w) % 4294967296 = uv (t1W e f g h k w) := by
  rw [Int.emod_add_emod]
  exact t1_uv e f g h k w
theorem t2_wrap (a b c : Wd) : IntKind.u32.wrap (bits .xor .u32 (bits .xor .u32 (uv (rotW a 2)) (uv (rotW a 13))) (uv (rotW a 22)) + bits .xor .u32 (bits .xor .u32 (bits .and .u32 (uv a) (uv b)) (bits .and .u32 (uv a) (uv c))) (bits .and .u32 (uv b) (uv c))) = uv (t2W a b c) := by
  rw [xor_uv, xor_uv, and_uv, and_uv, and_uv, xor_uv, xor_uv, add_uv]
  rfl
theorem rrot_int (x : Wd) (m : Int) (w : World) (h0 : 0 < m) (hn : m < 32) : Calls Tryd.prog 34 #[.int .u32 (uv x), .int .u64 m] w fun e w' => e = .returned (.int .u32 (uv (rotW x m.toNat))) ∧ ∃ m, w' = w.drewN m :=
  (rrot_at x m m.toNat (by omega) w (by omega) (by omega)).mono fun _ _ ⟨he, hw⟩ => ⟨he, 0, hw ▸ rfl⟩
/-- At a round's head of the 64 steps: k are done. -/
def RmAt (w : World) (V : Nat) (hs ks l : List Wd) (n : Qd) (i : Value) (wr : World) : Prop :=
  ∃ (k : Nat) (s : St), k ≤ 64 ∧ i = .int .i64 k ∧ mixS ks l (St.ofL hs) k = s ∧ RbRows w hs ks n wr ∧ Row wr (w.heap.size + 1 + 1 + 1) 45 (wcells l) ∧ Row wr V 38 (wcells s.toL)
theorem RbRows.row {w : World} {hs ks : List Wd} {n : Qd} {wr : World} (h : RbRows w hs ks n wr) {b : Nat} (hb : w.heap.size + 1 + 1 < b) (cs : Array Value) : RbRows w hs ks n (wr.setRow b cs) :=
  ⟨h.1.otherRow (by omega) _, h.2.1.otherRow (by omega) _, h.2.2.1.otherRow (by omega) _, below_setRow h.2.2.2 (by omega) _⟩
/-- At a round's head of the last loop: k words are added. -/
def RaAt (w : World) (V : Nat) (rs hs ms : List Wd) (n : Qd) (i : Value) (wr : World) : Prop :=
  ∃ k : Nat, k ≤ 8 ∧ i = .int .i64 k ∧ Row wr w.heap.size 47 (scells (over rs hs k) (uq n)) ∧ Row wr (w.heap.size + 1 + 1) 47 (scells (List.replicate 8 0#32) 0) ∧ Row wr V 38 (wcells ms) ∧ Below w.heap.size w wr
set_option maxRecDepth 100000 in
set_option maxHeartbeats 4000000 in
theorem rblock_gen (ks hs l rs ms : List Wd) (n : Qd) (b o c : Nat) (bs : List Int) (w : World) (hh : hs.length = 8) (hl : bs.length = 64) (hx : IsBytes bs) (hlt : b < w.heap.size) (hsrc : ∀ i, i < 64 → w.cell? ⟨b, o + i, none⟩ = some (.int .u8 (bs.getD i 0))) (hks : ks.length = 64)
    (hlen : l.length = 64) (hhead : ∀ t, t < 16 → l.getD t 0#32 = headW bs t)
    (hnext : ∀ t, 16 ≤ t → t < 64 → l.getD t 0#32 = nextW (l.getD (t - 2) 0#32) (l.getD (t - 7) 0#32) (l.getD (t - 15) 0#32) (l.getD (t - 16) 0#32))
    (hms : (mixS ks l (St.ofL hs) 64).toL = ms) (hrl : rs.length = 8) (hadd : ∀ i, i < 8 → rs.getD i 0#32 = hs.getD i 0#32 + ms.getD i 0#32) :
    Calls Tryd.prog 26 #[.agg (scells hs (uq n)), .slice (some ⟨b, o, none⟩) 64 c, .agg (wcells ks)] w fun e w' => e = .returned (.agg (scells rs (uq (n + 64#64)))) ∧ Below w.heap.size w w' := by
  have Hh := Lib.hid hh
  have Hl := Lib.hid hl
  have Hc := Lib.hid hsrc
  have Hks := Lib.hid hks
  have HL := Lib.hid hlen
  have HH := Lib.hid hhead
  have HN := Lib.hid hnext
  have Hms := Lib.hid hms
  have Hrl := Lib.hid hrl
  have Ha := Lib.hid hadd
  clear hh hl hsrc hks hlen hhead hnext hms hrl hadd
  obtain ⟨r1, r2, r3, r4, hb⟩ := rows4 w (scells hs (uq n)) (wcells ks) (scells (List.replicate 8 0#32) 0) (wcells (List.replicate 64 0#32)) 47 45 47 45
  go_enter Tryd.func26, Tryd.ntmps26
  go_wp2_with (refine wpList_store_row rfl 45 (.tmp 7) (.tmp 19) rfl (w.heap.size + 1 + 1 + 1) (wcells (List.replicate 64 0#32)) rfl rfl 45 (wcells (List.replicate 64 0#32)) r4 (by rw [Tryd.size33, wcells_size, List.length_replicate]) rfl (wcells_one _) ?_; have p4 := r4.setRow (wcells (List.replicate 64 0#32)); have p1 : RbRows w hs ks n _ := ⟨r1.otherRow (b := w.heap.size + 1 + 1 + 1) (by omega) (wcells (List.replicate 64 0#32)), r2.otherRow (by omega) _, r3.otherRow (by omega) _, below_setRow hb (by omega) _⟩; clear r1 r2 r3 r4 hb)
  go_loopw [8] (fun i wr => RbAt 0 16 w hs ks l n i wr) (fun i _ => 16 - (intOf i).toNat)
  case atStart => exact ⟨0, Nat.le_refl _, Nat.zero_le _, rfl, p1, by rw [partly_none, HL.out]; exact p4⟩
  case round =>
    clear p1 p4
    obtain ⟨k, _, hk, rfl, p1, p4⟩ := hrel
    by_cases hlt16 : k < 16
    · obtain ⟨j0, e0⟩ : ∃ j : Nat, 4 * k = j := ⟨_, rfl⟩
      obtain ⟨j1, e1⟩ : ∃ j : Nat, j0 + 1 = j := ⟨_, rfl⟩
      obtain ⟨j2, e2⟩ : ∃ j : Nat, j0 + 2 = j := ⟨_, rfl⟩
      obtain ⟨j3, e3⟩ : ∃ j : Nat, j0 + 3 = j := ⟨_, rfl⟩
      have c0 := (p1.2.2.2.cell (p := ⟨b, o + j0, none⟩) hlt).trans (Hc.out j0 (by omega))
      have c1 := (p1.2.2.2.cell (p := ⟨b, o + j1, none⟩) hlt).trans (Hc.out j1 (by omega))
      have c2 := (p1.2.2.2.cell (p := ⟨b, o + j2, none⟩) hlt).trans (Hc.out j2 (by omega))
      have c3 := (p1.2.2.2.cell (p := ⟨b, o + j3, none⟩) hlt).trans (Hc.out j3 (by omega))
      have b0 := hx.at_ j0
      have b1 := hx.at_ j1
      have b2 := hx.at_ j2
      have b3 := hx.at_ j3
      have f4 := p4.free k
      have c4 := row_there (j := k) p4 (by rw [HL.out]; omega)
      have g0 : (j0 : Int) < 64 := by omega
      have g1 : (j1 : Int) < 64 := by omega
      have g2 : (j2 : Int) < 64 := by omega
      have g3 : (j3 : Int) < 64 := by omega
      have s0 : IntKind.i64.wrap (4 * (k : Int)) = (j0 : Int) := by rw [IntWalk.i64_in _ (by omega)]; omega
      have s1 : IntKind.i64.wrap ((j0 : Int) + 1) = (j1 : Int) := by rw [IntWalk.i64_in _ (by omega)]; omega
      have s2 : IntKind.i64.wrap ((j0 : Int) + 2) = (j2 : Int) := by rw [IntWalk.i64_in _ (by omega)]; omega
      have s3 : IntKind.i64.wrap ((j0 : Int) + 3) = (j3 : Int) := by rw [IntWalk.i64_in _ (by omega)]; omega
      have HW := Lib.hid (show l.getD k 0#32 = fourW (bs.getD j0 0) (bs.getD j1 0) (bs.getD j2 0) (bs.getD j3 0) by rw [HH.out k hlt16, ← e1, ← e2, ← e3, ← e0]; rfl)
      clear e0 e1 e2 e3
      generalize bs.getD j0 0 = x0 at *
      generalize bs.getD j1 0 = x1 at *
      generalize bs.getD j2 0 = x2 at *
      generalize bs.getD j3 0 = x3 at *
      have HF := Lib.hid (four_add x0 x1 x2 x3 b0 b1 b2 b3)
      clear b0 b1 b2 b3
      have gk : (k : Int) < 64 := by omega
      go_wp2_with fail
      go_still_tail 35, (by kernel_rfl)
      rw [HF.out]
      change wpList _ _ _ _ _ wr.drew
      go_wp2_with fail
      refine ⟨⟨k + 1, Nat.zero_le _, by omega, by go_num, (p1.step (by omega) _ _).drew, row_next p4 (by rw [HL.out]; omega) HW.out⟩, ?_⟩
      simp [intOf]; omega
    · obtain rfl : k = 16 := by omega
      rw [show ((16 : Nat) : Int) = (16 : Int) from rfl]
      go_wp2_with fail
      go_loopw [9] (fun i wr => RbAt 16 64 w hs ks l n i wr) (fun i _ => 64 - (intOf i).toNat)
      case atStart => exact ⟨16, by omega, by omega, rfl, p1, p4⟩
      case round =>
        clear p1 p4 hk hlt16
        obtain ⟨k, hk0, hk, rfl, p1, p4⟩ := hrel
        by_cases hlt64 : k < 64
        · obtain ⟨j2, e2⟩ : ∃ j : Nat, k - 2 = j := ⟨_, rfl⟩
          obtain ⟨j7, e7⟩ : ∃ j : Nat, k - 7 = j := ⟨_, rfl⟩
          obtain ⟨j15, e15⟩ : ∃ j : Nat, k - 15 = j := ⟨_, rfl⟩
          obtain ⟨j16, e16⟩ : ∃ j : Nat, k - 16 = j := ⟨_, rfl⟩
          have HW := Lib.hid (HN.out k hk0 hlt64)
          rw [e2, e7, e15, e16] at HW
          have c2 := row_word (j := j2) p4 (by rw [HL.out]; omega) (by omega)
          have c7 := row_word (j := j7) p4 (by rw [HL.out]; omega) (by omega)
          have c15 := row_word (j := j15) p4 (by rw [HL.out]; omega) (by omega)
          have c16 := row_word (j := j16) p4 (by rw [HL.out]; omega) (by omega)
          have ck := row_there (j := k) p4 (by rw [HL.out]; omega)
          have fk := p4.free k
          generalize l.getD j2 0#32 = x at *
          generalize l.getD j7 0#32 = w7 at *
          generalize l.getD j15 0#32 = y at *
          generalize l.getD j16 0#32 = w16 at *
          have g2 : (j2 : Int) < 64 := by omega
          have g7 : (j7 : Int) < 64 := by omega
          have g15 : (j15 : Int) < 64 := by omega
          have g16 : (j16 : Int) < 64 := by omega
          have gk : (k : Int) < 64 := by omega
          have s2 : (k : Int) - 2 = (j2 : Int) := by omega
          have s15 : (k : Int) - 15 = (j15 : Int) := by omega
          have s7 : IntKind.i64.wrap ((k : Int) - 7) = (j7 : Int) := by rw [IntWalk.i64_in _ (by omega)]; omega
          have s16 : IntKind.i64.wrap ((k : Int) - 16) = (j16 : Int) := by rw [IntWalk.i64_in _ (by omega)]; omega
          clear e2 e7 e15 e16
          go_wp2_with fail
          clear s2 s15 c2 c15
          have HV := Lib.hid (next_uv x w7 y w16)
          have d7 : ∀ g : Above wr.drew, g.1.cell? ⟨w.heap.size + 1 + 1 + 1, j7, none⟩ = some (.int .u32 (uv w7)) := fun g => (g.2.cell (p := ⟨w.heap.size + 1 + 1 + 1, j7, none⟩) p4.lt).trans c7
          have d16 : ∀ g : Above wr.drew, g.1.cell? ⟨w.heap.size + 1 + 1 + 1, j16, none⟩ = some (.int .u32 (uv w16)) := fun g => (g.2.cell (p := ⟨w.heap.size + 1 + 1 + 1, j16, none⟩) p4.lt).trans c16
          refine wp_region_segsT 29 [([0, 1, 3, 6, 7, 9, 10, 11, 12, 14, 16, 19, 20, 23, 24, 25, 26], 2), ([], 4), ([5, 8, 13], 15), ([], 17)] [18, 21, 22, 27, 28] (by kernel_rfl) (by kernel_rfl) ⟨by kernel_rfl, by decide⟩ (by kernel_rfl) (by kernel_rfl) (fun _ _ d _ _ h => by cases d <;> exact h) ?_
          refine wpSegsT_next (by simp [pickOps]; rfl) ?_
          repeat (go_big_quiet_step (fail))
          refine wpQuiet_nil ?_
          clear d7 d16
          refine wpOp_alone rfl rfl (fun K hK => ?_)
          go_simp
          refine (rrot_at x 17 17 rfl _ (by omega) (by omega)).mono ?_
          rintro e w' ⟨rfl, rfl⟩
          refine hK _ _ ⟨Ext.refl _, ?_⟩
          clear hK K
          refine wpSegsT_next (by simp [pickOps]; rfl) ?_
          refine wpQuiet_nil ?_
          refine wpOp_alone rfl rfl (fun K hK => ?_)
          go_simp
          refine (rrot_at x 19 19 rfl _ (by omega) (by omega)).mono ?_
          rintro e w' ⟨rfl, rfl⟩
          refine hK _ _ ⟨Ext.refl _, ?_⟩
          clear hK K
          refine wpSegsT_next (by simp [pickOps]; rfl) ?_
          repeat (go_big_quiet_step (fail))
          refine wpQuiet_nil ?_
          refine wpOp_alone rfl rfl (fun K hK => ?_)
          go_simp
          refine (rrot_at y 7 7 rfl _ (by omega) (by omega)).mono ?_
          rintro e w' ⟨rfl, rfl⟩
          refine hK _ _ ⟨Ext.refl _, ?_⟩
          clear hK K
          refine wpSegsT_next (by simp [pickOps]; rfl) ?_
          refine wpQuiet_nil ?_
          refine wpOp_alone rfl rfl (fun K hK => ?_)
          go_simp
          refine (rrot_at y 18 18 rfl _ (by omega) (by omega)).mono ?_
          rintro e w' ⟨rfl, rfl⟩
          refine hK _ _ ⟨Ext.refl _, ?_⟩
          clear hK K
          refine wpSegsT_last (by simp [pickOps]; rfl) ?_
          repeat (go_big_quiet_step (fail))
          refine wpQuiet_nil ?_
          refine wpOp_alone rfl rfl (fun K hK => ?_)
          go_simp
          refine hK _ _ ?_
          clear hK K ck fk c7 c16
          go_wp2_with fail
          rw [HV.out]
          refine ⟨⟨k + 1, by omega, by omega, by go_num, (p1.step (by omega) _ _).drew, row_next p4 (by rw [HL.out]; omega) HW.out⟩, ?_⟩
          simp [intOf]; omega
        · obtain rfl : k = 64 := by omega
          rw [show ((64 : Nat) : Int) = (64 : Int) from rfl]
          rw [partly_all l _ _ (by rw [HL.out]; omega)] at p4
          obtain ⟨r1, r2, r3, hb⟩ := p1
          have q1 := r1.old (.cells (wcells (List.replicate 8 0#32)) 38)
          have q2 := r2.old (.cells (wcells (List.replicate 8 0#32)) 38)
          have q3 := r3.old (.cells (wcells (List.replicate 8 0#32)) 38)
          have q4 := p4.old (.cells (wcells (List.replicate 8 0#32)) 38)
          have q5 := Row.new wr 38 (wcells (List.replicate 8 0#32))
          have qb := hb.alloc hb.size (.cells (wcells (List.replicate 8 0#32)) 38)
          have hV := p4.lt
          go_wp2_with (first
            | (refine wpList_load_cells rfl 38 (.tmp 100) rfl w.heap.size 0 rfl (wcells hs) _ (scells_cells r1) Tryd.underlying38 rfl (by rw [Tryd.size28, wcells_size, Hh.out]) ?_)
            | (refine wpList_store_row rfl 38 (.tmp 12) (.tmp 101) rfl wr.heap.size (wcells hs) rfl rfl 38 (wcells (List.replicate 8 0#32)) q5 (by rw [Tryd.size28, wcells_size, Hh.out]) (by rw [wcells_size, wcells_size, Hh.out]; rfl) (wcells_one _) ?_; have p1 : RbRows w hs ks n _ := ⟨q1.otherRow (b := wr.heap.size) (by omega) (wcells hs), q2.otherRow (by omega) _, q3.otherRow (by omega) _, below_setRow qb (by omega) _⟩; have p5 := q5.setRow (wcells hs); have p6 := q4.otherRow (b := wr.heap.size) (by omega) (wcells hs); clear r1 r2 r3 hb q1 q2 q3 q4 q5 qb p4))
          rw [show #[Value.int IntKind.u32 0, Value.int IntKind.u32 0, Value.int IntKind.u32 0, Value.int IntKind.u32 0, Value.int IntKind.u32 0, Value.int IntKind.u32 0, Value.int IntKind.u32 0, Value.int IntKind.u32 0] = wcells (List.replicate 8 0#32) from rfl]
          generalize (wr.alloc (.cells (wcells (List.replicate 8 0#32)) 38)).setRow wr.heap.size (wcells hs) = w5 at *
          generalize wr.heap.size = V at *
          go_loopw [13] (fun i wr => RmAt w V hs ks l n i wr) (fun i _ => 64 - (intOf i).toNat)
          case atStart => exact ⟨0, St.ofL hs, Nat.zero_le _, rfl, rfl, p1, p6, by rw [ofL_toL hs Hh.out]; exact p5⟩
          case round =>
            clear p1 p5 p6 hk hk0 hlt64
            obtain ⟨k, s, hk, rfl, hs1, p1, p4, p5⟩ := hrel
            have HS1 := Lib.hid hs1
            clear hs1
            by_cases hlt64 : k < 64
            · have ck := p1.2.1.cell (wcells_at ks k (by rw [Hks.out]; omega))
              have cw := p4.cell (wcells_at l k (by rw [HL.out]; omega))
              have HW := Lib.hid (show mixS ks l (St.ofL hs) (k + 1) = stepS s (ks.getD k 0#32) (l.getD k 0#32) by rw [← HS1.out]; rfl)
              generalize ks.getD k 0#32 = kk at *
              generalize l.getD k 0#32 = wk at *
              obtain ⟨a, b1, c1, d, e, f, g, h8⟩ := s
              have HT1 := Lib.hid (t1_half e f g h8 kk wk)
              have HT2 := Lib.hid (t2_wrap a b1 c1)
              have HT3 := Lib.hid (t2_uv a b1 c1)
              have v0 : wr.cell? ⟨V, 0, none⟩ = some (.int .u32 (uv a)) := p5.cell rfl
              have v1 : wr.cell? ⟨V, 1, none⟩ = some (.int .u32 (uv b1)) := p5.cell rfl
              have v2 : wr.cell? ⟨V, 2, none⟩ = some (.int .u32 (uv c1)) := p5.cell rfl
              have v3 : wr.cell? ⟨V, 3, none⟩ = some (.int .u32 (uv d)) := p5.cell rfl
              have v4 : wr.cell? ⟨V, 4, none⟩ = some (.int .u32 (uv e)) := p5.cell rfl
              have v5 : wr.cell? ⟨V, 5, none⟩ = some (.int .u32 (uv f)) := p5.cell rfl
              have v6 : wr.cell? ⟨V, 6, none⟩ = some (.int .u32 (uv g)) := p5.cell rfl
              have v7 : wr.cell? ⟨V, 7, none⟩ = some (.int .u32 (uv h8)) := p5.cell rfl
              have hk64 : (k : Int) < 64 := by omega
              have hn := not_sub e
              go_wp2_with fail
              go_quiet ((go_at_call 34; refine Calls.quiet_of (rrot_int _ _ _ (by omega) (by omega))))
              go_wp2_with fail
              have P1 := p1.drewN nq
              have P4 := p4.drewN nq
              have P5 := p5.drewN nq
              clear v0 v1 v2 v3 v4 v5 v6 v7 ck cw p1 p4 p5 hn
              rw [HT1.out]
              generalize wr.drewN nq = wq at *
              have v0 : wq.cell? ⟨V, 0, none⟩ = some (.int .u32 (uv a)) := P5.cell rfl
              have v1 : wq.cell? ⟨V, 1, none⟩ = some (.int .u32 (uv b1)) := P5.cell rfl
              have v2 : wq.cell? ⟨V, 2, none⟩ = some (.int .u32 (uv c1)) := P5.cell rfl
              have v3 : wq.cell? ⟨V, 3, none⟩ = some (.int .u32 (uv d)) := P5.cell rfl
              have v4 : wq.cell? ⟨V, 4, none⟩ = some (.int .u32 (uv e)) := P5.cell rfl
              have v5 : wq.cell? ⟨V, 5, none⟩ = some (.int .u32 (uv f)) := P5.cell rfl
              have v6 : wq.cell? ⟨V, 6, none⟩ = some (.int .u32 (uv g)) := P5.cell rfl
              have v7 : wq.cell? ⟨V, 7, none⟩ = some (.int .u32 (uv h8)) := P5.cell rfl
              go_quiet ((go_at_call 34; refine Calls.quiet_of (rrot_int _ _ _ (by omega) (by omega))))
              (first | rw [HT2.out] | rw [HT3.out])
              have ha := add_mod (t1W e f g h8 kk wk) (t2W a b1 c1)
              have hd := add_mod d (t1W e f g h8 kk wk)
              go_wp2_with (refine wpList_store_row rfl 38 (.tmp 12) (.tmp 183) rfl V (wcells (stepS ⟨a, b1, c1, d, e, f, g, h8⟩ kk wk).toL) rfl rfl 38 (wcells (St.toL ⟨a, b1, c1, d, e, f, g, h8⟩)) (P5.drewN _) Tryd.size28 rfl (wcells_one _) ?_)
              refine ⟨⟨k + 1, _, by omega, by go_num, HW.out, (P1.drewN _).row (by omega) _, (P4.drewN _).otherRow (by omega) _, (P5.drewN _).setRow _⟩, ?_⟩
              simp [intOf]; omega
            · obtain rfl : k = 64 := by omega
              rw [show ((64 : Nat) : Int) = (64 : Int) from rfl]
              have HM := Lib.hid (show s.toL = ms by rw [← HS1.out]; exact Hms.out)
              have HML := Lib.hid (show ms.length = 8 by rw [← HM.out]; rfl)
              rw [HM.out] at p5
              obtain ⟨r1, r2, r3, hb⟩ := p1
              clear r2 p4 HS1 HM
              go_wp2_with fail
              go_loopw [18] (fun i wr => RaAt w V rs hs ms n i wr) (fun i _ => 8 - (intOf i).toNat)
              case atStart => exact ⟨0, Nat.zero_le _, rfl, by rw [over_none]; exact r1, r3, p5, hb⟩
              case round =>
                clear r1 r3 p5 hb hk hlt64
                obtain ⟨k, hk, rfl, r1, r3, p5, hb⟩ := hrel
                by_cases hlt8 : k < 8
                · have ck := r1.cell (scells_at (over rs hs k) (uq n) k (by rw [over_length rs hs k (by rw [Hh.out, Hrl.out]), Hrl.out]; omega))
                  rw [over_getD rs hs 0#32 k (by rw [Hrl.out]; omega)] at ck
                  have fk := r1.free k
                  have cm := p5.cell (wcells_at ms k (by rw [HML.out]; omega))
                  have HA := Lib.hid (Ha.out k hlt8)
                  generalize ms.getD k 0#32 = m at *
                  generalize hs.getD k 0#32 = h at *
                  have hm := add_uv h m
                  have gk : (k : Int) < 8 := by omega
                  go_wp2_with fail
                  go_still_tail 11, (by kernel_rfl)
                  change wpList _ _ _ _ _ wr.drew
                  go_wp2_with fail
                  refine ⟨⟨k + 1, by omega, by go_num, ?_, r3.other (by omega) _ _, p5.other (by omega) _ _, (hb.setCell (p := ⟨w.heap.size, k, none⟩) (Nat.le_refl _) _).drew⟩, ?_⟩
                  · rw [← HA.out, ← over_set rs hs 0#32 k (by rw [Hh.out, Hrl.out]) (by rw [Hrl.out]; omega), ← scells_set _ _ _ _ (by rw [over_length rs hs k (by rw [Hh.out, Hrl.out]), Hrl.out]; omega)]
                    exact r1.set k _
                  · simp [intOf]; omega
                · obtain rfl : k = 8 := by omega
                  rw [show ((8 : Nat) : Int) = (8 : Int) from rfl]
                  rw [over_all rs hs 8 (by rw [Hh.out, Hrl.out]) (by rw [Hrl.out]; omega)] at r1
                  have cb := r1.cell (scells_last rs (uq n) 8 Hrl.out)
                  have fb := r1.free 8
                  have hq := uq_add64 n
                  have r4 : Row (wr.setCell ⟨w.heap.size, 8, none⟩ (.int .u64 (uq (n + 64#64)))) w.heap.size 47 (scells rs (uq (n + 64#64))) := by rw [← scells_setLast rs (uq n) _ 8 Hrl.out]; exact r1.set 8 _
                  have r5 := r3.other (b := w.heap.size) (by omega) 8 (.int .u64 (uq (n + 64#64)))
                  go_wp2_with (first
                    | (refine wpList_load_cells rfl 47 (.tmp 3) rfl w.heap.size 0 rfl (scells rs (uq (n + 64#64))) _ r4.cells Tryd.underlying47 rfl (by rw [Tryd.size35, scells_size, Hrl.out]) ?_)
                    | (refine wpList_store_row rfl 47 (.tmp 6) (.tmp 203) rfl (w.heap.size + 1 + 1) (scells rs (uq (n + 64#64))) rfl rfl 47 (scells (List.replicate 8 0#32) 0) r5 (by rw [Tryd.size35, scells_size, Hrl.out]) (by rw [scells_size, scells_size, Hrl.out]; rfl) (scells_one _ _) ?_))
                  refine bodyPost_ret (v := .agg (scells rs (uq (n + 64#64)))) ?_ rfl ?_
                  · exact results_cell_row Tryd.results26 _ _ (w.heap.size + 1 + 1) 47 (scells rs (uq (n + 64#64))) (0, 0) _ rfl (r5.setRow _) Tryd.underlying47 rfl (by rw [Tryd.size35, scells_size, Hrl.out])
                  · exact ⟨rfl, below_setRow (hb.setCell (p := ⟨w.heap.size, 8, none⟩) (Nat.le_refl _) _) (by omega) _⟩
theorem rblock_any (ks hs : List Wd) (n : Qd) (b o c : Nat) (bs : List Int) (w : World) (hh : hs.length = 8) (hl : bs.length = 64) (hx : IsBytes bs) (hlt : b < w.heap.size) (hsrc : ∀ i, i < 64 → w.cell? ⟨b, o + i, none⟩ = some (.int .u8 (bs.getD i 0))) (hks : ks.length = 64) :
    Calls Tryd.prog 26 #[.agg (scells hs (uq n)), .slice (some ⟨b, o, none⟩) 64 c, .agg (wcells ks)] w fun e w' => e = .returned (.agg (scells (blockW ks hs bs) (uq (n + 64#64)))) ∧ Below w.heap.size w w' :=
  rblock_gen ks hs (spreadW bs) (blockW ks hs bs) _ n b o c bs w hh hl hx hlt hsrc hks (spreadW_length bs) (spreadW_head bs) (spreadW_next bs) rfl (blockW_length ks hs bs hh) (fun i hi => blockW_getD ks hs bs hh i hi)
end Go.Proofs.YtbhcikahemhfmaaDoor.Sha3

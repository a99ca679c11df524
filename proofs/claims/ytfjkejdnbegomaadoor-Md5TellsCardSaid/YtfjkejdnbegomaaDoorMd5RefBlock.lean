/- The document's Block: the same state, for any state and any 64 bytes. -/
import Derived.Test.YtfjkejdnbegomaaDoorMd5RefNums
namespace Go.Proofs.YtfjkejdnbegomaaDoor.Md5
open Go.RowKit

theorem rows2 (w : World) (A B : Array Value) (ta tb : TypeId) :
    Row ((w.alloc (.cells A ta)).alloc (.cells B tb)) w.heap.size ta A ∧ Row ((w.alloc (.cells A ta)).alloc (.cells B tb)) (w.heap.size + 1) tb B ∧ Below w.heap.size w ((w.alloc (.cells A ta)).alloc (.cells B tb)) := by
  have h1 := Row.new w ta A
  have h2 := Row.new (w.alloc (.cells A ta)) tb B
  simp at h2
  exact ⟨h1.old _, h2, ((Below.refl _ _).alloc (Nat.le_refl _) _).alloc (by simp) _⟩
def HeldM (p : Prop) : Prop := p
theorem heldM {P : Program} {ops : Array Oper} {Q : Exit → Act → World → Prop} {l : List Oper} {a : Act} {w : World} (h : HeldM (wpList P ops Q l a w)) : wpList P ops Q l a w := h
/-- All blocks but one are as they were. -/
def OnlyM (g : Nat) (w w' : World) : Prop := w'.heap.size = w.heap.size ∧ Below g w w' ∧ ∀ b, b ≠ g → w'.heap[b]? = w.heap[b]?
theorem Row.only {w w' : World} {g b : Nat} {t : TypeId} {cs : Array Value} (h : Row w b t cs) (ho : OnlyM g w w') (hb : b ≠ g) : Row w' b t cs := (ho.2.2 b hb).trans h
section
variable {ops : Array Oper} {rest : List Oper} {o : Oper} {a : Act} {w : World} {Q : Exit → Act → World → Prop}
theorem wpList_alloc45 (hg : o.guard = none) (ho : o.op = .alloc 45)
    (h : ∀ w', Row w' w.heap.size 45 (wcells (List.replicate 64 0#32)) → Below w.heap.size w w' → w'.heap.size = w.heap.size + 1 → wpList Tryd.prog ops Q rest (a.put o.dst (.pointer (some ⟨w.heap.size, 0, none⟩))) w') : wpList Tryd.prog ops Q (o :: rest) a w := by
  refine wpList_plain hg fun K hK => ?_
  unfold Oper.wp
  have hr : (execOp a.eval o).run Tryd.prog w = .ok (.value (.pointer (some ⟨w.heap.size, 0, none⟩))) (w.alloc (.cells (wcells (List.replicate 64 0#32)) 45)) := by
    unfold execOp
    rw [ho]
    kernel_rfl
  rw [hr, Oper.upon_value]
  exact hK _ _ (h _ (Row.new _ _ _) ((Below.refl _ _).alloc (Nat.le_refl _) _) (by show (w.heap.push _).size = _; rw [Array.size_push]))
theorem wpList_alloc28 (hg : o.guard = none) (ho : o.op = .alloc 28)
    (h : ∀ w', Row w' w.heap.size 28 (wcells (List.replicate 4 0#32)) → Below w.heap.size w w' → w'.heap.size = w.heap.size + 1 → wpList Tryd.prog ops Q rest (a.put o.dst (.pointer (some ⟨w.heap.size, 0, none⟩))) w') : wpList Tryd.prog ops Q (o :: rest) a w := by
  refine wpList_plain hg fun K hK => ?_
  unfold Oper.wp
  have hr : (execOp a.eval o).run Tryd.prog w = .ok (.value (.pointer (some ⟨w.heap.size, 0, none⟩))) (w.alloc (.cells (wcells (List.replicate 4 0#32)) 28)) := by
    unfold execOp
    rw [ho]
    kernel_rfl
  rw [hr, Oper.upon_value]
  exact hK _ _ (h _ (Row.new _ _ _) ((Below.refl _ _).alloc (Nat.le_refl _) _) (by show (w.heap.push _).size = _; rw [Array.size_push]))
theorem wpList_storeG {P : Program} (hg : o.guard = none) (ty : TypeId) (x y : Operand) (ho : o.op = .store ty x y) (g : Nat) (cs old : Array Value) (hx : a.eval x = .pointer (some ⟨g, 0, none⟩)) (hy : a.eval y = .agg cs) (hr : Row w g ty old)
    (hi : (P.info? ty).map (·.size) = some cs.size) (hs : cs.size = old.size) (h1 : cs.all (·.oneCell') = true)
    (h : ∀ w', Row w' g ty cs → OnlyM g w w' → wpList P ops Q rest (a.put o.dst undef) w') : wpList P ops Q (o :: rest) a w := by
  refine wpList_store_row hg ty x y ho g cs hx hy ty old hr hi hs.symm h1 ?_
  exact h _ (hr.setRow _) ⟨by simp, below_setRow (Below.refl _ _) (Nat.le_refl _) _, fun b hb => setRow_other _ _ _ _ hb⟩
end
/-- The blocks: the state, the answer, the constants, the turns, the four words. -/
def RbRows (w : World) (T : Nat) (hs ks : List Wd) (n : Qd) (s : St) (wr : World) : Prop :=
  Row wr w.heap.size 33 (scells hs (uq n)) ∧ Row wr (w.heap.size + 1) 33 (scells (List.replicate 4 0#32) 0) ∧ Row wr T 45 (wcells ks) ∧ Row wr (T + 1) 41 turnsC ∧ Row wr (T + 1 + 1) 28 (wcells s.toL) ∧ Below w.heap.size w wr
theorem RbRows.drewN {w : World} {T : Nat} {hs ks : List Wd} {n : Qd} {s : St} {wr : World} (h : RbRows w T hs ks n s wr) (m : Nat) : RbRows w T hs ks n s (wr.drewN m) := ⟨h.1, h.2.1, h.2.2.1, h.2.2.2.1, h.2.2.2.2.1, below_drewN h.2.2.2.2.2 m⟩
theorem RbRows.drew {w : World} {T : Nat} {hs ks : List Wd} {n : Qd} {s : St} {wr : World} (h : RbRows w T hs ks n s wr) : RbRows w T hs ks n s wr.drew := ⟨h.1, h.2.1, h.2.2.1, h.2.2.2.1, h.2.2.2.2.1, h.2.2.2.2.2.drew⟩
theorem RbRows.keep {w : World} {T : Nat} {hs ks : List Wd} {n : Qd} {s : St} {wr w' : World} (h : RbRows w T hs ks n s wr) (hb : Below wr.heap.size wr w') : RbRows w T hs ks n s w' := ⟨h.1.keep hb, h.2.1.keep hb, h.2.2.1.keep hb, h.2.2.2.1.keep hb, h.2.2.2.2.1.keep hb, h.2.2.2.2.2.trans (hb.mono h.2.2.2.2.2.size)⟩
theorem RbRows.step {w : World} {T : Nat} {hs ks : List Wd} {n : Qd} {s : St} {wr : World} (h : RbRows w T hs ks n s wr) (hT : w.heap.size + 1 < T) (s' : St) : RbRows w T hs ks n s' (wr.setRow (T + 1 + 1) (wcells s'.toL)) :=
  ⟨h.1.otherRow (by omega) _, h.2.1.otherRow (by omega) _, h.2.2.1.otherRow (by omega) _, h.2.2.2.1.otherRow (by omega) _, h.2.2.2.2.1.setRow _, below_setRow h.2.2.2.2.2 (by omega) _⟩
/-- At a round's head of the 64 steps: k are done. -/
def RmAt (w : World) (T : Nat) (hs ks xs : List Wd) (n : Qd) (i : Value) (wr : World) : Prop :=
  ∃ (k : Nat) (s : St), k ≤ 64 ∧ i = .int .i64 k ∧ mixS ks xs (St.ofL hs) k = s ∧ RbRows w T hs ks n s wr
/-- At a round's head of the last loop: k words are added. -/
def RaAt (w : World) (V : Nat) (rs hs ms : List Wd) (n : Qd) (i : Value) (wr : World) : Prop :=
  ∃ k : Nat, k ≤ 4 ∧ i = .int .i64 k ∧ Row wr w.heap.size 33 (scells (over rs hs k) (uq n)) ∧ Row wr (w.heap.size + 1) 33 (scells (List.replicate 4 0#32) 0) ∧ Row wr V 28 (wcells ms) ∧ Below w.heap.size w wr
theorem ofL_toL (hs : List Wd) (h : hs.length = 4) : (St.ofL hs).toL = hs := by
  match hs, h with
  | [a, b, c, d], _ => rfl
set_option maxRecDepth 100000 in
set_option maxHeartbeats 8000000 in
theorem rblock_gen (ks hs xs rs ms : List Wd) (n : Qd) (b o c : Nat) (bs : List Int) (w : World) (hst : SinesTell ks) (hh : hs.length = 4) (hl : bs.length = 64) (hx : IsBytes bs) (hlt : b < w.heap.size) (hsrc : ∀ i, i < 64 → w.cell? ⟨b, o + i, none⟩ = some (.int .u8 (bs.getD i 0))) (hks : ks.length = 64)
    (hhead : ∀ t, t < 16 → xs.getD t 0#32 = headW bs t) (hms : (mixS ks xs (St.ofL hs) 64).toL = ms) (hrl : rs.length = 4) (hadd : ∀ i, i < 4 → rs.getD i 0#32 = hs.getD i 0#32 + ms.getD i 0#32) :
    Calls Tryd.prog 11 #[.agg (scells hs (uq n)), .slice (some ⟨b, o, none⟩) 64 c] w fun e w' => e = .returned (.agg (scells rs (uq (n + 64#64)))) ∧ Below w.heap.size w w' := by
  have Hst := Lib.hid hst
  have Hh := Lib.hid hh
  have Hl := Lib.hid hl
  have Hc := Lib.hid hsrc
  have Hks := Lib.hid hks
  have HH := Lib.hid hhead
  have Hms := Lib.hid hms
  have Hrl := Lib.hid hrl
  have Ha := Lib.hid hadd
  clear hst hh hl hsrc hks hhead hms hrl hadd
  obtain ⟨r1, r2, hb⟩ := rows2 w (scells hs (uq n)) (scells (List.replicate 4 0#32) 0) 33 33
  go_enter Tryd.func11, Tryd.ntmps11
  go_wp2_with fail
  refine (Hst.out _).mono ?_
  rintro e w1 ⟨rfl, hb1⟩
  have q1 := r1.keep hb1
  have q2 := r2.keep hb1
  have qb := hb.trans (hb1.mono hb.size)
  have hT : w.heap.size + 1 < w1.heap.size := q2.lt
  clear r1 r2 hb hb1
  go_wp2_with (first
    | (with_reducible refine wpList_alloc45 rfl rfl ?_; intro w2 n3 nb ns; have p1 := q1.keep nb; have p2 := q2.keep nb; have pb := qb.trans (nb.mono qb.size); clear q1 q2 qb nb)
    | (refine wpList_storeG rfl 45 (.tmp 5) (.tmp 13) rfl w1.heap.size (wcells ks) (wcells (List.replicate 64 0#32)) rfl rfl n3 (by rw [Tryd.size45, wcells_size, Hks.out]) (by rw [wcells_size, wcells_size, Hks.out, List.length_replicate]) (wcells_one _) ?_; intro w3 r3 on; have r1 := p1.only on (by omega); have r2 := p2.only on (by omega); have zs := on.1.trans ns; have rb := pb.trans (on.2.1.mono (Nat.le_of_lt (Nat.lt_of_succ_lt hT))); clear p1 p2 pb n3 ns on; refine heldM ?_))
  generalize w1.heap.size = T at *
  unfold HeldM
  have hs4 : (w3.alloc (.cells turnsC 41)).heap.size = T + 1 + 1 := by simp [zs]
  have u4 : Row (w3.alloc (.cells turnsC 41)) (T + 1) 41 turnsC := zs ▸ Row.new w3 41 turnsC
  have u1 := r1.old (.cells turnsC 41)
  have u2 := r2.old (.cells turnsC 41)
  have u3 := r3.old (.cells turnsC 41)
  have ub := rb.alloc rb.size (.cells turnsC 41)
  clear r1 r2 r3 rb
  go_wp2_with (first
    | (refine wpList_load_cells rfl 28 (.tmp 15) rfl w.heap.size 0 rfl (wcells hs) _ (scells_cells u1) Tryd.underlying28 rfl (by rw [Tryd.size28, wcells_size, Hh.out]) ?_)
    | (with_reducible refine wpList_alloc28 rfl rfl ?_; intro w4 n5 nb ns; refine heldM ?_))
  have nb : Below (w3.alloc (.cells turnsC 41)).heap.size (w3.alloc (.cells turnsC 41)) w4 := nb
  have p1 := u1.keep nb
  have p2 := u2.keep nb
  have p3 := u3.keep nb
  have p4 := u4.keep nb
  have pb := ub.trans (nb.mono ub.size)
  have n5 : Row w4 (w3.alloc (.cells turnsC 41)).heap.size 28 (wcells (List.replicate 4 0#32)) := n5
  rw [hs4] at n5
  clear u1 u2 u3 u4 ub nb ns
  unfold HeldM
  go_wp2_with (first
    | (refine wpList_storeG rfl 28 (.tmp 7) (.tmp 16) rfl (T + 1 + 1) (wcells hs) (wcells (List.replicate 4 0#32)) rfl rfl n5 (by rw [Tryd.size28, wcells_size, Hh.out]) (by rw [wcells_size, wcells_size, Hh.out, List.length_replicate]) (wcells_one _) ?_; intro w5 r5 on; have R : RbRows w T hs ks n (St.ofL hs) w5 := ⟨p1.only on (by omega), p2.only on (by omega), p3.only on (by omega), p4.only on (by omega), (by rw [ofL_toL hs Hh.out]; exact r5), pb.trans (on.2.1.mono (by omega))⟩; clear p1 p2 p3 p4 pb n5 r5 on; refine heldM ?_))
  unfold HeldM
  clear zs hs4 n5 nb
  go_wp2_with fail
  go_loopw [8] (fun i wr => RmAt w T hs ks xs n i wr) (fun i _ => 64 - (intOf i).toNat)
  case atStart => exact ⟨0, St.ofL hs, Nat.zero_le _, rfl, rfl, R⟩
  case round =>
    clear R
    obtain ⟨k, s, hk, rfl, hs1, R⟩ := hrel
    have HS1 := Lib.hid hs1
    clear hs1
    by_cases hlt64 : k < 64
    · have HW := Lib.hid (show mixS ks xs (St.ofL hs) (k + 1) = stepS k s (ks.getD k 0#32) (xs.getD (kI k % 16) 0#32) by rw [← HS1.out]; rfl)
      obtain ⟨a, b1, c1, d⟩ := s
      obtain ⟨m, hm⟩ : ∃ m, kI k = m := ⟨_, rfl⟩
      have hm2 : m < 448 := by rw [← hm]; exact kI_lt k hlt64
      obtain ⟨j, hj⟩ : ∃ j, m % 16 = j := ⟨_, rfl⟩
      obtain ⟨qa, hqa⟩ : ∃ q, k / 16 = q := ⟨_, rfl⟩
      obtain ⟨qb, hqb⟩ : ∃ q, k % 4 = q := ⟨_, rfl⟩
      obtain ⟨q4, hq4⟩ : ∃ q, qa * 4 = q := ⟨_, rfl⟩
      obtain ⟨qt, hqt⟩ : ∃ q, q4 + qb = q := ⟨_, rfl⟩
      have m1 : (m : Int) % 16 = (j : Int) := (rem_of m j 16 hj).1
      have m2 : (m : Int).tmod 16 = (j : Int) := (rem_of m j 16 hj).2
      have m4 : (k : Int).tmod 4 = (qb : Int) := (rem_of k qb 4 hqb).2
      have m6 : (k : Int).tdiv 16 = (qa : Int) := (quo_of k qa 16 hqa).2
      have w4 : IntKind.i64.wrap ((qa : Int) * 4) = (q4 : Int) := by rw [IntWalk.i64_in _ (by omega)]; omega
      have w5 : IntKind.i64.wrap ((q4 : Int) + (qb : Int)) = (qt : Int) := by rw [IntWalk.i64_in _ (by omega)]; omega
      have gt : (qt : Int) < 16 := by omega
      have gt' : qt < 16 := by omega
      have gk64 : (k : Int) < 64 := by omega
      have hj16 : j < 16 := by omega
      have HX := Lib.hid (show xs.getD (kI k % 16) 0#32 = headW bs j by rw [hm, hj]; exact HH.out j hj16)
      have HW2 := Lib.hid (show stepS k ⟨a, b1, c1, d⟩ (ks.getD k 0#32) (headW bs j) = ⟨d, b1 + rolW (((a + fW k b1 c1 d) + headW bs j) + ks.getD k 0#32) (turnN qt), b1, c1⟩ by unfold stepS; rw [hqa, hqb, hq4, hqt])
      rw [HX.out, HW2.out] at HW
      clear HX HW2
      obtain ⟨j0, e0⟩ : ∃ i : Nat, 4 * j = i := ⟨_, rfl⟩
      obtain ⟨j1, e1⟩ : ∃ i : Nat, j0 + 1 = i := ⟨_, rfl⟩
      obtain ⟨j2, e2⟩ : ∃ i : Nat, j0 + 2 = i := ⟨_, rfl⟩
      obtain ⟨j3, e3⟩ : ∃ i : Nat, j0 + 3 = i := ⟨_, rfl⟩
      have C0 := Lib.hid (Hc.out j0 (by omega))
      have C1 := Lib.hid (Hc.out j1 (by omega))
      have C2 := Lib.hid (Hc.out j2 (by omega))
      have C3 := Lib.hid (Hc.out j3 (by omega))
      have HF := Lib.hid ((four_sum (bs.getD j0 0) (bs.getD j1 0) (bs.getD j2 0) (bs.getD j3 0) (hx.at_ j0) (hx.at_ j1) (hx.at_ j2) (hx.at_ j3)).trans (show _ = headW bs j by unfold headW; rw [e0, e1, e2, e3]))
      have P0 := byte_uv _ (hx.at_ j0)
      have P1 := byte_uv _ (hx.at_ j1)
      have P2 := byte_uv _ (hx.at_ j2)
      have P3 := byte_uv _ (hx.at_ j3)
      generalize bs.getD j0 0 = x0 at *
      generalize bs.getD j1 0 = x1 at *
      generalize bs.getD j2 0 = x2 at *
      generalize bs.getD j3 0 = x3 at *
      generalize BitVec.ofInt 32 x0 = X0 at *
      generalize BitVec.ofInt 32 x1 = X1 at *
      generalize BitVec.ofInt 32 x2 = X2 at *
      generalize BitVec.ofInt 32 x3 = X3 at *
      have l1 := shl8 X1
      have l2 := shl16 X2
      have l3 := shl24 X3
      have n1 := add_uv X0 (X1 <<< 8)
      have n2 := add_uv (X0 + X1 <<< 8) (X2 <<< 16)
      have n3 := add_uv ((X0 + X1 <<< 8) + X2 <<< 16) (X3 <<< 24)
      have ga : (qa : Int) < 4 := by omega
      have gb : (qb : Int) < 4 := by omega
      have y0 : (j0 : Int) < 64 := by omega
      have y1 : (j1 : Int) < 64 := by omega
      have y2 : (j2 : Int) < 64 := by omega
      have y3 : (j3 : Int) < 64 := by omega
      have z0 : IntKind.i64.wrap (4 * (j : Int)) = (j0 : Int) := by rw [IntWalk.i64_in _ (by omega)]; omega
      have z1 : IntKind.i64.wrap ((j0 : Int) + 1) = (j1 : Int) := by rw [IntWalk.i64_in _ (by omega)]; omega
      have z2 : IntKind.i64.wrap ((j0 : Int) + 2) = (j2 : Int) := by rw [IntWalk.i64_in _ (by omega)]; omega
      have z3 : IntKind.i64.wrap ((j0 : Int) + 3) = (j3 : Int) := by rw [IntWalk.i64_in _ (by omega)]; omega
      generalize headW bs j = xk at *
      have v0 : wr.cell? ⟨T + 1 + 1, 0, none⟩ = some (.int .u32 (uv a)) := R.2.2.2.2.1.cell rfl
      have v1 : wr.cell? ⟨T + 1 + 1, 1, none⟩ = some (.int .u32 (uv b1)) := R.2.2.2.2.1.cell rfl
      have v2 : wr.cell? ⟨T + 1 + 1, 2, none⟩ = some (.int .u32 (uv c1)) := R.2.2.2.2.1.cell rfl
      have v3 : wr.cell? ⟨T + 1 + 1, 3, none⟩ = some (.int .u32 (uv d)) := R.2.2.2.2.1.cell rfl
      have TN := turn_lo qt
      have TN1 := TN.1
      have TN2 := TN.2
      by_cases c16 : k < 16
      · have HFW := Lib.hid (f0_uv k b1 c1 d c16)
        obtain ⟨s1, s2⟩ := quo16 k 0 (by omega) (by omega)
        have hqq : qa = 0 := by omega
        have t0 : ((qa : Int) == 0) = true := by rw [hqq]; rfl
        have hmk : (m : Int) = (k : Int) := by rw [← hm]; exact k0_i k c16
        rw [hmk] at m1 m2
        clear hm hj hqa hqb hq4 hqt e0 e1 e2 e3 hmk hm2 hqq s1 s2
        go_wp2_with fail
        go_quiet ((go_at_call 19; refine Calls.quiet_of (not_q _ _)))
        have R2 : RbRows w T hs ks n ⟨a, b1, c1, d⟩ (wr.drewN nq) := R.drewN nq
        clear R v0 v1 v2 v3
        rw [HFW.out]
        clear HFW
        generalize wr.drewN nq = w6 at *
        have c0 := (R2.2.2.2.2.2.cell (p := ⟨b, o + j0, none⟩) hlt).trans C0.out
        have c1' := (R2.2.2.2.2.2.cell (p := ⟨b, o + j1, none⟩) hlt).trans C1.out
        have c2 := (R2.2.2.2.2.2.cell (p := ⟨b, o + j2, none⟩) hlt).trans C2.out
        have c3 := (R2.2.2.2.2.2.cell (p := ⟨b, o + j3, none⟩) hlt).trans C3.out
        go_wp2_with fail
        go_quiet (fail)
        rw [HF.out]
        have R3 := R2.drewN nq
        clear R2 c0 c1' c2 c3 P0 P1 P2 P3 l1 l2 l3 n1 n2 n3
        generalize w6.drewN nq = w7 at *
        have d0 : ∀ g : Above w7.drew, g.1.cell? ⟨T + 1 + 1, 0, none⟩ = some (.int .u32 (uv a)) := fun g => (g.2.cell (p := ⟨T + 1 + 1, 0, none⟩) R3.2.2.2.2.1.lt).trans (R3.2.2.2.2.1.cell rfl)
        have d1 : ∀ g : Above w7.drew, g.1.cell? ⟨T + 1 + 1, 1, none⟩ = some (.int .u32 (uv b1)) := fun g => (g.2.cell (p := ⟨T + 1 + 1, 1, none⟩) R3.2.2.2.2.1.lt).trans (R3.2.2.2.2.1.cell rfl)
        have d2 : ∀ g : Above w7.drew, g.1.cell? ⟨T + 1 + 1, 2, none⟩ = some (.int .u32 (uv c1)) := fun g => (g.2.cell (p := ⟨T + 1 + 1, 2, none⟩) R3.2.2.2.2.1.lt).trans (R3.2.2.2.2.1.cell rfl)
        have d3 : ∀ g : Above w7.drew, g.1.cell? ⟨T + 1 + 1, 3, none⟩ = some (.int .u32 (uv d)) := fun g => (g.2.cell (p := ⟨T + 1 + 1, 3, none⟩) R3.2.2.2.2.1.lt).trans (R3.2.2.2.2.1.cell rfl)
        have d4 : ∀ g : Above w7.drew, g.1.cell? ⟨T, k, none⟩ = some (.int .u32 (uv (ks.getD k 0#32))) := fun g => (g.2.cell (p := ⟨T, k, none⟩) R3.2.2.1.lt).trans (R3.2.2.1.cell (wcells_at ks k (by rw [Hks.out]; exact hlt64)))
        have d5 : ∀ g : Above w7.drew, g.1.cell? ⟨T + 1, qt, none⟩ = some (.int .u64 (turnN qt)) := fun g => (g.2.cell (p := ⟨T + 1, qt, none⟩) R3.2.2.2.1.lt).trans (R3.2.2.2.1.cell (turnsC_at qt gt'))
        generalize fW k b1 c1 d = f at *
        generalize ks.getD k 0#32 = kk at *
        generalize turnN qt = tn at *
        have a1 := add_uv a f
        have a2 := add_uv (a + f) xk
        have a3 := add_uv ((a + f) + xk) kk
        have a4 := add_uv b1 (rolW (((a + f) + xk) + kk) tn)
        go_wp2_with fail
        refine wp_region_segsU 29 [([0, 1, 2, 3, 4, 5, 6, 7, 8, 9, 10, 11, 12, 13, 14, 15, 16, 17, 18, 19, 20, 21, 22, 25, 26, 27, 28], 23)] [24] [29, 30] (by kernel_rfl) (by kernel_rfl) ⟨by kernel_rfl, by decide⟩ (by kernel_rfl) (by kernel_rfl) (fun _ _ d _ _ h => by cases d <;> exact h) ?_
        refine wpSegsU_next (by simp [pickOps]; rfl) ?_
        repeat (go_big_quiet_step (fail))
        refine wpQuiet_nil ?_
        refine wpOp_alone rfl rfl (fun K hK => ?_)
        go_simp
        refine (rrol_any _ tn _ TN1 TN2).mono ?_
        rintro e w' ⟨rfl, rfl⟩
        refine hK _ _ ⟨Ext.refl _, ?_⟩
        clear hK K
        refine wpSegsU_last (by simp [pickOps]; rfl) ?_
        repeat (go_big_quiet_step (fail))
        refine wpQuiet_nil ?_
        clear d0 d1 d2 d3 d4 d5 a1 a2 a3
        refine wpOp_alone rfl rfl (fun K hK => ?_)
        go_simp
        refine hK _ _ ?_
        clear hK K
        refine wpOp_alone rfl rfl (fun K hK => ?_)
        refine wp_store_row 28 (.tmp 7) (.tmp 143) rfl (T + 1 + 1) (wcells (St.toL ⟨d, b1 + rolW (((a + f) + xk) + kk) tn, b1, c1⟩)) rfl rfl 28 (wcells (St.toL ⟨a, b1, c1, d⟩)) R3.drew.2.2.2.2.1 Tryd.size28 rfl (wcells_one _) (hK _ _ ?_)
        clear hK K
        have R4 := R3.drew.step hT ⟨d, b1 + rolW (((a + f) + xk) + kk) tn, b1, c1⟩
        clear R3
        generalize w7.drew.setRow (T + 1 + 1) (wcells (St.toL ⟨d, b1 + rolW (((a + f) + xk) + kk) tn, b1, c1⟩)) = w8 at *
        unfold wpTail
        go_wp2_with fail
        refine ⟨⟨k + 1, _, by omega, by go_num, HW.out, R4⟩, ?_⟩
        simp [intOf]; omega
      · by_cases c32 : k < 32
        · have HFW := Lib.hid (f1_uv k b1 c1 d (by omega) c32)
          obtain ⟨s1, s2⟩ := quo16 k 1 (by omega) (by omega)
          have hqq : qa = 1 := by omega
          have t0 : ((qa : Int) == 0) = false := by rw [hqq]; rfl
          have t1 : ((qa : Int) == 1) = true := by rw [hqq]; rfl
          have hmk : (m : Int) = 5 * (k : Int) + 1 := by rw [← hm]; exact k1_i k (by omega) c32
          rw [hmk] at m1 m2
          clear hm hj hqa hqb hq4 hqt e0 e1 e2 e3 hmk hm2 hqq s1 s2
          go_wp2_with fail
          go_quiet ((go_at_call 19; refine Calls.quiet_of (not_q _ _)))
          have R2 : RbRows w T hs ks n ⟨a, b1, c1, d⟩ (wr.drewN nq) := R.drewN nq
          clear R v0 v1 v2 v3
          rw [HFW.out]
          clear HFW
          generalize wr.drewN nq = w6 at *
          have c0 := (R2.2.2.2.2.2.cell (p := ⟨b, o + j0, none⟩) hlt).trans C0.out
          have c1' := (R2.2.2.2.2.2.cell (p := ⟨b, o + j1, none⟩) hlt).trans C1.out
          have c2 := (R2.2.2.2.2.2.cell (p := ⟨b, o + j2, none⟩) hlt).trans C2.out
          have c3 := (R2.2.2.2.2.2.cell (p := ⟨b, o + j3, none⟩) hlt).trans C3.out
          go_wp2_with fail
          go_quiet (fail)
          rw [HF.out]
          have R3 := R2.drewN nq
          clear R2 c0 c1' c2 c3 P0 P1 P2 P3 l1 l2 l3 n1 n2 n3
          generalize w6.drewN nq = w7 at *
          have d0 : ∀ g : Above w7.drew, g.1.cell? ⟨T + 1 + 1, 0, none⟩ = some (.int .u32 (uv a)) := fun g => (g.2.cell (p := ⟨T + 1 + 1, 0, none⟩) R3.2.2.2.2.1.lt).trans (R3.2.2.2.2.1.cell rfl)
          have d1 : ∀ g : Above w7.drew, g.1.cell? ⟨T + 1 + 1, 1, none⟩ = some (.int .u32 (uv b1)) := fun g => (g.2.cell (p := ⟨T + 1 + 1, 1, none⟩) R3.2.2.2.2.1.lt).trans (R3.2.2.2.2.1.cell rfl)
          have d2 : ∀ g : Above w7.drew, g.1.cell? ⟨T + 1 + 1, 2, none⟩ = some (.int .u32 (uv c1)) := fun g => (g.2.cell (p := ⟨T + 1 + 1, 2, none⟩) R3.2.2.2.2.1.lt).trans (R3.2.2.2.2.1.cell rfl)
          have d3 : ∀ g : Above w7.drew, g.1.cell? ⟨T + 1 + 1, 3, none⟩ = some (.int .u32 (uv d)) := fun g => (g.2.cell (p := ⟨T + 1 + 1, 3, none⟩) R3.2.2.2.2.1.lt).trans (R3.2.2.2.2.1.cell rfl)
          have d4 : ∀ g : Above w7.drew, g.1.cell? ⟨T, k, none⟩ = some (.int .u32 (uv (ks.getD k 0#32))) := fun g => (g.2.cell (p := ⟨T, k, none⟩) R3.2.2.1.lt).trans (R3.2.2.1.cell (wcells_at ks k (by rw [Hks.out]; exact hlt64)))
          have d5 : ∀ g : Above w7.drew, g.1.cell? ⟨T + 1, qt, none⟩ = some (.int .u64 (turnN qt)) := fun g => (g.2.cell (p := ⟨T + 1, qt, none⟩) R3.2.2.2.1.lt).trans (R3.2.2.2.1.cell (turnsC_at qt gt'))
          generalize fW k b1 c1 d = f at *
          generalize ks.getD k 0#32 = kk at *
          generalize turnN qt = tn at *
          have a1 := add_uv a f
          have a2 := add_uv (a + f) xk
          have a3 := add_uv ((a + f) + xk) kk
          have a4 := add_uv b1 (rolW (((a + f) + xk) + kk) tn)
          go_wp2_with fail
          refine wp_region_segsU 29 [([0, 1, 2, 3, 4, 5, 6, 7, 8, 9, 10, 11, 12, 13, 14, 15, 16, 17, 18, 19, 20, 21, 22, 25, 26, 27, 28], 23)] [24] [29, 30] (by kernel_rfl) (by kernel_rfl) ⟨by kernel_rfl, by decide⟩ (by kernel_rfl) (by kernel_rfl) (fun _ _ d _ _ h => by cases d <;> exact h) ?_
          refine wpSegsU_next (by simp [pickOps]; rfl) ?_
          repeat (go_big_quiet_step (fail))
          refine wpQuiet_nil ?_
          refine wpOp_alone rfl rfl (fun K hK => ?_)
          go_simp
          refine (rrol_any _ tn _ TN1 TN2).mono ?_
          rintro e w' ⟨rfl, rfl⟩
          refine hK _ _ ⟨Ext.refl _, ?_⟩
          clear hK K
          refine wpSegsU_last (by simp [pickOps]; rfl) ?_
          repeat (go_big_quiet_step (fail))
          refine wpQuiet_nil ?_
          clear d0 d1 d2 d3 d4 d5 a1 a2 a3
          refine wpOp_alone rfl rfl (fun K hK => ?_)
          go_simp
          refine hK _ _ ?_
          clear hK K
          refine wpOp_alone rfl rfl (fun K hK => ?_)
          refine wp_store_row 28 (.tmp 7) (.tmp 143) rfl (T + 1 + 1) (wcells (St.toL ⟨d, b1 + rolW (((a + f) + xk) + kk) tn, b1, c1⟩)) rfl rfl 28 (wcells (St.toL ⟨a, b1, c1, d⟩)) R3.drew.2.2.2.2.1 Tryd.size28 rfl (wcells_one _) (hK _ _ ?_)
          clear hK K
          have R4 := R3.drew.step hT ⟨d, b1 + rolW (((a + f) + xk) + kk) tn, b1, c1⟩
          clear R3
          generalize w7.drew.setRow (T + 1 + 1) (wcells (St.toL ⟨d, b1 + rolW (((a + f) + xk) + kk) tn, b1, c1⟩)) = w8 at *
          unfold wpTail
          go_wp2_with fail
          refine ⟨⟨k + 1, _, by omega, by go_num, HW.out, R4⟩, ?_⟩
          simp [intOf]; omega
        · by_cases c48 : k < 48
          · have HFW := Lib.hid (f2_uv k b1 c1 d (by omega) c48)
            obtain ⟨s1, s2⟩ := quo16 k 2 (by omega) (by omega)
            have hqq : qa = 2 := by omega
            have t0 : ((qa : Int) == 0) = false := by rw [hqq]; rfl
            have t1 : ((qa : Int) == 1) = false := by rw [hqq]; rfl
            have t2 : ((qa : Int) == 2) = true := by rw [hqq]; rfl
            have hmk : (m : Int) = 3 * (k : Int) + 5 := by rw [← hm]; exact k2_i k (by omega) c48
            rw [hmk] at m1 m2
            clear hm hj hqa hqb hq4 hqt e0 e1 e2 e3 hmk hm2 hqq s1 s2
            go_wp2_with fail
            have R2 : RbRows w T hs ks n ⟨a, b1, c1, d⟩ wr := R
            clear R v0 v1 v2 v3
            rw [HFW.out]
            clear HFW
            have c0 := (R2.2.2.2.2.2.cell (p := ⟨b, o + j0, none⟩) hlt).trans C0.out
            have c1' := (R2.2.2.2.2.2.cell (p := ⟨b, o + j1, none⟩) hlt).trans C1.out
            have c2 := (R2.2.2.2.2.2.cell (p := ⟨b, o + j2, none⟩) hlt).trans C2.out
            have c3 := (R2.2.2.2.2.2.cell (p := ⟨b, o + j3, none⟩) hlt).trans C3.out
            go_wp2_with fail
            go_quiet (fail)
            rw [HF.out]
            have R3 := R2.drewN nq
            clear R2 c0 c1' c2 c3 P0 P1 P2 P3 l1 l2 l3 n1 n2 n3
            generalize wr.drewN nq = w7 at *
            have d0 : ∀ g : Above w7.drew, g.1.cell? ⟨T + 1 + 1, 0, none⟩ = some (.int .u32 (uv a)) := fun g => (g.2.cell (p := ⟨T + 1 + 1, 0, none⟩) R3.2.2.2.2.1.lt).trans (R3.2.2.2.2.1.cell rfl)
            have d1 : ∀ g : Above w7.drew, g.1.cell? ⟨T + 1 + 1, 1, none⟩ = some (.int .u32 (uv b1)) := fun g => (g.2.cell (p := ⟨T + 1 + 1, 1, none⟩) R3.2.2.2.2.1.lt).trans (R3.2.2.2.2.1.cell rfl)
            have d2 : ∀ g : Above w7.drew, g.1.cell? ⟨T + 1 + 1, 2, none⟩ = some (.int .u32 (uv c1)) := fun g => (g.2.cell (p := ⟨T + 1 + 1, 2, none⟩) R3.2.2.2.2.1.lt).trans (R3.2.2.2.2.1.cell rfl)
            have d3 : ∀ g : Above w7.drew, g.1.cell? ⟨T + 1 + 1, 3, none⟩ = some (.int .u32 (uv d)) := fun g => (g.2.cell (p := ⟨T + 1 + 1, 3, none⟩) R3.2.2.2.2.1.lt).trans (R3.2.2.2.2.1.cell rfl)
            have d4 : ∀ g : Above w7.drew, g.1.cell? ⟨T, k, none⟩ = some (.int .u32 (uv (ks.getD k 0#32))) := fun g => (g.2.cell (p := ⟨T, k, none⟩) R3.2.2.1.lt).trans (R3.2.2.1.cell (wcells_at ks k (by rw [Hks.out]; exact hlt64)))
            have d5 : ∀ g : Above w7.drew, g.1.cell? ⟨T + 1, qt, none⟩ = some (.int .u64 (turnN qt)) := fun g => (g.2.cell (p := ⟨T + 1, qt, none⟩) R3.2.2.2.1.lt).trans (R3.2.2.2.1.cell (turnsC_at qt gt'))
            generalize fW k b1 c1 d = f at *
            generalize ks.getD k 0#32 = kk at *
            generalize turnN qt = tn at *
            have a1 := add_uv a f
            have a2 := add_uv (a + f) xk
            have a3 := add_uv ((a + f) + xk) kk
            have a4 := add_uv b1 (rolW (((a + f) + xk) + kk) tn)
            go_wp2_with fail
            refine wp_region_segsU 29 [([0, 1, 2, 3, 4, 5, 6, 7, 8, 9, 10, 11, 12, 13, 14, 15, 16, 17, 18, 19, 20, 21, 22, 25, 26, 27, 28], 23)] [24] [29, 30] (by kernel_rfl) (by kernel_rfl) ⟨by kernel_rfl, by decide⟩ (by kernel_rfl) (by kernel_rfl) (fun _ _ d _ _ h => by cases d <;> exact h) ?_
            refine wpSegsU_next (by simp [pickOps]; rfl) ?_
            repeat (go_big_quiet_step (fail))
            refine wpQuiet_nil ?_
            refine wpOp_alone rfl rfl (fun K hK => ?_)
            go_simp
            refine (rrol_any _ tn _ TN1 TN2).mono ?_
            rintro e w' ⟨rfl, rfl⟩
            refine hK _ _ ⟨Ext.refl _, ?_⟩
            clear hK K
            refine wpSegsU_last (by simp [pickOps]; rfl) ?_
            repeat (go_big_quiet_step (fail))
            refine wpQuiet_nil ?_
            clear d0 d1 d2 d3 d4 d5 a1 a2 a3
            refine wpOp_alone rfl rfl (fun K hK => ?_)
            go_simp
            refine hK _ _ ?_
            clear hK K
            refine wpOp_alone rfl rfl (fun K hK => ?_)
            refine wp_store_row 28 (.tmp 7) (.tmp 143) rfl (T + 1 + 1) (wcells (St.toL ⟨d, b1 + rolW (((a + f) + xk) + kk) tn, b1, c1⟩)) rfl rfl 28 (wcells (St.toL ⟨a, b1, c1, d⟩)) R3.drew.2.2.2.2.1 Tryd.size28 rfl (wcells_one _) (hK _ _ ?_)
            clear hK K
            have R4 := R3.drew.step hT ⟨d, b1 + rolW (((a + f) + xk) + kk) tn, b1, c1⟩
            clear R3
            generalize w7.drew.setRow (T + 1 + 1) (wcells (St.toL ⟨d, b1 + rolW (((a + f) + xk) + kk) tn, b1, c1⟩)) = w8 at *
            unfold wpTail
            go_wp2_with fail
            refine ⟨⟨k + 1, _, by omega, by go_num, HW.out, R4⟩, ?_⟩
            simp [intOf]; omega
          · have HFW := Lib.hid (f3_uv k b1 c1 d (by omega))
            obtain ⟨s1, s2⟩ := quo16 k 3 (by omega) (by omega)
            have hqq : qa = 3 := by omega
            have t0 : ((qa : Int) == 0) = false := by rw [hqq]; rfl
            have t1 : ((qa : Int) == 1) = false := by rw [hqq]; rfl
            have t2 : ((qa : Int) == 2) = false := by rw [hqq]; rfl
            have hmk : (m : Int) = 7 * (k : Int) := by rw [← hm]; exact k3_i k (by omega)
            rw [hmk] at m1 m2
            clear hm hj hqa hqb hq4 hqt e0 e1 e2 e3 hmk hm2 hqq s1 s2
            go_wp2_with fail
            go_quiet ((go_at_call 19; refine Calls.quiet_of (not_q _ _)))
            have R2 : RbRows w T hs ks n ⟨a, b1, c1, d⟩ (wr.drewN nq) := R.drewN nq
            clear R v0 v1 v2 v3
            rw [HFW.out]
            clear HFW
            generalize wr.drewN nq = w6 at *
            have c0 := (R2.2.2.2.2.2.cell (p := ⟨b, o + j0, none⟩) hlt).trans C0.out
            have c1' := (R2.2.2.2.2.2.cell (p := ⟨b, o + j1, none⟩) hlt).trans C1.out
            have c2 := (R2.2.2.2.2.2.cell (p := ⟨b, o + j2, none⟩) hlt).trans C2.out
            have c3 := (R2.2.2.2.2.2.cell (p := ⟨b, o + j3, none⟩) hlt).trans C3.out
            go_wp2_with fail
            go_quiet (fail)
            rw [HF.out]
            have R3 := R2.drewN nq
            clear R2 c0 c1' c2 c3 P0 P1 P2 P3 l1 l2 l3 n1 n2 n3
            generalize w6.drewN nq = w7 at *
            have d0 : ∀ g : Above w7.drew, g.1.cell? ⟨T + 1 + 1, 0, none⟩ = some (.int .u32 (uv a)) := fun g => (g.2.cell (p := ⟨T + 1 + 1, 0, none⟩) R3.2.2.2.2.1.lt).trans (R3.2.2.2.2.1.cell rfl)
            have d1 : ∀ g : Above w7.drew, g.1.cell? ⟨T + 1 + 1, 1, none⟩ = some (.int .u32 (uv b1)) := fun g => (g.2.cell (p := ⟨T + 1 + 1, 1, none⟩) R3.2.2.2.2.1.lt).trans (R3.2.2.2.2.1.cell rfl)
            have d2 : ∀ g : Above w7.drew, g.1.cell? ⟨T + 1 + 1, 2, none⟩ = some (.int .u32 (uv c1)) := fun g => (g.2.cell (p := ⟨T + 1 + 1, 2, none⟩) R3.2.2.2.2.1.lt).trans (R3.2.2.2.2.1.cell rfl)
            have d3 : ∀ g : Above w7.drew, g.1.cell? ⟨T + 1 + 1, 3, none⟩ = some (.int .u32 (uv d)) := fun g => (g.2.cell (p := ⟨T + 1 + 1, 3, none⟩) R3.2.2.2.2.1.lt).trans (R3.2.2.2.2.1.cell rfl)
            have d4 : ∀ g : Above w7.drew, g.1.cell? ⟨T, k, none⟩ = some (.int .u32 (uv (ks.getD k 0#32))) := fun g => (g.2.cell (p := ⟨T, k, none⟩) R3.2.2.1.lt).trans (R3.2.2.1.cell (wcells_at ks k (by rw [Hks.out]; exact hlt64)))
            have d5 : ∀ g : Above w7.drew, g.1.cell? ⟨T + 1, qt, none⟩ = some (.int .u64 (turnN qt)) := fun g => (g.2.cell (p := ⟨T + 1, qt, none⟩) R3.2.2.2.1.lt).trans (R3.2.2.2.1.cell (turnsC_at qt gt'))
            generalize fW k b1 c1 d = f at *
            generalize ks.getD k 0#32 = kk at *
            generalize turnN qt = tn at *
            have a1 := add_uv a f
            have a2 := add_uv (a + f) xk
            have a3 := add_uv ((a + f) + xk) kk
            have a4 := add_uv b1 (rolW (((a + f) + xk) + kk) tn)
            go_wp2_with fail
            refine wp_region_segsU 29 [([0, 1, 2, 3, 4, 5, 6, 7, 8, 9, 10, 11, 12, 13, 14, 15, 16, 17, 18, 19, 20, 21, 22, 25, 26, 27, 28], 23)] [24] [29, 30] (by kernel_rfl) (by kernel_rfl) ⟨by kernel_rfl, by decide⟩ (by kernel_rfl) (by kernel_rfl) (fun _ _ d _ _ h => by cases d <;> exact h) ?_
            refine wpSegsU_next (by simp [pickOps]; rfl) ?_
            repeat (go_big_quiet_step (fail))
            refine wpQuiet_nil ?_
            refine wpOp_alone rfl rfl (fun K hK => ?_)
            go_simp
            refine (rrol_any _ tn _ TN1 TN2).mono ?_
            rintro e w' ⟨rfl, rfl⟩
            refine hK _ _ ⟨Ext.refl _, ?_⟩
            clear hK K
            refine wpSegsU_last (by simp [pickOps]; rfl) ?_
            repeat (go_big_quiet_step (fail))
            refine wpQuiet_nil ?_
            clear d0 d1 d2 d3 d4 d5 a1 a2 a3
            refine wpOp_alone rfl rfl (fun K hK => ?_)
            go_simp
            refine hK _ _ ?_
            clear hK K
            refine wpOp_alone rfl rfl (fun K hK => ?_)
            refine wp_store_row 28 (.tmp 7) (.tmp 143) rfl (T + 1 + 1) (wcells (St.toL ⟨d, b1 + rolW (((a + f) + xk) + kk) tn, b1, c1⟩)) rfl rfl 28 (wcells (St.toL ⟨a, b1, c1, d⟩)) R3.drew.2.2.2.2.1 Tryd.size28 rfl (wcells_one _) (hK _ _ ?_)
            clear hK K
            have R4 := R3.drew.step hT ⟨d, b1 + rolW (((a + f) + xk) + kk) tn, b1, c1⟩
            clear R3
            generalize w7.drew.setRow (T + 1 + 1) (wcells (St.toL ⟨d, b1 + rolW (((a + f) + xk) + kk) tn, b1, c1⟩)) = w8 at *
            unfold wpTail
            go_wp2_with fail
            refine ⟨⟨k + 1, _, by omega, by go_num, HW.out, R4⟩, ?_⟩
            simp [intOf]; omega
    · obtain rfl : k = 64 := by omega
      rw [show ((64 : Nat) : Int) = (64 : Int) from rfl]
      have HM := Lib.hid (show s.toL = ms by rw [← HS1.out]; exact Hms.out)
      have HML := Lib.hid (show ms.length = 4 by rw [← HM.out]; rfl)
      obtain ⟨r1, r2, r3, r4, p5, hb⟩ := R
      rw [HM.out] at p5
      clear r3 r4 HS1 HM
      go_wp2_with fail
      go_loopw [12] (fun i wr => RaAt w (T + 1 + 1) rs hs ms n i wr) (fun i _ => 4 - (intOf i).toNat)
      case atStart => exact ⟨0, Nat.zero_le _, rfl, by rw [over_none]; exact r1, r2, p5, hb⟩
      case round =>
        clear r1 r2 p5 hb hk hlt64
        obtain ⟨k, hk, rfl, r1, r3, p5, hb⟩ := hrel
        by_cases hlt4 : k < 4
        · have ck := r1.cell (scells_at (over rs hs k) (uq n) k (by rw [over_length rs hs k (by rw [Hh.out, Hrl.out]), Hrl.out]; omega))
          rw [over_getD rs hs 0#32 k (by rw [Hrl.out]; omega)] at ck
          have fk := r1.free k
          have cm := p5.cell (wcells_at ms k (by rw [HML.out]; omega))
          have HA := Lib.hid (Ha.out k hlt4)
          generalize ms.getD k 0#32 = m at *
          generalize hs.getD k 0#32 = h at *
          have hm := add_uv h m
          have gk : (k : Int) < 4 := by omega
          go_wp2_with fail
          go_still_tail 11, (by kernel_rfl)
          change wpList _ _ _ _ _ wr.drew
          go_wp2_with fail
          refine ⟨⟨k + 1, by omega, by go_num, ?_, r3.other (by omega) _ _, p5.other (by omega) _ _, (hb.setCell (p := ⟨w.heap.size, k, none⟩) (Nat.le_refl _) _).drew⟩, ?_⟩
          · rw [← HA.out, ← over_set rs hs 0#32 k (by rw [Hh.out, Hrl.out]) (by rw [Hrl.out]; omega), ← scells_set _ _ _ _ (by rw [over_length rs hs k (by rw [Hh.out, Hrl.out]), Hrl.out]; omega)]
            exact r1.set k _
          · simp [intOf]; omega
        · obtain rfl : k = 4 := by omega
          rw [show ((4 : Nat) : Int) = (4 : Int) from rfl]
          rw [over_all rs hs 4 (by rw [Hh.out, Hrl.out]) (by rw [Hrl.out]; omega)] at r1
          have cb := r1.cell (scells_last rs (uq n) 4 Hrl.out)
          have fb := r1.free 4
          have hq := uq_add64 n
          have r4 : Row (wr.setCell ⟨w.heap.size, 4, none⟩ (.int .u64 (uq (n + 64#64)))) w.heap.size 33 (scells rs (uq (n + 64#64))) := by rw [← scells_setLast rs (uq n) _ 4 Hrl.out]; exact r1.set 4 _
          have r5 := r3.other (b := w.heap.size) (by omega) 4 (.int .u64 (uq (n + 64#64)))
          go_wp2_with (first
            | (refine wpList_load_cells rfl 33 (.tmp 2) rfl w.heap.size 0 rfl (scells rs (uq (n + 64#64))) _ r4.cells Tryd.underlying33 rfl (by rw [Tryd.size33, scells_size, Hrl.out]) ?_)
            | (refine wpList_store_row rfl 33 (.tmp 4) (.tmp 163) rfl (w.heap.size + 1) (scells rs (uq (n + 64#64))) rfl rfl 33 (scells (List.replicate 4 0#32) 0) r5 (by rw [Tryd.size33, scells_size, Hrl.out]) (by rw [scells_size, scells_size, Hrl.out]; rfl) (scells_one _ _) ?_))
          refine bodyPost_ret (v := .agg (scells rs (uq (n + 64#64)))) ?_ rfl ?_
          · exact results_cell_row Tryd.results11 _ _ (w.heap.size + 1) 33 (scells rs (uq (n + 64#64))) (0, 0) _ rfl (r5.setRow _) Tryd.underlying33 rfl (by rw [Tryd.size33, scells_size, Hrl.out])
          · exact ⟨rfl, below_setRow (hb.setCell (p := ⟨w.heap.size, 4, none⟩) (Nat.le_refl _) _) (by omega) _⟩
theorem rblock_any (ks hs : List Wd) (n : Qd) (b o c : Nat) (bs : List Int) (w : World) (hst : SinesTell ks) (hh : hs.length = 4) (hl : bs.length = 64) (hx : IsBytes bs) (hlt : b < w.heap.size) (hsrc : ∀ i, i < 64 → w.cell? ⟨b, o + i, none⟩ = some (.int .u8 (bs.getD i 0))) (hks : ks.length = 64) :
    Calls Tryd.prog 11 #[.agg (scells hs (uq n)), .slice (some ⟨b, o, none⟩) 64 c] w fun e w' => e = .returned (.agg (scells (blockW ks hs bs) (uq (n + 64#64)))) ∧ Below w.heap.size w w' :=
  rblock_gen ks hs (readW bs) (blockW ks hs bs) _ n b o c bs w hst hh hl hx hlt hsrc hks (readW_getD bs) rfl (blockW_length ks hs bs hh) (fun i hi => blockW_getD ks hs bs hh i hi)
end Go.Proofs.YtfjkejdnbegomaaDoor.Md5

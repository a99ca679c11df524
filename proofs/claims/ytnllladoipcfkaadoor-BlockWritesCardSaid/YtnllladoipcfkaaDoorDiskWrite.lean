/- Write on a disk. No conditions but those that stand in each lemma. -/
import Derived.Test.YtnllladoipcfkaaDoorDisk
namespace Go.Proofs.YtnllladoipcfkaaDoor
open Go.RowKit Go.Maps

/-- The bytes, and zeros behind them. -/
def padS (xs : List Int) : List Int := xs ++ List.replicate (512 - xs.length) 0
theorem padS_length (xs : List Int) (h : xs.length ≤ 512) : (padS xs).length = 512 := by unfold padS; rw [List.length_append, List.length_replicate]; omega
theorem splice_pad (xs : List Int) : (splice ((List.replicate 512 (0 : Int)).map (Value.int .u8)) 0 (cellsOf .u8 xs)).toArray = bcells (padS xs) := by
  unfold splice bcells padS cellsOf
  rw [List.take_zero, List.nil_append, List.length_map, Nat.zero_add, List.map_append, ← List.map_drop, List.drop_replicate]
theorem src_copy {w : World} {A : Option Addr} {xs : List Int} (h : Src .u8 w A xs) (hp : 0 < (cellsOf .u8 xs).length) : ∃ ad, A = some ad ∧ ∀ j v, (cellsOf .u8 xs)[j]? = some v → w.cell? (ad.add j) = some v := by
  obtain ⟨b, o, rfl, _, hc⟩ := h (by rw [cellsOf_length] at hp; exact hp)
  refine ⟨_, rfl, fun j v hv => ?_⟩
  obtain ⟨hj, rfl⟩ := cellsOf_inv _ _ _ _ hv
  have hadd : (⟨b, o, none⟩ : Addr).add j = ⟨b, o + j, none⟩ := by unfold Addr.add; split <;> simp_all
  rw [hadd]
  exact hc j hj
/-- A new variable for a sector: zeros. -/
theorem wpList_alloc47 {ops : Array Oper} {rest : List Oper} {o : Oper} {a : Act} {w : World} {Q : Exit → Act → World → Prop} (hg : o.guard = none) (ho : o.op = .alloc 62)
    (h : ∀ w', Row w' w.heap.size 62 (bcells (List.replicate 512 0)) → Below w.heap.size w w' → w'.heap.size = w.heap.size + 1 → wpList Tryd.prog ops Q rest (a.put o.dst (.pointer (some ⟨w.heap.size, 0, none⟩))) w') : wpList Tryd.prog ops Q (o :: rest) a w := by
  refine wpList_plain hg fun K hK => ?_
  unfold Oper.wp
  have hr : (execOp a.eval o).run Tryd.prog w = .ok (.value (.pointer (some ⟨w.heap.size, 0, none⟩))) (w.alloc (.cells (bcells (List.replicate 512 0)) 62)) := by
    unfold execOp
    rw [ho]
    kernel_rfl
  rw [hr, Oper.upon_value]
  exact hK _ _ (h _ (Row.new _ _ _) ((Below.refl _ _).alloc (Nat.le_refl _) _) (by show (w.heap.push _).size = _; rw [Array.size_push]))
theorem wp_update_sec {o : Oper} {a : Act} {w : World} {K : Act → World → Prop} {Q : Exit → Act → World → Prop} (m x v : Operand) (hop : o.op = Op.mapUpdate 43 m x v) (M k : Nat) (D : DataW Unit) (hm : a.eval m = .map (some M))
    (hown : w.ownsMap Tryd.prog 3 secR M k D) (hn : k < maxLen) (y : Int) (hy : (Lit.int .i64 y).wf = true) (hx : a.eval x = .int .i64 y) (s : List Int) (hs : s.length = 512) (hv : a.eval v = secV s)
    (hK : ∀ w', w'.ownsMap Tryd.prog 3 secR M (k + 1) (D.put (.int .i64 y) (secD s)) → w.grownBy w' (some M) → K (a.put o.dst undef) w') : o.wp Tryd.prog a w K Q := by
  obtain ⟨w', hrun, r1, r2⟩ := hown.update law3 Tryd.underlying43 hn (keyOf_int_mk Tryd.underlying3 hy) (secR_mk s hs)
  unfold Oper.wp
  simp [execOp, hop, hm, hx, hv, hrun, Result.andThen]
  exact hK _ r1 r2

theorem write_arg {w : World} {base p B M n c k : Nat} {ls : List (List Int)} {D : DataW Unit} {f : Bool} {l : Int} (h : Disk w base p B M n c k ls D f l) (x : Int) (hx : ¬ (0 ≤ x ∧ x < n)) (b : Value) :
    Calls Tryd.prog 19 #[.pointer (some ⟨p, 0, none⟩), .int .i64 x, b] w fun e w' => e = .returned (.int .i64 2) ∧ w' = w := by
  go_enter Tryd.func19, Tryd.ntmps19
  go_wp2_with fail
  refine (disk_has h x).mono ?_
  rintro e w1 ⟨rfl, rfl⟩
  rw [if_neg hx]
  go_wp2_with fail
  go_ret
  exact ⟨rfl, rfl⟩
theorem write_big {w : World} {base p B M n c k : Nat} {ls : List (List Int)} {D : DataW Unit} {f : Bool} {l : Int} (h : Disk w base p B M n c k ls D f l) (x : Int) (hx : 0 ≤ x ∧ x < n) (A : Option Addr) (m q : Nat) (hm : 512 < m) :
    Calls Tryd.prog 19 #[.pointer (some ⟨p, 0, none⟩), .int .i64 x, .slice A m q] w fun e w' => e = .returned (.int .i64 3) ∧ w' = w := by
  have h1 : (512 : Int) < m := by omega
  go_enter Tryd.func19, Tryd.ntmps19
  go_wp2_with fail
  refine (disk_has h x).mono ?_
  rintro e w1 ⟨rfl, rfl⟩
  rw [if_pos hx]
  go_wp2_with fail
  go_ret
  exact ⟨rfl, rfl⟩
theorem write_cut {w : World} {base p B M n c k : Nat} {ls : List (List Int)} {D : DataW Unit} {f : Bool} {l : Int} (h : Disk w base p B M n c k ls D f l) (h0 : 0 ≤ l) (h1 : l ≤ 1000) (x : Int) (hx : 0 ≤ x ∧ x < n) (A : Option Addr) (m q : Nat) (hm : m ≤ 512)
    (hc : (f && (l == 0)) = true) :
    Calls Tryd.prog 19 #[.pointer (some ⟨p, 0, none⟩), .int .i64 x, .slice A m q] w fun e w' => e = .returned (.int .i64 17) ∧ w' = w := by
  have g1 : ¬ (512 : Int) < m := by omega
  have g2 : decide ((512 : Int) < m) = false := by simp; omega
  go_enter Tryd.func19, Tryd.ntmps19
  go_wp2_with fail
  refine (disk_has h x).mono ?_
  rintro e w1 ⟨rfl, rfl⟩
  rw [if_pos hx]
  go_wp2_with fail
  refine (disk_spend h h0 h1).mono ?_
  rintro e w2 (⟨_, rfl, rfl⟩ | ⟨hb, rfl, _⟩)
  · go_wp2_with fail
    go_ret
    exact ⟨rfl, rfl⟩
  · rw [hc] at hb; cases hb
/-- Bytes that a slice holds do not lie in a disk's cells. -/
theorem src_ne {w : World} {p n c : Nat} {B : Option Addr} {M : Option Nat} {f : Bool} {l : Int} (h : Row w p 45 (dcells B n c M f l)) {b o : Nat} {x : Int} (hc : w.cell? ⟨b, o, none⟩ = some (.int .u8 x)) : b ≠ p := by
  rintro rfl
  rw [cell_of_row w b o _ 45 (0, 0) h] at hc
  unfold dcells at hc
  match o, hc with
  | 0, hc => cases hc
  | 1, hc => cases hc
  | 2, hc => cases hc
  | 3, hc => cases hc
  | _ + 4, hc => cases hc
theorem below_grown {w w' : World} {M base : Nat} (hg : w.drew.grownBy w' (some M)) (hM : base ≤ M) (hs : base ≤ w.heap.size) : Below base w w' :=
  ⟨hg.os, hg.tape, hg.output, hg.size, fun k hk => hg.block k (by show k < w.heap.size; omega) (by intro e; injection e with e; omega)⟩
theorem disk_put {w w' : World} {base p B M n c k : Nat} {ls : List (List Int)} {D D' : DataW Unit} {f : Bool} {l : Int} (h : Disk w base p B M n c k ls D f l) {x : Int} {d : DataW Unit}
    (ho : w'.ownsMap Tryd.prog 3 secR M (k + 1) D') (hg : w.drew.grownBy w' (some M)) (hD : D' = D.put (.int .i64 x) d) (hx : 0 ≤ x ∧ x < n) : Disk w' base p B M n c (k + 1) ls D' f l := by
  subst hD
  have e1 : w'.heap[p]? = w.heap[p]? := hg.block p h.obj.lt (by intro e; injection e with e; exact h.neM e)
  have e2 : w'.heap[B]? = w.heap[B]? := hg.block B h.secs.lt (by intro e; injection e with e; exact h.neBM e)
  refine ⟨e1.trans h.obj, h.secs.block e2, h.len, h.pos, h.most, ho, fun y hy => ?_, h.basep, h.baseB, h.baseM⟩
  by_cases hxy : y = x
  · subst hxy; exact hx
  · rw [has_put_other (by intro e; injection e with _ e; exact hxy e)] at hy
    exact h.keys y hy
set_option maxRecDepth 100000 in
theorem write_done {w : World} {base p B M n c k : Nat} {ls : List (List Int)} {D : DataW Unit} {f : Bool} {l : Int} (h : Disk w base p B M n c k ls D f l) (h0 : 0 ≤ l) (h1 : l ≤ 1000) (x : Int) (hx : 0 ≤ x ∧ x < n) (A : Option Addr) (m q : Nat) (xs : List Int)
    (hm : m = xs.length) (hs : Src .u8 w A xs) (hl : xs.length ≤ 512) (hc : (f && (l == 0)) = false) (hk : k ≤ 1000) :
    Calls Tryd.prog 19 #[.pointer (some ⟨p, 0, none⟩), .int .i64 x, .slice A m q] w fun e w' => e = .returned (.int .i64 0) ∧ Below base w w' ∧ Oth p B M w w' ∧ Disk w' base p B M n c (k + 1) ls (D.put (.int .i64 x) (secD (padS xs))) f (spentL f l) := by
  have g1 : ¬ (512 : Int) < m := by omega
  have g2 : decide ((512 : Int) < m) = false := by simp; omega
  have Hm := Lib.hid hm
  have Hs := Lib.hid hs
  have Hl := Lib.hid hl
  have Hk := Lib.hid hk
  have hw : (Lit.int .i64 x).wf = true := by have := h.most; exact WalkArith.wf_i64 (by omega)
  have Hw := Lib.hid hw
  have Hx := Lib.hid hx
  clear hm hs hl hk hw
  go_enter Tryd.func19, Tryd.ntmps19
  go_wp2_with fail
  refine (disk_has h x).mono ?_
  rintro e w1 ⟨rfl, rfl⟩
  rw [if_pos hx]
  clear hx
  go_wp2_with fail
  refine (disk_spend h h0 h1).mono ?_
  rintro e w2 (⟨hb, _⟩ | ⟨_, rfl, hb2, hz2, h2, ho2⟩)
  · rw [hc] at hb; cases hb
  · have hs2 : Hid (Src .u8 w2 A xs) := Lib.hid (fun hn => by
      obtain ⟨b, o, rfl, hlt, hcell⟩ := Hs.out hn
      have hbp : b ≠ p := src_ne h.obj (hcell 0 hn)
      exact ⟨b, o, rfl, by rw [hz2]; exact hlt, fun i hi => by rw [← hcell i hi]; exact cell_heap (ho2 b hbp) _⟩)
    have ot2 : Oth p B M w1 w2 := ⟨Nat.le_of_eq hz2.symm, fun b _ h1 _ _ => ho2 b h1⟩
    clear h hz2 ho2 Hs
    go_wp2_with (first
      | (refine wpList_alloc47 rfl rfl ?_; intro w3 r3 hb3 hz3)
      | (refine wpList_copy_splice rfl (.tmp 21) (.tmp 22) 23 23 rfl 5 Tryd.underlying23 Tryd.size5 _ _ 512 512 m _ rfl rfl w2.heap.size 0 ((List.replicate 512 (0 : Int)).map (Value.int .u8)) 62 r3 (cellsOf .u8 xs) (by rw [cellsOf_length, ← Hm.out]; exact (Nat.min_eq_left (by have := Hl.out; have := Hm.out; omega)).symm) (fun hp => ⟨rfl, src_copy (hs2.out.keep hb3) hp⟩) (by rw [cellsOf_length, List.length_map, List.length_replicate]; have := Hl.out; omega) (cellsOf_one _ _) w2.heap.size _ (Below.refl _ _) (Nat.le_refl _) ?_; intro w4 hg4 hb4; rw [splice_pad xs] at hg4; have r4 : Hid (Row w4 w2.heap.size 62 (bcells (padS xs))) := hg4; clear hg4; rw [show goInt ((cellsOf .u8 xs).length : Nat) = .int .i64 (m : Int) by rw [cellsOf_length, ← Hm.out]; rfl]))
    go_frame
    have hb24 : Below w2.heap.size w2 w4 := hb3.trans hb4
    have h4 : Hid (Disk w4 base p B M n c k ls D f (spentL f l)) := Lib.hid (h2.keep hb24)
    have ot4 : Oth p B M w1 w4 := ot2.trans (.below hb24)
    have hb14 : Below base w1 w4 := hb2.trans (hb24.mono (Nat.le_of_lt (Nat.lt_of_le_of_lt h2.basep h2.obj.lt)))
    have HO4 := Lib.hid ot4
    clear hb2 hb3 hb4 hb24 r3 hz3 ot2 ot4
    generalize w2.heap.size = g at *
    have d1 : ∀ g' : Above w4.drew, g'.1.cell? ⟨p, 1, none⟩ = some (.map (some M)) := fun g' => (g'.2.cell (p := ⟨p, 1, none⟩) h4.out.obj.lt).trans h4.out.c1
    clear h2
    refine wp_region_segsT 6 [([0, 4, 5], 1)] [2, 3] (by kernel_rfl) (by kernel_rfl) ⟨by kernel_rfl, by decide⟩ (by kernel_rfl) (by kernel_rfl) (fun _ _ d _ _ h => by cases d <;> exact h) ?_
    refine wpSegsT_next (by simp [pickOps]; rfl) ?_
    repeat (go_big_quiet_step (fail))
    refine wpQuiet_load_cells rfl 62 (.tmp 8) rfl g 0 rfl (bcells (padS xs)) _ r4.out.drew.cells r4.out.lt Tryd.underlying62 rfl (by rw [Tryd.size47, bcells_size, padS_length xs Hl.out]) ?_
    refine wpQuiet_nil ?_
    refine wpOp_alone rfl rfl (fun K hK => ?_)
    go_simp
    refine hK _ _ ⟨Below.refl _ _, ?_⟩
    clear hK K
    refine wpSegsT_last (by simp [pickOps]; rfl) ?_
    repeat (go_big_quiet_step (fail))
    refine wpQuiet_nil ?_
    refine wpOp_alone rfl rfl (fun K hK => ?_)
    refine wp_update_sec (.tmp 27) (.tmp 28) (.tmp 29) rfl M k D rfl h4.out.waits.drew (by have := Hk.out; unfold maxLen; omega) x Hw.out rfl (padS xs) (padS_length xs Hl.out) rfl ?_
    intro w5 ho5 hg5
    refine hK _ _ ?_
    clear hK K d1
    have h5 := disk_put h4.out ho5 hg5 rfl Hx.out
    have hb5 : Below base w1 w5 := hb14.trans (below_grown hg5 h4.out.baseM (Nat.le_of_lt (Nat.lt_of_le_of_lt h4.out.basep h4.out.obj.lt)))
    have HO5 := Lib.hid (HO4.out.trans ((Oth.below (Below.refl w4.heap.size w4).drew).trans (.grown hg5 (.inr (.inr rfl)))))
    clear HO4
    go_wp2_with fail
    go_ret
    exact ⟨rfl, hb5, HO5.out, h5⟩
end Go.Proofs.YtnllladoipcfkaaDoor

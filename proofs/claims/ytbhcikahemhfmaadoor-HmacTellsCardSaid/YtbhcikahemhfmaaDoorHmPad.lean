/- The closure that makes pads, and what makes it: 64 bytes of the call's own, the key's, each turned; nothing that was there is written. Conditions: the key is any bytes. -/
import Derived.Test.YtbhcikahemhfmaaDoorHmNums
import Derived.Laws.MakeOwn
import Derived.OneCell
namespace Go.Proofs.YtbhcikahemhfmaaDoor.Sha3.Hm
open Go.RowKit

theorem made_zeros (n : Nat) : madeCells (Value.cells (.int .u8 0)) n = bcells (List.replicate n 0) := by
  apply Array.ext
  · simp [size_madeCells, bcells]
  · intro i h1 h2
    have hz : ∀ k : Nat, (Value.cells (.int .u8 0))[k % (Value.cells (.int .u8 0)).size]! = .int .u8 0 := by
      intro k
      show (#[Value.int .u8 0])[k % 1]! = .int .u8 0
      rw [Nat.mod_one]
      rfl
    simp [madeCells, bcells, hz]
theorem wpList_makeP {ops : Array Oper} {rest : List Oper} {o : Oper} {a : Act} {w : World} {Q : Exit → Act → World → Prop} (hg : o.guard = none) (x y : Operand) (ho : o.op = .makeSlice 22 x y) (L : Nat) (hL : L ≤ 1000000) (hx : a.eval x = .int .i64 (L : Int)) (hy : a.eval y = .int .i64 (L : Int))
    (h : ∀ w', Row w' w.heap.size 5 (bcells (List.replicate L 0)) → Below w.heap.size w w' → wpList Tryd.prog ops Q rest (a.put o.dst (.slice (some ⟨w.heap.size, 0, none⟩) L L)) w') : wpList Tryd.prog ops Q (o :: rest) a w := by
  obtain ⟨i, hi, hz, hz1, hz2⟩ := info_parts Tryd.info5
  have hr := run_make (P := Tryd.prog) w 22 5 i _ Tryd.underlying22 hi hz .i64 .i64 (L : Int) (L : Int) (by omega) (by omega) (by rw [hz2]; omega) (by omega)
  rw [hz1, Int.toNat_natCast, Nat.mul_one, made_zeros] at hr
  refine wpList_plain hg fun K hK => ?_
  unfold Oper.wp execOp
  simp only [ho, hx, hy, Sem.run_bind, hr, Result.andThen_ok, Sem.run_pure]
  exact hK _ _ (h _ (Row.new _ _ _) ((Below.refl _ _).alloc (Nat.le_refl _) _))
theorem own_of_row {w : World} {B g : Nat} {xs : List Int} (h : Row w g 5 (bcells xs)) (hB : B ≤ g) (hl : xs.length ≤ 1000000) : Own w B (some ⟨g, 0, none⟩) xs.length xs := by
  unfold Own
  refine ⟨by rw [cellsOf_length, Nat.mul_one], .inr ⟨g, xs.length, _, rfl, hB, h, Nat.le_refl _, by unfold maxLen; omega, by rw [bcells_size, Nat.mul_one], ?_⟩⟩
  rw [Nat.mul_one, List.take_of_length_le (by rw [Array.length_toList, bcells_size]; exact Nat.le_refl _)]
  rfl
theorem zeros32 : (List.replicate 32 (0 : Int)).length = 32 := List.length_replicate
theorem wpList_alloc32 {ops : Array Oper} {rest : List Oper} {o : Oper} {a : Act} {w : World} {Q : Exit → Act → World → Prop} (hg : o.guard = none) (ho : o.op = .alloc 23)
    (h : ∀ w', Row w' w.heap.size 23 (bcells (List.replicate 32 0)) → Below w.heap.size w w' → w'.heap.size = w.heap.size + 1 → wpList Tryd.prog ops Q rest (a.put o.dst (.pointer (some ⟨w.heap.size, 0, none⟩))) w') : wpList Tryd.prog ops Q (o :: rest) a w := by
  refine wpList_plain hg fun K hK => ?_
  unfold Oper.wp
  have hr : (execOp a.eval o).run Tryd.prog w = .ok (.value (.pointer (some ⟨w.heap.size, 0, none⟩))) (w.alloc (.cells (bcells (List.replicate 32 0)) 23)) := by
    unfold execOp
    rw [ho]
    kernel_rfl
  rw [hr, Oper.upon_value]
  exact hK _ _ (h _ (Row.new _ _ _) ((Below.refl _ _).alloc (Nat.le_refl _) _) (by show (w.heap.push _).size = _; rw [Array.size_push]))
theorem wp_store32 {o : Oper} {a : Act} {w : World} {K : Act → World → Prop} {Q : Exit → Act → World → Prop} (x y : Operand) (ho : o.op = .store 23 x y) (hd : o.dst = none)
    (g : Nat) (l old : List Int) (hx : a.eval x = .pointer (some ⟨g, 0, none⟩)) (hy : a.eval y = .agg (bcells l)) (r : Row w g 23 (bcells old)) (hl : l.length = 32) (hold : old.length = 32)
    (h : ∀ w', Row w' g 23 (bcells l) → Below g w w' → w'.heap.size = w.heap.size → K a w') : o.wp Tryd.prog a w K Q := by
  refine wp_store_row 23 x y ho g (bcells l) hx hy 23 (bcells old) r (by rw [Tryd.size23, bcells_size, hl]) (by rw [bcells_size, bcells_size, hl, hold]) (bcells_one _) ?_
  rw [hd, put_none]
  exact h _ (r.setRow _) (below_setRow (Below.refl _ _) (Nat.le_refl _) _) (setRow_size ..)
theorem wpList_store32 {ops : Array Oper} {rest : List Oper} {o : Oper} {a : Act} {w : World} {Q : Exit → Act → World → Prop} (hg : o.guard = none) (x y : Operand) (ho : o.op = .store 23 x y) (hd : o.dst = none)
    (g : Nat) (l old : List Int) (hx : a.eval x = .pointer (some ⟨g, 0, none⟩)) (hy : a.eval y = .agg (bcells l)) (r : Row w g 23 (bcells old)) (hl : l.length = 32) (hold : old.length = 32)
    (h : ∀ w', Row w' g 23 (bcells l) → Below g w w' → w'.heap.size = w.heap.size → wpList Tryd.prog ops Q rest a w') : wpList Tryd.prog ops Q (o :: rest) a w :=
  wpList_plain hg fun _ hK => wp_store32 x y ho hd g l old hx hy r hl hold fun w' h1 h2 h3 => hK _ _ (h w' h1 h2 h3)
/-- At a round's head: k bytes are turned. -/
def PdAt (w : World) (t : Int) (key : List Int) (i : Value) (wr : World) : Prop :=
  ∃ k : Nat, k ≤ 64 ∧ i = .int .i64 k ∧ Row wr w.heap.size 5 (bcells (padK t key k)) ∧ Below w.heap.size w wr

set_option maxRecDepth 100000 in
set_option maxHeartbeats 1000000 in
theorem pad_any (B : Nat) (t : Int) (A : Option Addr) (n c : Nat) (key : List Int) (w : World) (hB : w.cell? ⟨B, 0, none⟩ = some (.slice A n c)) (hn : n = key.length) (hs : Src .u8 w A key) (hx : IsBytes key) (hl : n ≤ 64) :
    Calls Tryd.prog 20 #[.int .u8 t, .pointer (some ⟨B, 0, none⟩)] w fun e w' => Gives w (padW t key) e w' := by
  have Hn := Lib.hid hn
  have Hs := Lib.hid hs
  have Hx := Lib.hid hx
  have Hl := Lib.hid hl
  have hlt : B < w.heap.size := World.block_lt_of_cell? w _ hB
  have hB1 : ∀ w', Below w.heap.size w w' → w'.cell? ⟨B, 0, none⟩ = some (.slice A n c) := fun w' hb => (hb.cell (p := ⟨B, 0, none⟩) hlt).trans hB
  have HB1 := Lib.hid hB1
  clear hn hs hx hl hB hB1
  go_enter Tryd.func20, Tryd.ntmps20
  go_wp2_with (first
    | (refine wpList_makeP rfl _ _ rfl 64 (by omega) rfl rfl ?_; intro w1 r1 b1; have c1 := HB1.out w1 b1)
    | (refine wpList_copy_splice rfl (.tmp 7) (.tmp 8) 22 22 rfl 5 Tryd.underlying22 Tryd.one5 _ _ 64 64 n c rfl rfl w.heap.size 0 ((List.replicate 64 (0 : Int)).map (Value.int .u8)) 5 r1 (cellsOf .u8 key) (by rw [cellsOf_length, ← Hn.out]; exact (Nat.min_eq_left Hl.out).symm) (fun hp => ⟨rfl, src_copy (Hs.out.keep b1) hp⟩) (by rw [cellsOf_length, List.length_map, List.length_replicate]; have := Hl.out; have := Hn.out; omega) (cellsOf_one _ _) w.heap.size _ b1 (Nat.le_refl _) ?_; intro w3 hg3 hb3; rw [splice_zeros] at hg3; clear c1 r1 b1))
  have r0 : Row w3 w.heap.size 5 (bcells (padK t key 0)) := by
    rw [padK_none t key (by have := Hl.out; have := Hn.out; omega)]
    exact hg3.out
  clear hg3
  go_loopw [12] (fun i wr => PdAt w t key i wr) (fun i _ => 64 - (intOf i).toNat)
  case atStart => exact ⟨0, Nat.zero_le _, rfl, r0, hb3⟩
  case round =>
    clear r0 hb3
    obtain ⟨k, hk, rfl, r1, hb⟩ := hrel
    by_cases hlt2 : k < 64
    · have c1 := r1.cell (bcells_at _ k (by rw [padK_length]; exact hlt2))
      rw [padK_there t key k hlt2] at c1
      have f1 := r1.free k
      have HN := Lib.hid (padK_next t key k hlt2)
      have hb1 := Hx.out.at_ k
      generalize key.getD k 0 = x at *
      go_wp2_with fail
      refine ⟨⟨k + 1, by omega, by go_num, by rw [← HN.out, ← bcells_set]; exact r1.set k _, hb.setCell (p := ⟨w.heap.size, k, none⟩) (Nat.le_refl _) _⟩, ?_⟩
      simp [intOf]; omega
    · obtain rfl : k = 64 := by omega
      have ho := own_of_row r1 (Nat.le_refl _) (by rw [padK_length]; omega)
      rw [padK_length] at ho
      go_wp2_with fail
      go_ret
      exact ⟨_, rfl, _, _, _, rfl, by rw [padW_length], ho, hb⟩

/-- What makes a key's pads: the closure over a cell with the key, or its sum. -/
def PadsOf (w : World) (key : List Int) (e : Ending) (w' : World) : Prop :=
  ∃ (B : Nat) (A : Option Addr) (n c : Nat), e = .returned (.func (Fn.func 20) #[] #[.pointer (some ⟨B, 0, none⟩)]) ∧ w'.cell? ⟨B, 0, none⟩ = some (.slice A n c) ∧ n = key.length ∧ Src .u8 w' A key ∧ Below w.heap.size w w'
set_option maxRecDepth 100000 in
set_option maxHeartbeats 1000000 in
theorem padsOf_any (h0 ks : List Wd) (A : Option Addr) (n c : Nat) (key : List Int) (w : World) (hh : h0.length = 8) (ht : Tab w h0 ks) (hks : ks.length = 64) (hn : n = key.length) (hs0 : Src .u8 w A key) (hx : IsBytes key) (hnc : n ≤ c) (hc : c ≤ 9223372036854775807) :
    Calls Tryd.prog 13 #[.slice A n c] w fun e w' => PadsOf w (keyW ks h0 key) e w' := by
  unfold keyW
  have hb0 : Below w.heap.size w (w.alloc (.cells #[.slice A n c] 22)) := (Below.refl _ _).alloc (Nat.le_refl _) _
  have r0 := Row.new w 22 #[.slice A n c]
  have c0 := r0.cell (j := 0) (v := .slice A n c) rfl
  by_cases hlt : 64 < key.length
  · rw [if_pos hlt]
    have hd : decide ((64 : Int) < (n : Int)) = true := by simp; omega
    have HC := Lib.hid (sum_any h0 ks A n c key (w.alloc (.cells #[.slice A n c] 22)) hh (ht.keep hb0) hks hn (hs0.keep hb0) hx hnc hc)
    have HL := Lib.hid (sumW_length ks h0 key)
    have HB := Lib.hid (bytes_sum ks h0 key)
    clear hh ht hks hn hs0 hx hnc hc hlt
    go_enter Tryd.func13, Tryd.ntmps13
    go_wp2_with fail
    refine HC.out.mono ?_
    rintro e w1 ⟨rfl, hb1⟩
    have r1 := r0.keep hb1
    have b1 := hb0.trans (hb1.mono hb0.size)
    have hlt1 := r1.lt
    clear r0 c0 hb0 hb1 HC
    generalize eO : sumW ks h0 key = l at *
    have EO := Lib.hid eO
    clear eO
    go_wp2_with (first
      | (refine wpList_alloc32 rfl rfl ?_; intro w2 q2 c2 z2; have q1 := r1.keep c2; have qb := b1.trans (c2.mono b1.size); clear r1 b1 c2)
      | (refine wpList_store32 rfl (.tmp 3) (.tmp 8) rfl rfl w1.heap.size l (List.replicate 32 0) rfl rfl q2 HL.out zeros32 ?_; intro w3 p2 c3 z3; have p1 := q1.keepB c3 hlt1; have pb := qb.trans (c3.mono (Nat.le_of_lt hlt1)); have d1 := p1.cell (j := 0) (v := .slice A n c) rfl; have f1 := p1.free 0; clear q1 q2 qb c3))
    go_ret
    rw [EO.out]
    exact ⟨w.heap.size, some ⟨w1.heap.size, 0, none⟩, 32, 32, rfl, (p1.set 0 (.slice (some ⟨w1.heap.size, 0, none⟩) 32 32)).cell (j := 0) rfl, HL.out.symm, sum_row (p2.other (Nat.ne_of_gt hlt1) 0 _), pb.setCell (p := ⟨w.heap.size, 0, none⟩) (Nat.le_refl _) _⟩
  · rw [if_neg hlt]
    have hd : decide ((64 : Int) < (n : Int)) = false := by simp; omega
    have Hn := Lib.hid hn
    have Hs := Lib.hid (hs0.keep hb0)
    clear hh ht hks hn hs0 hx hnc hc hlt
    go_enter Tryd.func13, Tryd.ntmps13
    go_wp2_with fail
    go_ret
    exact ⟨w.heap.size, A, n, c, rfl, c0, Hn.out, Hs.out, hb0⟩
end Go.Proofs.YtbhcikahemhfmaaDoor.Sha3.Hm

/- slices.Grow of the nil slice of spans, and slices.Concat of rows of spans: a row of the call's own that holds them one behind the other (together at most 1000000 spans). -/
import Derived.Test.YtnlkljmboifnkaaSpAsks
import Derived.Lib.AppendZerosOnto
namespace Go.Proofs.Ytnlkljmboifnkaa
open Go.RowKit

theorem sp_zero_cells (k : Nat) : (Builtin.zeroCells (Value.cells (.agg #[.int .i64 0, .int .i64 0])) k).size = k * 2 := by simp [Builtin.zeroCells, Value.cells]
set_option maxHeartbeats 1000000 in
theorem sp_grow_nil (k : Nat) (hk : k ≤ 1000000) (w : World) :
    Calls Try.prog 39 #[.slice none 0 0, .int .i64 (k : Int)] w fun e w' => ∃ A c, e = .returned (.slice A 0 c) ∧ SpOwn w' w.heap.size 23 A c [] ∧ Below w.heap.size w w' := by
  rcases Nat.eq_zero_or_pos k with rfl | hpos
  · rw [show ((0 : Nat) : Int) = 0 from rfl]
    go_enter Try.func39, Try.ntmps39
    go_wp2_with fail
    go_ret
    exact ⟨none, 0, rfl, spown_nil _ _ _, Below.refl _ _⟩
  · obtain ⟨i0, hi, hz, hz1, hz2⟩ := info_parts Try.spans.info
    have hold : (Builtin.firstCells i0.size 0 (.slice none 0 0)).run Try.prog w.drew = .ok ([] : List Value).toArray w.drew := by simp [Builtin.firstCells]
    have hfit : Builtin.nextslicecap (0 + k) 0 * i0.bytes ≤ 281474976710656 := growslice_fits (by omega) (by rw [hz2]; omega)
    have hrun := Lib.run_append_grow_zeros w 25 3 25 23 i0 (.agg #[.int .i64 0, .int .i64 0]) .i64 .i64 Try.underlying25 Try.underlying3 hi hz none 0 0 [] hold k hpos (by rw [hz1]; decide) (by omega) (by omega) (by rw [hz2]; omega) hfit
    have hG1 := grownCap_ge w (0 + k) 0 23
    have hG2 := grownCap_le_maxLen w (0 + k) 0 23 (by unfold maxLen; omega)
    generalize grownCap w (0 + k) 0 23 = G at *
    obtain ⟨cs, hcs⟩ : ∃ cs, (([] : List Value).toArray ++ Builtin.zeroCells (Value.cells (.agg #[.int .i64 0, .int .i64 0])) k ++ Builtin.zeroCells (Value.cells (.agg #[.int .i64 0, .int .i64 0])) (G - (0 + k))) = cs := ⟨_, rfl⟩
    have hsz : cs.size = G * 2 := by
      rw [← hcs, Array.size_append, Array.size_append, sp_zero_cells, sp_zero_cells]
      show 0 * 2 + k * 2 + (G - (0 + k)) * 2 = G * 2
      omega
    rw [hcs, Nat.zero_add] at hrun
    rw [Nat.zero_add] at hG1
    unfold maxLen at hG2
    have ho : SpOwn (w.drew.alloc (.cells cs 23)) w.heap.size 23 (some ⟨w.heap.size, 0, none⟩) G [] := by
      refine ⟨rfl, .inr ⟨w.heap.size, G, cs, rfl, Nat.le_refl _, heap_alloc_new w.drew _, Nat.zero_le _, by unfold maxLen; omega, by omega, rfl⟩⟩
    have hb : Below w.heap.size w (w.drew.alloc (.cells cs 23)) := ((Below.refl _ _).drew).alloc (Nat.le_refl _) _
    have HR := Lib.hid hrun
    have k1 : (0 : Int) < (k : Int) := by omega
    have hG3 : (k : Int) ≤ (G : Int) := by omega
    clear hcs hsz hold hfit hrun hi hz hz1 hz2
    generalize w.drew.alloc (.cells cs 23) = w1 at *
    go_enter Try.func39, Try.ntmps39
    go_wp2_with (at_builtin; refine Lib.wpList_append_run _ rfl _ _ _ _ rfl _ _ rfl rfl _ _ HR.out ?_)
    go_ret
    exact ⟨_, _, rfl, ho, hb⟩

/-- A row of bytes that is to be spJoined. -/
structure SpPart where
  A : Option Addr
  n : Nat
  c : Nat
  xs : List Sp
def SpPart.v (q : SpPart) : Value := .slice q.A q.n q.c
def SpPart.Ok (w : World) (q : SpPart) : Prop := q.n = q.xs.length ∧ SpSrc w q.A q.xs
def SpPart.none : SpPart := ⟨.none, 0, 0, []⟩
/-- One behind the other. -/
def spJoined (ps : List SpPart) : List Sp := ps.flatMap SpPart.xs
theorem spJoined_take_le (ps : List SpPart) (j : Nat) : (spJoined (ps.take j)).length ≤ (spJoined ps).length := by
  have h : spJoined ps = spJoined (ps.take j) ++ spJoined (ps.drop j) := by unfold spJoined; rw [← List.flatMap_append, List.take_append_drop]
  rw [h, List.length_append]
  omega
theorem spJoined_next (ps : List SpPart) (j : Nat) (h : j < ps.length) : spJoined (ps.take (j + 1)) = spJoined (ps.take j) ++ (ps.getD j SpPart.none).xs := by
  unfold spJoined
  rw [List.take_succ_eq_append_getElem h, List.flatMap_append, List.getD_eq_getElem?_getD, List.getElem?_eq_getElem h]
  simp
/-- The rows that are to be spJoined lie in block G. -/
def SpParts (w : World) (G : Nat) (ps : List SpPart) : Prop := G < w.heap.size ∧ (∀ i, i < ps.length → w.cell? ⟨G, i, none⟩ = some (ps.getD i SpPart.none).v) ∧ ∀ q ∈ ps, q.Ok w
theorem SpParts.keepB {w w' : World} {G : Nat} {ps : List SpPart} (h : SpParts w G ps) (hb : Below w.heap.size w w') : SpParts w' G ps :=
  ⟨by have := hb.size; have := h.1; omega, fun i hi => (hb.cell (p := ⟨G, i, none⟩) h.1).trans (h.2.1 i hi), fun q hq => ⟨(h.2.2 q hq).1, (h.2.2 q hq).2.keep hb⟩⟩
theorem SpParts.at_ {w : World} {G : Nat} {ps : List SpPart} (h : SpParts w G ps) {i : Nat} (hi : i < ps.length) : (ps.getD i SpPart.none).Ok w := by
  rw [List.getD_eq_getElem?_getD, List.getElem?_eq_getElem hi]
  exact h.2.2 _ (List.getElem_mem hi)

def SpSumAt (ps : List SpPart) (size i : Value) : Prop := ∃ j : Nat, j ≤ ps.length ∧ i = .int .i64 (j : Int) ∧ size = .int .i64 (((spJoined (ps.take j)).length : Nat) : Int)
def SpJoinAt (w : World) (ps : List SpPart) (v i : Value) (wr : World) : Prop :=
  ∃ (j : Nat) (A : Option Addr) (n c : Nat), j ≤ ps.length ∧ i = .int .i64 (j : Int) ∧ v = .slice A n c ∧ n = (spJoined (ps.take j)).length ∧ SpOwn wr w.heap.size 23 A c (spJoined (ps.take j)) ∧ Below w.heap.size w wr

set_option maxHeartbeats 2000000 in
theorem sp_concat_any (G m d : Nat) (ps : List SpPart) (w : World) (hm : m = ps.length) (hml : m ≤ 1000) (hp : SpParts w G ps) (hl : (spJoined ps).length ≤ 1000000) :
    Calls Try.prog 31 #[.slice (some ⟨G, 0, none⟩) m d] w (GivesS w 23 (spJoined ps)) := by
  have Hm := Lib.hid hm
  have Hp := Lib.hid hp
  have Hl := Lib.hid hl
  clear hm hp hl
  go_enter Try.func31, Try.ntmps31
  go_wp2_with fail
  go_loop [3, 11] (fun size i => SpSumAt ps size i) (fun _ i => m - (intOf i).toNat)
  case atStart => exact ⟨0, Nat.zero_le _, rfl, rfl⟩
  case round =>
    obtain ⟨j, hj, rfl, rfl⟩ := hrel
    have Hj := Lib.hid hj
    by_cases hlt : j < m
    · have hjp : j < ps.length := by have := Hm.out; omega
      have hq := (Hp.out.at_ hjp).1
      have hcell := Hp.out.2.1 j hjp
      have hn := spJoined_next ps j hjp
      have hle := spJoined_take_le ps (j + 1)
      rw [hn, List.length_append, ← hq] at hle
      have HN := Lib.hid (show (spJoined (ps.take (j + 1))).length = (spJoined (ps.take j)).length + (ps.getD j SpPart.none).n by rw [hn, List.length_append, ← hq])
      unfold SpPart.v at hcell
      have h6 := Hl.out
      generalize (spJoined (ps.take j)).length = a at *
      generalize (ps.getD j SpPart.none).n = b at *
      generalize (ps.getD j SpPart.none).A = A at *
      generalize (ps.getD j SpPart.none).c = c at *
      have ha : a + b ≤ 1000000 := by omega
      clear hq hn hle h6 hj
      go_wp2_with fail
      go_round
      case rel => exact ⟨j + 1, by omega, by go_num, by rw [HN.out]; go_num⟩
      case measure => simp [intOf]; omega
    · obtain rfl : j = m := by have := Hm.out; omega
      have HT := Lib.hid (show ps.take j = ps from List.take_of_length_le (by rw [← Hm.out]; exact Nat.le_refl _))
      rw [HT.out]
      have h6 := Hl.out
      generalize hkk : (spJoined ps).length = k at *
      have HK := Lib.hid hkk
      clear hkk hj
      go_wp2_with fail
      refine (sp_grow_nil k h6 _).mono ?_
      rintro e w1 ⟨A1, c1, rfl, ho1, hb1⟩
      go_wp2_with fail
      go_loopw [6, 27] (fun v i wr => SpJoinAt w ps v i wr) (fun _ i _ => j - (intOf i).toNat)
      case atStart => exact ⟨0, A1, 0, c1, Nat.zero_le _, rfl, rfl, rfl, ho1, hb1⟩
      case round =>
        obtain ⟨i, A2, n2, c2, hi, rfl, rfl, hn2, ho2, hb2⟩ := hrel
        have HN2 := Lib.hid hn2
        by_cases hlt2 : i < j
        · have hip : i < ps.length := by have := Hm.out; omega
          have Hq := Lib.hid ((Hp.out.keepB hb2).at_ hip)
          have hcell := (Hp.out.keepB hb2).2.1 i hip
          have hn := spJoined_next ps i hip
          have HL2 : Hid (n2 + (ps.getD i SpPart.none).n ≤ 1000000) := Lib.hid (by
            have := spJoined_take_le ps (i + 1)
            rw [hn, List.length_append, ← Hq.out.1, ← HN2.out] at this
            have := HK.out
            omega)
          have HJ := Lib.hid hn
          unfold SpPart.v at hcell
          have hsz := hb2.size
          have HO2 := Lib.hid ho2
          clear hn hn2 hi ho2
          generalize ps.getD i SpPart.none = q at *
          go_wp2_with (at_builtin; refine wpList_append_sp Try.spans rfl _ _ rfl w.heap.size A2 n2 c2 (spJoined (ps.take i)) rfl HN2.out HO2.out q.A q.n q.c q.xs rfl Hq.out.1 Hq.out.2 HL2.out hsz ?_; rintro v w4 ⟨A4, n4, c4, rfl, hn4, ho4, hb4⟩; have HN4 := Lib.hid hn4; clear hn4)
          go_roundw
          case rel => exact ⟨i + 1, A4, n4, c4, by omega, by go_num, rfl, by rw [HJ.out]; exact HN4.out, by rw [HJ.out]; exact ho4, hb2.trans hb4⟩
          case measure => simp [intOf]; omega
        · obtain rfl : i = j := by have := Hm.out; omega
          have HO2 := Lib.hid ho2
          clear hn2 hi ho2
          go_wp2_with fail
          go_ret
          refine ⟨_, rfl, A2, n2, c2, rfl, ?_, ?_, hb2⟩
          · rw [← HT.out]; exact HN2.out
          · rw [← HT.out]; exact HO2.out
end Go.Proofs.Ytnlkljmboifnkaa

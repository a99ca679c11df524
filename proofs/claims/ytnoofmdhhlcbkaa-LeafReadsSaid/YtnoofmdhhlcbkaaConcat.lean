/- slices.Grow of the nil slice of bytes, and slices.Concat of rows of bytes: a row of the call's own that holds them one behind the other (together at most 1000000 bytes). -/
import Derived.Test.YtnoofmdhhlcbkaaCells
import Derived.Lib.AppendZerosOnto
namespace Go.Proofs.Ytnoofmdhhlcbkaa
open Go.RowKit

theorem zero_cells8 (k : Nat) : (Builtin.zeroCells (Value.cells (.int .u8 0)) k).size = k := by simp [Builtin.zeroCells, Value.cells]
set_option maxHeartbeats 1000000 in
set_option maxRecDepth 100000 in
theorem grow_nil (k : Nat) (hk : k ≤ 1000000) (w : World) :
    Calls Try.prog 65 #[.slice none 0 0, .int .i64 (k : Int)] w fun e w' => ∃ A c, e = .returned (.slice A 0 c) ∧ Own w' w.heap.size A c [] ∧ Below w.heap.size w w' := by
  rcases Nat.eq_zero_or_pos k with rfl | hpos
  · rw [show ((0 : Nat) : Int) = 0 from rfl]
    go_enter Try.func65, Try.ntmps65
    go_wp2_with fail
    go_ret
    exact ⟨none, 0, rfl, own_nil _ _, Below.refl _ _⟩
  · obtain ⟨i0, hi, hz, hz1, hz2⟩ := info_parts Try.info5
    have hold : (Builtin.firstCells i0.size 0 (.slice none 0 0)).run Try.prog w.drew = .ok ([] : List Value).toArray w.drew := by simp [Builtin.firstCells]
    have hfit : Builtin.nextslicecap (0 + k) 0 * i0.bytes ≤ 281474976710656 := growslice_fits (by omega) (by rw [hz2]; omega)
    have hrun := Lib.run_append_grow_zeros w 22 3 22 5 i0 (.int .u8 0) .i64 .i64 Try.underlying22 Try.underlying3 hi hz none 0 0 [] hold k hpos (by rw [hz1]; decide) (by omega) (by omega) (by rw [hz2]; omega) hfit
    have hG1 := grownCap_ge w (0 + k) 0 5
    have hG2 := grownCap_le_maxLen w (0 + k) 0 5 (by unfold maxLen; omega)
    generalize grownCap w (0 + k) 0 5 = G at *
    obtain ⟨cs, hcs⟩ : ∃ cs, (([] : List Value).toArray ++ Builtin.zeroCells (Value.cells (.int .u8 0)) k ++ Builtin.zeroCells (Value.cells (.int .u8 0)) (G - (0 + k))) = cs := ⟨_, rfl⟩
    have hsz : cs.size = G := by
      rw [← hcs, Array.size_append, Array.size_append, zero_cells8, zero_cells8]
      show 0 + k + (G - (0 + k)) = G
      omega
    rw [hcs, Nat.zero_add] at hrun
    rw [Nat.zero_add] at hG1
    unfold maxLen at hG2
    have ho : Own (w.drew.alloc (.cells cs 5)) w.heap.size (some ⟨w.heap.size, 0, none⟩) G [] := by
      refine ⟨rfl, .inr ⟨w.heap.size, G, cs, rfl, Nat.le_refl _, heap_alloc_new w.drew _, Nat.zero_le _, by unfold maxLen; omega, by omega, rfl⟩⟩
    have hb : Below w.heap.size w (w.drew.alloc (.cells cs 5)) := ((Below.refl _ _).drew).alloc (Nat.le_refl _) _
    have HR := Lib.hid hrun
    have k1 : (0 : Int) < (k : Int) := by omega
    have hG3 : (k : Int) ≤ (G : Int) := by omega
    clear hcs hsz hold hfit hrun hi hz hz1 hz2
    generalize w.drew.alloc (.cells cs 5) = w1 at *
    go_enter Try.func65, Try.ntmps65
    go_wp2_with (at_builtin; refine Lib.wpList_append_run _ rfl _ _ _ _ rfl _ _ rfl rfl _ _ HR.out ?_)
    go_ret
    exact ⟨_, _, rfl, ho, hb⟩

/-- A row of bytes that is to be joined. -/
structure Part where
  A : Option Addr
  n : Nat
  c : Nat
  xs : List Int
def Part.v (q : Part) : Value := .slice q.A q.n q.c
def Part.Ok (w : World) (q : Part) : Prop := q.n = q.xs.length ∧ Src .u8 w q.A q.xs
def Part.none : Part := ⟨.none, 0, 0, []⟩
/-- One behind the other. -/
def joined (ps : List Part) : List Int := ps.flatMap Part.xs
theorem joined_take_le (ps : List Part) (j : Nat) : (joined (ps.take j)).length ≤ (joined ps).length := by
  have h : joined ps = joined (ps.take j) ++ joined (ps.drop j) := by unfold joined; rw [← List.flatMap_append, List.take_append_drop]
  rw [h, List.length_append]
  omega
theorem joined_next (ps : List Part) (j : Nat) (h : j < ps.length) : joined (ps.take (j + 1)) = joined (ps.take j) ++ (ps.getD j Part.none).xs := by
  unfold joined
  rw [List.take_succ_eq_append_getElem h, List.flatMap_append, List.getD_eq_getElem?_getD, List.getElem?_eq_getElem h]
  simp
/-- The rows that are to be joined lie in block G. -/
def Parts (w : World) (G : Nat) (ps : List Part) : Prop := G < w.heap.size ∧ (∀ i, i < ps.length → w.cell? ⟨G, i, none⟩ = some (ps.getD i Part.none).v) ∧ ∀ q ∈ ps, q.Ok w
theorem Parts.keepB {w w' : World} {G : Nat} {ps : List Part} (h : Parts w G ps) (hb : Below w.heap.size w w') : Parts w' G ps :=
  ⟨by have := hb.size; have := h.1; omega, fun i hi => (hb.cell (p := ⟨G, i, none⟩) h.1).trans (h.2.1 i hi), fun q hq => ⟨(h.2.2 q hq).1, (h.2.2 q hq).2.keep hb⟩⟩
theorem Parts.at_ {w : World} {G : Nat} {ps : List Part} (h : Parts w G ps) {i : Nat} (hi : i < ps.length) : (ps.getD i Part.none).Ok w := by
  rw [List.getD_eq_getElem?_getD, List.getElem?_eq_getElem hi]
  exact h.2.2 _ (List.getElem_mem hi)

def SumAt (ps : List Part) (size i : Value) : Prop := ∃ j : Nat, j ≤ ps.length ∧ i = .int .i64 (j : Int) ∧ size = .int .i64 (((joined (ps.take j)).length : Nat) : Int)
def JoinAt (w : World) (ps : List Part) (v i : Value) (wr : World) : Prop :=
  ∃ (j : Nat) (A : Option Addr) (n c : Nat), j ≤ ps.length ∧ i = .int .i64 (j : Int) ∧ v = .slice A n c ∧ n = (joined (ps.take j)).length ∧ Own wr w.heap.size A c (joined (ps.take j)) ∧ Below w.heap.size w wr

set_option maxHeartbeats 2000000 in
theorem concat_any (G m d : Nat) (ps : List Part) (w : World) (hm : m = ps.length) (hml : m ≤ 1000) (hp : Parts w G ps) (hl : (joined ps).length ≤ 1000000) :
    Calls Try.prog 54 #[.slice (some ⟨G, 0, none⟩) m d] w (Gives w (joined ps)) := by
  have Hm := Lib.hid hm
  have Hp := Lib.hid hp
  have Hl := Lib.hid hl
  clear hm hp hl
  go_enter Try.func54, Try.ntmps54
  go_wp2_with fail
  go_loop [3, 11] (fun size i => SumAt ps size i) (fun _ i => m - (intOf i).toNat)
  case atStart => exact ⟨0, Nat.zero_le _, rfl, rfl⟩
  case round =>
    obtain ⟨j, hj, rfl, rfl⟩ := hrel
    have Hj := Lib.hid hj
    by_cases hlt : j < m
    · have hjp : j < ps.length := by have := Hm.out; omega
      have hq := (Hp.out.at_ hjp).1
      have hcell := Hp.out.2.1 j hjp
      have hn := joined_next ps j hjp
      have hle := joined_take_le ps (j + 1)
      rw [hn, List.length_append, ← hq] at hle
      have HN := Lib.hid (show (joined (ps.take (j + 1))).length = (joined (ps.take j)).length + (ps.getD j Part.none).n by rw [hn, List.length_append, ← hq])
      unfold Part.v at hcell
      have h6 := Hl.out
      generalize (joined (ps.take j)).length = a at *
      generalize (ps.getD j Part.none).n = b at *
      generalize (ps.getD j Part.none).A = A at *
      generalize (ps.getD j Part.none).c = c at *
      have ha : a + b ≤ 1000000 := by omega
      clear hq hn hle h6 hj
      go_wp2_with fail
      go_round
      case rel => exact ⟨j + 1, by omega, by go_num, by rw [HN.out]; go_num⟩
      case measure => simp [intOf]; omega
    · obtain rfl : j = m := by have := Hm.out; omega
      have HT := Lib.hid (show ps.take j = ps from List.take_of_length_le (by rw [← Hm.out]; exact Nat.le_refl _))
      rw [HT.out]
      have h6 := Hl.out
      generalize hkk : (joined ps).length = k at *
      have HK := Lib.hid hkk
      clear hkk hj
      go_wp2_with fail
      refine (grow_nil k h6 _).mono ?_
      rintro e w1 ⟨A1, c1, rfl, ho1, hb1⟩
      go_wp2_with fail
      go_loopw [6, 27] (fun v i wr => JoinAt w ps v i wr) (fun _ i _ => j - (intOf i).toNat)
      case atStart => exact ⟨0, A1, 0, c1, Nat.zero_le _, rfl, rfl, rfl, ho1, hb1⟩
      case round =>
        obtain ⟨i, A2, n2, c2, hi, rfl, rfl, hn2, ho2, hb2⟩ := hrel
        have HN2 := Lib.hid hn2
        by_cases hlt2 : i < j
        · have hip : i < ps.length := by have := Hm.out; omega
          have Hq := Lib.hid ((Hp.out.keepB hb2).at_ hip)
          have hcell := (Hp.out.keepB hb2).2.1 i hip
          have hn := joined_next ps i hip
          have HL2 : Hid (n2 + (ps.getD i Part.none).n ≤ 1000000) := Lib.hid (by
            have := joined_take_le ps (i + 1)
            rw [hn, List.length_append, ← Hq.out.1, ← HN2.out] at this
            have := HK.out
            omega)
          have HJ := Lib.hid hn
          unfold Part.v at hcell
          have hsz := hb2.size
          have HO2 := Lib.hid ho2
          clear hn hn2 hi ho2
          generalize ps.getD i Part.none = q at *
          go_wp2_with (at_builtin; refine wpList_append_src rfl _ _ rfl w.heap.size A2 n2 c2 (joined (ps.take i)) rfl HN2.out HO2.out q.A q.n q.c q.xs rfl Hq.out.1 Hq.out.2 HL2.out hsz ?_; rintro v w4 ⟨A4, n4, c4, rfl, hn4, ho4, hb4⟩; have HN4 := Lib.hid hn4; clear hn4)
          go_roundw
          case rel => exact ⟨i + 1, A4, n4, c4, by omega, by go_num, rfl, by rw [HJ.out]; exact HN4.out, by rw [HJ.out]; exact ho4, hb2.trans hb4⟩
          case measure => simp [intOf]; omega
        · obtain rfl : i = j := by have := Hm.out; omega
          have HO2 := Lib.hid ho2
          clear hn2 hi ho2
          go_wp2_with fail
          go_ret
          refine ⟨_, rfl, A2, n2, c2, rfl, ?_, ?_, hb2⟩
          · rw [← HT.out]; exact HN2.out
          · rw [← HT.out]; exact HO2.out
end Go.Proofs.Ytnoofmdhhlcbkaa

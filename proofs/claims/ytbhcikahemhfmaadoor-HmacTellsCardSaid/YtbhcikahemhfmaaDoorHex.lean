/- Hex, for any bytes (at most 400000): two digits each; nothing that was there is written. -/
import Derived.Test.YtbhcikahemhfmaaDoorHexNums
import Derived.OneCell
import Derived.RegionTactic
import Derived.Test.YtbhcikahemhfmaaDoorDrawTail
import Derived.LoopTactic
import Derived.BigQuiet
import Derived.Deep.QuietTactic
import Derived.Laws.MakeOwn
namespace Go.Proofs.YtbhcikahemhfmaaDoor
open Go.RowKit

theorem make_bytes (n : Nat) (h : n ≤ 1000000) : ∃ cur : Array Value, cur.size = n ∧ ∀ w : World, (Instr.makeSlice 22 (.int .i64 0) (.int .i64 (n : Int))).run Tryd.prog w = .ok (.slice (some ⟨w.heap.size, 0, none⟩) 0 n) (w.alloc (.cells cur 5)) := by
  obtain ⟨i, hi, hz, hz1, hz2⟩ := info_parts Tryd.info5
  refine ⟨madeCells (Value.cells (.int .u8 0)) (n * i.size), by rw [size_madeCells, hz1, Nat.mul_one], fun w => ?_⟩
  have := run_make (P := Tryd.prog) w 22 5 i _ Tryd.underlying22 hi hz .i64 .i64 0 (n : Int) (by omega) (by omega) (by rw [hz2]; omega) (by omega)
  simpa using this
theorem wp_append_src {w : World} {o : Oper} {a : Act} {Q : Exit → Act → World → Prop} {K : Act → World → Prop} (s x : Operand)
    (ho : o.op = .call { callee := .builtin .append, args := #[s, x], argTypes := #[22, 22] })
    (B : Nat) (A : Option Addr) (n c : Nat) (xs : List Int) (ea : a.eval s = .slice A n c) (hn : n = xs.length) (hown : Own w B A c xs)
    (S : Option Addr) (m d : Nat) (ys : List Int) (ex : a.eval x = .slice S m d) (hm : m = ys.length) (hs : Src .u8 w S ys) (hlen : n + m ≤ 1000000) (hB : B ≤ w.heap.size)
    (h : ∀ v' w', Grew w B (xs ++ ys) v' w' → K (a.put o.dst v') w') : o.wp Tryd.prog a w K Q := by
  subst hn; subst hm
  obtain ⟨v', w', hr, hg⟩ := run_append_src w o.type B A c xs hown S d ys hs hlen hB
  unfold Oper.wp execOp
  simp only [ho, resolve, invoke, builtin, Sem.run_bind, Sem.run_pure, Result.andThen_ok, List.map_toArray, List.map_cons, List.map_nil, ea, ex, hr]
  exact h v' w' hg
theorem src_two (w : World) (x y : Int) : Src .u8 (w.alloc (.cells #[.int .u8 x, .int .u8 y] 5)) (some ⟨w.heap.size, 0, none⟩) [x, y] := fun _ => by
  refine ⟨w.heap.size, 0, rfl, by simp, fun i hi => ?_⟩
  have hg : (w.alloc (.cells #[.int .u8 x, .int .u8 y] 5)).heap[w.heap.size]? = some (.cells #[.int .u8 x, .int .u8 y] 5 (0, 0)) := heap_alloc_new w _
  rw [cell_of_row _ _ _ _ _ _ hg]
  rcases (show i = 0 ∨ i = 1 by simp at hi; omega) with rfl | rfl <;> rfl

/-- At a round's head: the digits of k bytes. -/
def HexAt (w : World) (xs : List Int) (v i : Value) (wr : World) : Prop :=
  ∃ k : Nat, k ≤ xs.length ∧ i = .int .i64 k ∧ ∃ A m c, v = .slice A m c ∧ m = (hexW (xs.take k)).length ∧ Own wr w.heap.size A c (hexW (xs.take k)) ∧ Below w.heap.size w wr

set_option maxRecDepth 100000 in
set_option maxHeartbeats 1000000 in
theorem hex_any (A : Option Addr) (n c : Nat) (xs : List Int) (w : World) (hn : n = xs.length) (hs : Src .u8 w A xs) (hx : IsBytes xs) (hl : n ≤ 400000) :
    Calls Tryd.prog 17 #[.slice A n c] w fun e w' => e = .returned (.string (strOfNums (hexW xs))) ∧ Below w.heap.size w w' := by
  have Hn := Lib.hid hn
  have Hs := Lib.hid hs
  have Hx := Lib.hid hx
  obtain ⟨cur, hc0, hm⟩ := make_bytes (2 * n) (by omega)
  rw [show ((2 * n : Nat) : Int) = 2 * (n : Int) by omega] at hm
  have Hc0 := Lib.hid hc0
  clear hn hs hx hc0
  go_enter Tryd.func17, Tryd.ntmps17
  go_wp2_with fail
  have o0 : Own (w.alloc (.cells cur 5)) w.heap.size (some ⟨w.heap.size, 0, none⟩) (2 * n) [] := World.ownsRow_made w cur (2 * n) (Nat.le_refl _) (by unfold maxLen; omega) (by rw [Hc0.out, Nat.mul_one])
  have b0 : Below w.heap.size w (w.alloc (.cells cur 5)) := (Below.refl _ _).alloc (Nat.le_refl _) _
  clear hm
  go_loopw [3, 12] (fun v i wr => HexAt w xs v i wr) (fun _ i _ => n - (intOf i).toNat)
  case atStart => exact ⟨0, Nat.zero_le _, rfl, _, _, _, rfl, rfl, o0, b0⟩
  case round =>
    clear o0 b0
    obtain ⟨k, hk, rfl, A1, m, c1, rfl, hm, ho, hb⟩ := hrel
    by_cases hlt : k < n
    · have Hm := Lib.hid hm
      have Ho := Lib.hid ho
      have Hl := Lib.hid (hexW_length (xs.take k))
      have Ht := Lib.hid (hexW_next xs k (by rw [← Hn.out]; exact hlt))
      have Hk : (xs.take k).length = k := by rw [List.length_take]; omega
      have hmk : m = 2 * k := by rw [Hm.out, Hl.out, Hk]
      obtain ⟨b, o, rfl, hbl, hcell⟩ := Hs.out (by rw [← Hn.out]; omega)
      have hc1 := (hb.cell (p := ⟨b, o + k, none⟩) hbl).trans (hcell k (by rw [← Hn.out]; exact hlt))
      have hb1 := Hx.out.at_ k
      generalize xs.getD k 0 = x at *
      have hx16 : bits .and .u8 x 15 = x % 16 := and15 x hb1
      have d1 := fun w' => run_index_digit (P := Tryd.prog) w' 9 (x / 16) Tryd.underlying9 (by omega) (by omega)
      have d2 := fun w' => run_index_digit (P := Tryd.prog) w' 9 (x % 16) Tryd.underlying9 (by omega) (by omega)
      unfold digitsB at d1 d2
      clear hcell hm ho Hk
      go_wp2_with fail
      refine wp_region_segsU 8 [([0, 1, 2, 3, 4, 5, 6], 7)] [] [8, 9] (by kernel_rfl) (by kernel_rfl) ⟨by kernel_rfl, by decide⟩ (by kernel_rfl) (by kernel_rfl) (fun _ _ d _ _ h => by cases d <;> exact h) ?_
      refine wpSegsU_next (by simp [pickOps]; rfl) ?_
      repeat (go_big_quiet_step (fail))
      refine wpQuiet_nil ?_
      refine wpOp_alone rfl rfl (fun K hK => ?_)
      go_simp
      refine hK _ _ ⟨(Below.refl _ _).alloc (Nat.le_refl _) _, ?_⟩
      clear hK K
      refine wpSegsU_last (by simp [pickOps]; rfl) ?_
      refine wpQuiet_nil ?_
      refine wpOp_alone rfl rfl (fun K hK => ?_)
      refine wp_append_src (.tmp 16) (.tmp 23) rfl w.heap.size A1 (2 * k) c1 (hexW (xs.take k)) rfl (hmk.symm.trans Hm.out) (Ho.out.keep (((Below.refl _ _).alloc (Nat.le_refl _) _).drew)) _ 2 2 [digI (x / 16), digI (x % 16)] rfl rfl ((src_two wr _ _).keep (Below.refl _ _).drew) (by omega) (by have := hb.size; simp; omega) ?_
      rintro v w1 ⟨A2, n2, c2, rfl, hn2, ho2, hb2⟩
      refine hK _ _ ?_
      clear hK K
      have Hn2 := Lib.hid hn2
      have hb3 : Below w.heap.size w w1 := ((hb.alloc hb.size _).drew).trans hb2
      clear hn2 hb2 hb d1 d2 hx16 hc1
      refine wpOp_alone rfl rfl (fun K hK => ?_)
      go_simp
      refine hK _ _ ?_
      clear hK K
      unfold wpTail
      go_wp2_with fail
      go_roundw
      case rel => exact ⟨k + 1, by have := Hn.out; omega, by go_num, A2, n2, c2, rfl, by rw [Ht.out]; exact Hn2.out, by rw [Ht.out]; exact ho2, hb3⟩
      case measure => simp [intOf]; omega
    · have hkn : k = n := by have := Hn.out; omega
      subst hkn
      rw [show xs.take k = xs by rw [List.take_of_length_le (by rw [← Hn.out]; omega)]] at ho hm
      have ht := run_text wr A1 m c1 (hexW xs) hm ho.src
      clear hm
      go_wp2_with fail
      go_ret
      exact ⟨rfl, hb⟩
end Go.Proofs.YtbhcikahemhfmaaDoor

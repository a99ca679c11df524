/- New: a disk of zeros, none waits, no fuse. No conditions but those that stand in each lemma. -/
import Derived.Test.YtnllladoipcfkaaDoorDiskFlush
namespace Go.Proofs.YtnllladoipcfkaaDoor
open Go.RowKit Go.Maps

theorem with_any {w : World} {B n c : Nat} {ls : List (List Int)} (base : Nat) (hs : Secs w B ls) (hl : ls.length = n) (h1 : 1 ≤ n) (h2 : n ≤ 8192) (hB : base ≤ B) :
    Calls Tryd.prog 16 #[.slice (some ⟨B, 0, none⟩) n c] w fun e w' => ∃ p M, e = .returned (.pointer (some ⟨p, 0, none⟩)) ∧ w.heap.size ≤ p ∧ w.heap.size ≤ M ∧ Below w.heap.size w w' ∧ Disk w' base p B M n c 0 ls (.map []) false 0 := by
  have hmm := @run_makeMap Tryd.prog
  have hlt := hs.lt
  go_enter Tryd.func16, Tryd.ntmps16
  go_wp2_with fail
  go_ret
  have r1 := Row.new (w.alloc (.map #[] 0)) 45 (dcells (some ⟨B, 0, none⟩) n c (some w.heap.size) false 0)
  have z1 : (w.alloc (.map #[] 0)).heap.size = w.heap.size + 1 := by show (w.heap.push _).size = _; rw [Array.size_push]
  rw [z1] at r1
  have b0 : Below w.heap.size w (w.alloc (.map #[] 0)) := (Below.refl _ _).alloc (Nat.le_refl _) _
  have b1 : Below w.heap.size w ((w.alloc (.map #[] 0)).alloc (.cells (dcells (some ⟨B, 0, none⟩) n c (some w.heap.size) false 0) 45)) := b0.alloc (by omega) _
  have o1 := (World.ownsMap_made (H := Unit) w Tryd.prog 3 secR).alloc (.cells (dcells (some ⟨B, 0, none⟩) n c (some w.heap.size) false 0) 45)
  exact ⟨_, _, rfl, by omega, Nat.le_refl _, b1, r1, hs.keep b1, hl, h1, h2, o1, fun x hx => (by cases hx), by omega, hB, by omega⟩

/-- Sectors of zeros; and as a block's cells. -/
def zeroSecs (n : Nat) : List (List Int) := List.replicate n (List.replicate 512 0)
def zeroCells (n : Nat) : Array Value := (cellsOf .u8 (zeroSecs n).flatten ++ []).toArray
theorem zeros_flat (n m : Nat) : (List.replicate n (List.replicate m (0 : Int))).flatten = List.replicate (n * m) 0 := by simp [List.flatten_replicate_replicate]
theorem made_zero (m k : Nat) (hm : 0 < m) : madeCells (bcells (List.replicate m 0)) k = (List.replicate k (Value.int .u8 0)).toArray := by
  apply Array.ext'
  unfold madeCells
  rw [Array.toList_map, Array.toList_range, List.toList_toArray]
  refine List.eq_replicate_iff.2 ⟨by rw [List.length_map, List.length_range], fun b hb => ?_⟩
  obtain ⟨x, _, rfl⟩ := List.mem_map.1 hb
  rw [bcells_size, List.length_replicate, getElem!_def, bcells_at _ _ (by rw [List.length_replicate]; exact Nat.mod_lt _ hm)]
  simp [List.getD_eq_getElem?_getD, Nat.mod_lt _ hm]
theorem made_secs (n : Nat) : madeCells (bcells (List.replicate 512 0)) (n * 512) = zeroCells n := by
  rw [made_zero 512 (n * 512) (by decide)]
  unfold zeroCells zeroSecs cellsOf
  rw [zeros_flat n 512, List.append_nil, List.map_replicate]
theorem zeroSecs_length (n : Nat) : (zeroSecs n).length = n := by unfold zeroSecs; rw [List.length_replicate]
theorem zero_secs {w : World} {B n : Nat} (h : Row w B 62 (zeroCells n)) : Secs w B (zeroSecs n) :=
  ⟨fun s hs => by rw [(List.mem_replicate.1 hs).2, List.length_replicate], [], h⟩
theorem Tryd.info47 : ∃ i, Tryd.prog.info? 62 = some i ∧ i.zero = some (secV (List.replicate 512 0)) ∧ i.size = 512 ∧ i.bytes = 512 := by
  have h : (Tryd.prog.info? 62).map (fun i => (i.zero, i.size, i.bytes)) = some (some (secV (List.replicate 512 0)), 512, 512) := by kernel_rfl
  exact info_parts h
theorem make_secs (n : Nat) (h : n ≤ 8192) (w : World) : (Instr.makeSlice 42 (.int .i64 (n : Int)) (.int .i64 (n : Int))).run Tryd.prog w =
    .ok (.slice (some ⟨w.heap.size, 0, none⟩) n n) (w.alloc (.cells (zeroCells n) 62)) := by
  obtain ⟨i, hi, hz, hz1, hz2⟩ := Tryd.info47
  have := run_make (P := Tryd.prog) w 42 62 i _ Tryd.underlying42 hi hz .i64 .i64 (n : Int) (n : Int) (by omega) (by omega) (by rw [hz2]; omega) (by omega)
  rw [hz1, Int.toNat_natCast, show (secV (List.replicate 512 0)).cells = bcells (List.replicate 512 0) from rfl, made_secs n] at this
  exact this

theorem new_any (w : World) (n : Nat) (h1 : 1 ≤ n) (h2 : n ≤ 8192) :
    Calls Tryd.prog 6 #[.int .i64 n] w fun e w' => ∃ p B M, e = .returned (.tuple #[.pointer (some ⟨p, 0, none⟩), .int .i64 0]) ∧ Below w.heap.size w w' ∧
      Disk w' w.heap.size p B M n n 0 (zeroSecs n) (.map []) false 0 := by
  have g1 : ¬ (n : Int) < 1 := by omega
  have g2 : ¬ (8192 : Int) < n := by omega
  have d1 : decide ((n : Int) < 1) = false := by simp; omega
  have d2 : decide ((8192 : Int) < n) = false := by simp; omega
  have hm := make_secs n h2
  go_enter Tryd.func6, Tryd.ntmps6
  go_wp2_with fail
  have hb0 : Below w.heap.size w (w.alloc (.cells (zeroCells n) 62)) := (Below.refl _ _).alloc (Nat.le_refl _) _
  have hs0 : Secs (w.alloc (.cells (zeroCells n) 62)) w.heap.size (zeroSecs n) := zero_secs (Row.new _ _ _)
  clear hm
  refine (with_any w.heap.size hs0 (zeroSecs_length n) h1 h2 (Nat.le_refl _)).mono ?_
  rintro e w2 ⟨p, M, rfl, _, _, hb2, hd⟩
  go_wp2_with fail
  go_ret2
  exact ⟨p, _, M, rfl, hb0.trans (hb2.mono hb0.size), hd⟩
end Go.Proofs.YtnllladoipcfkaaDoor

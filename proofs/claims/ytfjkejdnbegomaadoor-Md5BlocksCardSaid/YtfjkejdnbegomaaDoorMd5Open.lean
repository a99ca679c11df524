/- Arguments by value: an array of numbers, and a state, as they came in. No conditions but those that stand in each lemma. -/
import Derived.Test.YtfjkejdnbegomaaDoorMd5Arr
import Derived.OpenShut
import Derived.ChangeSame
import Derived.ProofKit
namespace Go.Proofs.YtfjkejdnbegomaaDoor.Md5
open Go.RowKit Go.ChangeShapes Go.WideShapes

section
variable {P : Program} {w : World} {r : Reach} {base : Nat} {t : TypeId} {v : Value}
theorem okWide_array {n : Nat} {e : TypeId} (ht : P.underlying t = some (.array n e)) (h : Value.okWide P w r base t v) : ∃ cs, v = .agg cs ∧ cs.size = P.cellsOf t := by
  simp only [Value.okWide, ht] at h
  obtain ⟨cs, h1, h2, _⟩ := h
  exact ⟨cs, h1, h2⟩
variable {H : Type} {enc : TypeId × Value → H} {spare : Nat → Bool} {held : Bool}
theorem trod_ints {n : Nat} {e : TypeId} {k : IntKind} {fuel : Nat} {cs : List Value} {x : DataW H × List MemPlace} (ht : P.underlying t = some (.array n e)) (he : P.underlying e = some (.int k)) (hc : P.cellsOf e = 1) (hn : P.cellsOf t = n)
    (h : DataW.trod enc P w base spare held fuel t cs = some x) : ∃ xs : List Int, xs.length = n ∧ cs = xs.map (Value.int k) ∧ ∀ y ∈ xs, (Lit.int k y).wf = true := by
  obtain ⟨ys, m, rfl, rfl, hlen, hn2, hel⟩ := DataW.trod_array ht h
  have hi : ∀ i, i < n → ∃ y, cs[i]? = some (.int k y) ∧ (Lit.int k y).wf = true := fun i hi => by
    have h1 := hel i hi
    have hys : i < ys.length := by omega
    rw [List.getElem?_eq_getElem hys, hc, Nat.mul_one] at h1
    obtain ⟨y, e1, _, e3⟩ := DataW.trod_int he h1
    refine ⟨y, ?_, e3⟩
    have e4 := congrArg (fun l => l[0]?) e1
    simpa [List.getElem?_take] using e4
  refine ⟨cs.map intOf, by rw [List.length_map, hlen, hn], ?_, fun y hy => ?_⟩
  · apply List.ext_getElem?
    intro i
    rw [List.getElem?_map, List.getElem?_map]
    rcases Nat.lt_or_ge i n with h' | h'
    · obtain ⟨y, hy, _⟩ := hi i h'
      rw [hy]
      rfl
    · rw [List.getElem?_eq_none (by omega)]
      rfl
  · obtain ⟨z, hz, rfl⟩ := List.mem_map.1 hy
    obtain ⟨i, hi2, rfl⟩ := List.getElem_of_mem hz
    obtain ⟨y, hy2, hw⟩ := hi i (by omega)
    rw [List.getElem?_eq_getElem hi2] at hy2
    rw [Option.some.inj hy2]
    exact hw
end
theorem words_of (xs : List Int) (h : ∀ y ∈ xs, (Lit.int .u32 y).wf = true) : ∃ hs : List Wd, hs.length = xs.length ∧ (hs.map fun x => Value.int .u32 (uv x)) = xs.map (Value.int .u32) := by
  refine ⟨xs.map fun y => BitVec.ofNat 32 y.toNat, List.length_map _, ?_⟩
  rw [List.map_map]
  refine List.map_congr_left fun y hy => ?_
  have hb := bounds_u32 (h y hy)
  simp only [Function.comp, uv, BitVec.toNat_ofNat]
  rw [show ((y.toNat % 2 ^ 32 : Nat) : Int) = y by omega]
theorem Tryd.cellsM31 : Tryd.prog.cellsOf 31 = 5 := by kernel_rfl
theorem Tryd.cellsM28 : Tryd.prog.cellsOf 28 = 4 := by kernel_rfl
theorem Tryd.cellsM29 : Tryd.prog.cellsOf 29 = 1 := by kernel_rfl
theorem Tryd.cellsM27 : Tryd.prog.cellsOf 27 = 1 := by kernel_rfl
theorem Tryd.cellsM32 : Tryd.prog.cellsOf 32 = 64 := by kernel_rfl
theorem Tryd.cellsM5 : Tryd.prog.cellsOf 5 = 1 := by kernel_rfl
/-- A block of 64 bytes that came in. -/
theorem block_in {H : Type} {enc : TypeId × Value → H} {w : World} {base : Nat} {spare : Nat → Bool} {held : Bool} {d : DataW H} {p : List MemPlace} {cs : Array Value} (h : DataW.Trod enc Tryd.prog w base spare held 32 (.agg cs) d p) :
    ∃ bs : List Int, bs.length = 64 ∧ cs = bcells bs ∧ IsBytes bs := by
  obtain ⟨fuel, hf⟩ := h
  obtain ⟨xs, hl, hc, hw⟩ := trod_ints Tryd.underlying32 Tryd.underlying5 Tryd.cellsM5 Tryd.cellsM32 hf
  refine ⟨xs, hl, ?_, fun y hy => by have := bounds_u8 (hw y hy); omega⟩
  apply Array.ext'
  exact hc
/-- A state that came in. -/
theorem state_in {H : Type} {enc : TypeId × Value → H} {w : World} {base : Nat} {spare : Nat → Bool} {held : Bool} {d : DataW H} {p : List MemPlace} {cs : Array Value} (h : DataW.Trod enc Tryd.prog w base spare held 31 (.agg cs) d p) :
    ∃ (hs : List Wd) (q : Qd), hs.length = 4 ∧ cs = scells hs (uq q) := by
  obtain ⟨fuel, hf⟩ := h
  obtain ⟨y0, y1, n, _, hlen, h0, h1⟩ := trod_struct2 Tryd.underlying31 hf
  rw [Tryd.cellsM31] at hlen
  obtain ⟨xs, hl, hc, hw⟩ := trod_ints Tryd.underlying28 Tryd.underlying27 Tryd.cellsM27 Tryd.cellsM28 h0
  obtain ⟨m, e1, _, e3⟩ := DataW.trod_int Tryd.underlying29 h1
  obtain ⟨hs, hsl, hsc⟩ := words_of xs hw
  have hb := bounds_u64 e3
  refine ⟨hs, BitVec.ofNat 64 m.toNat, by omega, ?_⟩
  apply Array.ext'
  show cs.toList = hs.map (fun x => Value.int .u32 (uv x)) ++ [Value.int .u64 (uq (BitVec.ofNat 64 m.toNat))]
  have hm : uq (BitVec.ofNat 64 m.toNat) = m := by
    unfold uq
    rw [BitVec.toNat_ofNat]
    omega
  rw [hm, hsc, ← hc, ← e1]
  simp only [Tryd.cellsM28, Tryd.cellsM29, List.drop_zero] at hlen ⊢
  have hlen' : cs.toList.length = 5 := hlen
  show cs.toList = List.take 4 cs.toList ++ List.take 1 (List.drop 4 cs.toList)
  rw [List.take_of_length_le (l := List.drop 4 cs.toList) (by rw [List.length_drop]; omega), List.take_append_drop]
end Go.Proofs.YtfjkejdnbegomaaDoor.Md5

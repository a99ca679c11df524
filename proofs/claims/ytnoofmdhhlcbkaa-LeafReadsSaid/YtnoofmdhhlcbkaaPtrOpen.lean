/- A pointer as an argument by value, as it came in. No conditions but those that stand in each lemma. -/
import Derived.Test.YtnoofmdhhlcbkaaPtr
import Derived.OpenShut
import Derived.ChangeSame
import Derived.ProofKit
namespace Go.Proofs.Ytnoofmdhhlcbkaa
open Go.RowKit Go.ChangeShapes Go.WideShapes

section
variable {P : Program} {w : World} {base : Nat} {H : Type} {enc : TypeId × Value → H} {spare : Nat → Bool} {held : Bool}
theorem trod_ints {t : TypeId} {n : Nat} {e : TypeId} {k : IntKind} {fuel : Nat} {cs : List Value} {x : DataW H × List MemPlace} (ht : P.underlying t = some (.array n e)) (he : P.underlying e = some (.int k)) (hc : P.cellsOf e = 1) (hn : P.cellsOf t = n)
    (h : DataW.trod enc P w base spare held fuel t cs = some x) : ∃ xs : List Int, xs.length = n ∧ cs = xs.map (Value.int k) ∧ ∀ y ∈ xs, (Lit.int k y).wf = true := by
  obtain ⟨ys, m, rfl, rfl, hlen, hn2, hel⟩ := DataW.trod_array ht h
  have hi : ∀ i, i < n → ∃ y, cs[i]? = some (.int k y) ∧ (Lit.int k y).wf = true := fun i hi => by
    have h1 := hel i hi
    have hys : i < ys.length := by omega
    rw [List.getElem?_eq_getElem hys, hc, Nat.mul_one] at h1
    obtain ⟨y, e1, _, e3⟩ := DataW.trod_int he h1
    refine ⟨y, ?_, e3⟩
    have e4 := congrArg (fun l => l[0]?) e1
    simpa [List.getElem?_take] using e4
  refine ⟨cs.map intOf, by rw [List.length_map, hlen, hn], ?_, fun y hy => ?_⟩
  · apply List.ext_getElem?
    intro i
    rw [List.getElem?_map, List.getElem?_map]
    rcases Nat.lt_or_ge i n with h' | h'
    · obtain ⟨y, hy, _⟩ := hi i h'
      rw [hy]
      rfl
    · rw [List.getElem?_eq_none (by omega)]
      rfl
  · obtain ⟨z, hz, rfl⟩ := List.mem_map.1 hy
    obtain ⟨i, hi2, rfl⟩ := List.getElem_of_mem hz
    obtain ⟨y, hy2, hw⟩ := hi i (by omega)
    rw [List.getElem?_eq_getElem hi2] at hy2
    rw [Option.some.inj hy2]
    exact hw
end
theorem field_of {fs : Array Field} {l : List (Bool × TypeId × Nat)} (h : fs.toList.map (fun f => (f.name == "_", f.type, f.offset)) = l) (j : Nat) {b : Bool} {t : TypeId} {o : Nat} (hl : l[j]? = some (b, t, o)) : ∃ f, fs[j]? = some f ∧ f.type = t ∧ f.offset = o := by
  rw [← h, List.getElem?_map] at hl
  cases hf : fs.toList[j]? with
  | none => rw [hf] at hl; cases hl
  | some f =>
    rw [hf] at hl
    simp only [Option.map_some, Option.some.injEq, Prod.mk.injEq] at hl
    exact ⟨f, by simpa using hf, hl.2.1, hl.2.2⟩
theorem Try.cellsP : Try.prog.cellsOf 43 = 36 := by kernel_rfl
theorem Try.cellsI : Try.prog.cellsOf 3 = 1 := by kernel_rfl
theorem Try.cellsU : Try.prog.cellsOf 40 = 1 := by kernel_rfl
theorem Try.cellsS : Try.prog.cellsOf 41 = 32 := by kernel_rfl
theorem Try.cellsB : Try.prog.cellsOf 5 = 1 := by kernel_rfl
theorem take_one {l : List Value} {j : Nat} {v : Value} (h : (l.drop j).take 1 = [v]) : l.drop j = v :: l.drop (j + 1) := by
  have h2 := List.take_append_drop 1 (l.drop j)
  rw [h, List.drop_drop] at h2
  exact h2.symm
/-- A pointer that came in. -/
theorem pt_in {H : Type} {enc : TypeId × Value → H} {w : World} {base : Nat} {spare : Nat → Bool} {held : Bool} {d : DataW H} {p : List MemPlace} {cs : Array Value} (h : DataW.Trod enc Try.prog w base spare held 43 (.agg cs) d p) :
    ∃ q : Pt, q.Ok ∧ cs = pcells q := by
  obtain ⟨fuel, hf⟩ := h
  obtain ⟨ys, n, hn, hy, hlen, hyl, hfs⟩ := DataW.trod_struct Try.structP hf
  rw [Try.cellsP] at hlen
  have hF := Try.fieldsP
  have get : ∀ (j : Nat) (b : Bool) (t : TypeId) (o : Nat), ([(false, 3, 0), (false, 3, 1), (false, 3, 2), (false, 40, 3), (false, 41, 4)] : List (Bool × TypeId × Nat))[j]? = some (b, t, o) → ∃ y, DataW.trod enc Try.prog w base spare held n t (((Value.agg cs).cells.toList.drop o).take (Try.prog.cellsOf t)) = some y := fun j b t o hj => by
    obtain ⟨f, hf1, ht, ho⟩ := field_of hF j hj
    have h1 := hfs j f hf1
    rw [ht, ho] at h1
    have hjl : j < ys.length := by rw [hyl]; exact (Array.getElem?_eq_some_iff.1 hf1).1
    exact ⟨_, h1.trans (List.getElem?_eq_getElem hjl)⟩
  obtain ⟨y0, h0⟩ := get 0 _ _ _ rfl
  obtain ⟨y1, h1⟩ := get 1 _ _ _ rfl
  obtain ⟨y2, h2⟩ := get 2 _ _ _ rfl
  obtain ⟨y3, h3⟩ := get 3 _ _ _ rfl
  obtain ⟨y4, h4⟩ := get 4 _ _ _ rfl
  rw [Try.cellsI] at h0 h1 h2
  rw [Try.cellsU] at h3
  rw [Try.cellsS] at h4
  obtain ⟨a0, e0, _, f0⟩ := DataW.trod_int Try.underlying3 h0
  obtain ⟨a1, e1, _, f1⟩ := DataW.trod_int Try.underlying3 h1
  obtain ⟨a2, e2, _, f2⟩ := DataW.trod_int Try.underlying3 h2
  obtain ⟨a3, e3, _, f3⟩ := DataW.trod_int Try.underlying40 h3
  obtain ⟨xs, hl, hc, hw⟩ := trod_ints Try.underlying41 Try.underlying5 Try.cellsB Try.cellsS h4
  have g0 := bounds_i64 f0
  have g1 := bounds_i64 f1
  have g2 := bounds_i64 f2
  have g3 := bounds_u32 f3
  refine ⟨⟨a0, a1, a2, a3, xs⟩, ⟨g0.1, g0.2, g1.1, g1.2, g2.1, g2.2, g3.1, (by show a3 < 4294967296; omega), hl, fun y hy => by have := bounds_u8 (hw y hy); omega⟩, ?_⟩
  have hlen' : cs.toList.length = 36 := hlen
  have d0 := take_one e0
  have d1 := take_one e1
  have d2 := take_one e2
  have d3 := take_one e3
  have d4 : cs.toList.drop 4 = xs.map (Value.int .u8) := by
    rw [← hc]
    exact (List.take_of_length_le (by show (cs.toList.drop 4).length ≤ 32; rw [List.length_drop, hlen']; decide)).symm
  apply Array.ext'
  show cs.toList = Value.int .i64 a0 :: Value.int .i64 a1 :: Value.int .i64 a2 :: Value.int .u32 a3 :: xs.map (Value.int .u8)
  have e : cs.toList = (Value.agg cs).cells.toList.drop 0 := rfl
  rw [e, d0, d1, d2, d3, ← d4]
  rfl
end Go.Proofs.Ytnoofmdhhlcbkaa

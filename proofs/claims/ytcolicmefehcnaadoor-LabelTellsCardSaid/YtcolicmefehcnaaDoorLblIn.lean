/- A label as an argument by value, as it came in. No conditions but those that stand in each lemma. -/
import Derived.Test.YtcolicmefehcnaaDoorLbl
import Derived.Test.YtcolicmefehcnaaDoorPtrOpen
namespace Go.Proofs.YtcolicmefehcnaaDoor
open Go.RowKit Go.ChangeShapes Go.WideShapes

theorem lb_in {T : TypeId} (hT : LT T) {H : Type} {enc : TypeId × Value → H} {w : World} {base : Nat} {spare : Nat → Bool} {held : Bool} {d : DataW H} {p : List MemPlace} {cs : Array Value} (h : DataW.Trod enc Tryd.prog w base spare held T (.agg cs) d p) :
    ∃ q : Lb, q.Ok ∧ cs = lcells q := by
  obtain ⟨fuel, hf⟩ := h
  obtain ⟨ys, n, hn, hy, hlen, hyl, hfs⟩ := DataW.trod_struct hT.struct hf
  rw [hT.cells] at hlen
  have hF := hT.fields
  have get : ∀ (j : Nat) (b : Bool) (t : TypeId) (o : Nat), ([(false, 3, 0), (false, 25, 1), (false, 3, 37)] : List (Bool × TypeId × Nat))[j]? = some (b, t, o) → ∃ y, DataW.trod enc Tryd.prog w base spare held n t (((Value.agg cs).cells.toList.drop o).take (Tryd.prog.cellsOf t)) = some y := fun j b t o hj => by
    obtain ⟨f, hf1, ht, ho⟩ := field_of hF j hj
    have h1 := hfs j f hf1
    rw [ht, ho] at h1
    have hjl : j < ys.length := by rw [hyl]; exact (Array.getElem?_eq_some_iff.1 hf1).1
    exact ⟨_, h1.trans (List.getElem?_eq_getElem hjl)⟩
  obtain ⟨y0, h0⟩ := get 0 _ _ _ rfl
  obtain ⟨⟨y1, p1⟩, h1⟩ := get 1 _ _ _ rfl
  obtain ⟨y2, h2⟩ := get 2 _ _ _ rfl
  rw [Tryd.cellsI] at h0 h2
  rw [Tryd.cellsP] at h1
  obtain ⟨a0, e0, _, f0⟩ := DataW.trod_int Tryd.underlying3 h0
  obtain ⟨a2, e2, _, f2⟩ := DataW.trod_int Tryd.underlying3 h2
  obtain ⟨q, hq, hc⟩ := pt_in (cs := ((cs.toList.drop 1).take 36).toArray) ⟨n, h1⟩
  have g0 := bounds_i64 f0
  have g2 := bounds_i64 f2
  refine ⟨⟨a0, q, a2⟩, ⟨g0.1, g0.2, hq, g2.1, g2.2⟩, ?_⟩
  have hlen' : cs.toList.length = 38 := hlen
  have d0 := take_one e0
  have hc2 : (cs.toList.drop 1).take 36 = (pcells q).toList := by rw [← hc]
  have d2 : cs.toList.drop 37 = [Value.int .i64 a2] := by
    have : (cs.toList.drop 37).take 1 = cs.toList.drop 37 := List.take_of_length_le (by rw [List.length_drop, hlen']; decide)
    rw [← this]
    exact e2
  apply Array.ext'
  show cs.toList = llist ⟨a0, q, a2⟩
  rw [llist_eq]
  show cs.toList = Value.int .i64 a0 :: ((pcells q).toList ++ [Value.int .i64 a2])
  have e : cs.toList = (Value.agg cs).cells.toList.drop 0 := rfl
  rw [e, d0]
  show Value.int .i64 a0 :: cs.toList.drop 1 = _
  have t1 := List.take_append_drop 36 (cs.toList.drop 1)
  rw [List.drop_drop, hc2, d2] at t1
  rw [← t1]
end Go.Proofs.YtcolicmefehcnaaDoor

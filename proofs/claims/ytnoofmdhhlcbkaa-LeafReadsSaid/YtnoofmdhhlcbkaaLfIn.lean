/- A node in memory, as its four cells; as an argument by value, as it came in. Of whatever type that is laid so. No conditions but those that stand in each lemma. | A node as an argument: the facts of its types. -/
import Derived.Test.YtnoofmdhhlcbkaaLfNums
import Derived.Test.YtnoofmdhhlcbkaaBytesIn

namespace Go.Proofs.Ytnoofmdhhlcbkaa
open Go.RowKit Go.ChangeShapes Go.WideShapes
namespace Lf
open Els

/-- The slice with address A, of so many places, holds these rows of bytes. -/
structure Rows (w : World) (A : Option Addr) (c : Nat) (cs : List Value) (ls : List (List Int)) : Prop where
  src : CSrc w A cs
  rows : BBs w cs ls
  cap : ls.length ≤ c
  max : c ≤ maxLen
theorem Rows.keep {w w' : World} {A : Option Addr} {c : Nat} {cs : List Value} {ls : List (List Int)} (h : Rows w A c cs ls) (hb : Below w.heap.size w w') : Rows w' A c cs ls := ⟨h.src.keep hb, h.rows.keep hb, h.cap, h.max⟩
theorem Rows.at_ {w : World} {A : Option Addr} {c : Nat} {cs : List Value} {ls : List (List Int)} (h : Rows w A c cs ls) (i : Nat) (hi : i < ls.length) : ∃ b o v, A = some ⟨b, o, none⟩ ∧ b < w.heap.size ∧ w.cell? ⟨b, o + i, none⟩ = some v ∧ BB w v (ls.getD i []) := bb_at h.src h.rows i hi
theorem Rows.none_ (w : World) : Rows w none 0 [] [] := ⟨CSrc.none_, BBs.nil w, Nat.le_refl _, by unfold maxLen; omega⟩
/-- A node's cells. -/
def ndC (n : Nd) (A1 : Option Addr) (c1 : Nat) (A2 : Option Addr) (c2 : Nat) (A3 : Option Addr) (c3 : Nat) : Array Value := #[.int .i64 n.level, .slice A1 n.keys.length c1, .slice A2 n.vals.length c2, .slice A3 n.kids.length c3]
/-- .. and what its slices hold. -/
structure NdAt (w : World) (n : Nd) (A1 : Option Addr) (c1 : Nat) (ks : List Value) (A2 : Option Addr) (c2 : Nat) (vs : List Value) (A3 : Option Addr) (c3 : Nat) : Prop where
  keys : Rows w A1 c1 ks n.keys
  vals : Rows w A2 c2 vs n.vals
  kids : PSrc w A3 n.kids
  cap : n.kids.length ≤ c3
  max : c3 ≤ maxLen
theorem NdAt.keep {w w' : World} {n : Nd} {A1 : Option Addr} {c1 : Nat} {ks : List Value} {A2 : Option Addr} {c2 : Nat} {vs : List Value} {A3 : Option Addr} {c3 : Nat} (h : NdAt w n A1 c1 ks A2 c2 vs A3 c3) (hb : Below w.heap.size w w') : NdAt w' n A1 c1 ks A2 c2 vs A3 c3 :=
  ⟨h.keys.keep hb, h.vals.keep hb, h.kids.keep hb, h.cap, h.max⟩
theorem NdAt.none_ (w : World) : NdAt w Nd.zero none 0 [] none 0 [] none 0 := ⟨Rows.none_ w, Rows.none_ w, PSrc.none_, Nat.le_refl _, by unfold maxLen; omega⟩
/-- A value that is a node, in memory. -/
def NdV (w : World) (v : Value) (n : Nd) : Prop := ∃ A1 c1 ks A2 c2 vs A3 c3, v = .agg (ndC n A1 c1 A2 c2 A3 c3) ∧ NdAt w n A1 c1 ks A2 c2 vs A3 c3
theorem NdV.keep {w w' : World} {v : Value} {n : Nd} (h : NdV w v n) (hb : Below w.heap.size w w') : NdV w' v n := by
  obtain ⟨A1, c1, ks, A2, c2, vs, A3, c3, e, hn⟩ := h
  exact ⟨A1, c1, ks, A2, c2, vs, A3, c3, e, hn.keep hb⟩
theorem ndC_one (n : Nd) (A1 : Option Addr) (c1 : Nat) (A2 : Option Addr) (c2 : Nat) (A3 : Option Addr) (c3 : Nat) : (ndC n A1 c1 A2 c2 A3 c3).all (·.oneCell') = true := by simp [ndC, Value.oneCell']
/-- A field of a node is stored. -/
theorem ndC_keys (n : Nd) (A1 : Option Addr) (c1 : Nat) (A2 : Option Addr) (c2 : Nat) (A3 : Option Addr) (c3 : Nat) (A : Option Addr) (c m : Nat) (l : List (List Int)) (hm : m = l.length) : (ndC n A1 c1 A2 c2 A3 c3).setIfInBounds 1 (.slice A m c) = ndC ⟨n.level, l, n.vals, n.kids⟩ A c A2 c2 A3 c3 := by subst hm; rfl
theorem ndC_vals (n : Nd) (A1 : Option Addr) (c1 : Nat) (A2 : Option Addr) (c2 : Nat) (A3 : Option Addr) (c3 : Nat) (A : Option Addr) (c m : Nat) (l : List (List Int)) (hm : m = l.length) : (ndC n A1 c1 A2 c2 A3 c3).setIfInBounds 2 (.slice A m c) = ndC ⟨n.level, n.keys, l, n.kids⟩ A1 c1 A c A3 c3 := by subst hm; rfl
theorem ndC_kids (n : Nd) (A1 : Option Addr) (c1 : Nat) (A2 : Option Addr) (c2 : Nat) (A3 : Option Addr) (c3 : Nat) (A : Option Addr) (c m : Nat) (l : List Pt) (hm : m = l.length) : (ndC n A1 c1 A2 c2 A3 c3).setIfInBounds 3 (.slice A m c) = ndC ⟨n.level, n.keys, n.vals, l⟩ A1 c1 A2 c2 A c := by subst hm; rfl
theorem ndC_0 (n : Nd) (A1 : Option Addr) (c1 : Nat) (A2 : Option Addr) (c2 : Nat) (A3 : Option Addr) (c3 : Nat) : (ndC n A1 c1 A2 c2 A3 c3)[0]? = some (.int .i64 n.level) := rfl
theorem ndC_1 (n : Nd) (A1 : Option Addr) (c1 : Nat) (A2 : Option Addr) (c2 : Nat) (A3 : Option Addr) (c3 : Nat) : (ndC n A1 c1 A2 c2 A3 c3)[1]? = some (.slice A1 n.keys.length c1) := rfl
theorem ndC_2 (n : Nd) (A1 : Option Addr) (c1 : Nat) (A2 : Option Addr) (c2 : Nat) (A3 : Option Addr) (c3 : Nat) : (ndC n A1 c1 A2 c2 A3 c3)[2]? = some (.slice A2 n.vals.length c2) := rfl
theorem ndC_3 (n : Nd) (A1 : Option Addr) (c1 : Nat) (A2 : Option Addr) (c2 : Nat) (A3 : Option Addr) (c3 : Nat) : (ndC n A1 c1 A2 c2 A3 c3)[3]? = some (.slice A3 n.kids.length c3) := rfl
/-- Rows of bytes of the call's own. -/
structure RowsO (w : World) (B : Nat) (T : TypeId) (A : Option Addr) (c : Nat) (cs : List Value) (ls : List (List Int)) : Prop where
  own : COwn w B T 1 A c ls.length cs
  rows : BTs w 5 cs ls
theorem RowsO.rowsAt {w : World} {B : Nat} {T : TypeId} {A : Option Addr} {c : Nat} {cs : List Value} {ls : List (List Int)} (h : RowsO w B T A c cs ls) : Rows w A c cs ls := by
  refine ⟨?_, h.rows.rows, h.own.cap.1, h.own.cap.2⟩
  rcases Nat.eq_zero_or_pos ls.length with h0 | h0
  · have := h.own.cells
    rw [h0] at this
    rw [List.length_eq_zero_iff.1 (by omega : cs.length = 0)]
    exact CSrc.none_
  · exact h.own.src h0
theorem RowsO.keep {w w' : World} {B : Nat} {T : TypeId} {A : Option Addr} {c : Nat} {cs : List Value} {ls : List (List Int)} (h : RowsO w B T A c cs ls) (hT : KeepT T w w') (hU : KeepT 5 w w') : RowsO w' B T A c cs ls := ⟨h.own.keepT hT, h.rows.keep hU⟩
theorem RowsO.nil (w : World) (B : Nat) (T : TypeId) : RowsO w B T none 0 [] [] := ⟨cown_nil w B T 1, BTs.nil w _⟩
theorem RowsO.grown {w w' : World} {B : Nat} {T : TypeId} {A A' : Option Addr} {c c' n : Nat} {cs : List Value} {ls : List (List Int)} {v : Value} {xs : List Int} (h : RowsO w B T A c cs ls) (hT : 5 ≠ T) (hx : BT w 5 v xs) (hn : n = ls.length + 1)
    (g : GrewC w B T 1 A n (cs ++ [v]) A' c' w') : RowsO w' B T A' c' (cs ++ [v]) (ls ++ [xs]) := by
  subst hn
  have hk := g.keepT h.own hT
  exact ⟨by rw [List.length_append]; exact g.own, (h.rows.keep hk).snoc (hx.keep hk)⟩
/-- Pointers of the call's own. -/
structure PtsO (w : World) (B : Nat) (T : TypeId) (A : Option Addr) (c : Nat) (ps : List Pt) : Prop where
  own : COwn w B T 36 A c ps.length (pflat ps)
  ok : ∀ p ∈ ps, p.Ok
theorem PtsO.src {w : World} {B : Nat} {T : TypeId} {A : Option Addr} {c : Nat} {ps : List Pt} (h : PtsO w B T A c ps) : PSrc w A ps := by
  rcases Nat.eq_zero_or_pos ps.length with h0 | h0
  · rw [List.length_eq_zero_iff.1 h0]; exact PSrc.none_
  · exact PSrc.ofCells (h.own.src h0) fun p hp => (h.ok p hp).shaL
theorem PtsO.keep {w w' : World} {B : Nat} {T : TypeId} {A : Option Addr} {c : Nat} {ps : List Pt} (h : PtsO w B T A c ps) (hT : KeepT T w w') : PtsO w' B T A c ps := ⟨h.own.keepT hT, h.ok⟩
theorem PtsO.nil (w : World) (B : Nat) (T : TypeId) : PtsO w B T none 0 [] := ⟨cown_nil w B T 36, fun p hp => by cases hp⟩
theorem PtsO.grown {w w' : World} {B : Nat} {T : TypeId} {A A' : Option Addr} {c c' n : Nat} {ps : List Pt} {p : Pt} (h : PtsO w B T A c ps) (hp : p.Ok) (hn : n = ps.length + 1) (g : GrewC w B T 36 A n (pflat ps ++ (pcells p).toList) A' c' w') : PtsO w' B T A' c' (ps ++ [p]) := by
  subst hn
  refine ⟨by rw [pflat_snoc, List.length_append]; exact g.own, fun q hq => ?_⟩
  rcases List.mem_append.1 hq with hq | hq
  · exact h.ok q hq
  · rw [List.mem_singleton.1 hq]; exact hp
/-- What the laws ask of a type that is laid as a node. -/
structure NTy (T I KS BT U PS : TypeId) : Prop where
  struct : Try.prog.underlying T = some (.struct (Try.prog.fieldsOf T))
  cells : Try.prog.cellsOf T = 4
  fields : (Try.prog.fieldsOf T).toList.map (fun f => (f.name == "_", f.type, f.offset)) = [(false, I, 0), (false, KS, 1), (false, KS, 2), (false, PS, 3)]
  int : Try.prog.underlying I = some (.int .i64)
  cI : Try.prog.cellsOf I = 1
  row : ByteRow Try.prog BT U
  keys : Try.prog.underlying KS = some (.slice BT)
  cB : Try.prog.cellsOf BT = 1
  cK : Try.prog.cellsOf KS = 1
  kids : Try.prog.underlying PS = some (.slice 43)
  cP : Try.prog.cellsOf PS = 1
section
variable {w : World} {base : Nat} {H : Type} {enc : TypeId × Value → H} {spare : Nat → Bool} {held : Bool}
theorem slice_part {ST E : TypeId} (hS : Try.prog.underlying ST = some (.slice E)) {fuel : Nat} {cs : List Value} {y : DataW H × List MemPlace} (h : DataW.trod enc Try.prog w base spare held fuel ST cs = some y) : ∃ A len cap d p, cs = [.slice A len cap] ∧ DataW.Trod enc Try.prog w base spare held ST (.slice A len cap) d p := by
  obtain ⟨d, p⟩ := y
  rcases Go.Deep.open_slice hS h with ⟨rfl, _⟩ | ⟨a, len, cap, m, n, D, Pl, rfl, _⟩
  · exact ⟨none, 0, 0, d, p, rfl, fuel, h⟩
  · exact ⟨some a, len, cap, d, p, rfl, fuel, h⟩
/-- A node that came in. -/
theorem node_in {T I KS BT U PS : TypeId} (hT : NTy T I KS BT U PS) {d : DataW H} {p : List MemPlace} {cs : Array Value} (h : DataW.Trod enc Try.prog w base spare held T (.agg cs) d p) : ∃ n : Nd, n.Ok ∧ NdV w (.agg cs) n := by
  obtain ⟨fuel, hf⟩ := h
  obtain ⟨ys, n, hn, hy, hlen, hyl, hfs⟩ := DataW.trod_struct hT.struct hf
  rw [hT.cells] at hlen
  have hF := hT.fields
  have get : ∀ (j : Nat) (b : Bool) (t : TypeId) (o : Nat), ([(false, I, 0), (false, KS, 1), (false, KS, 2), (false, PS, 3)] : List (Bool × TypeId × Nat))[j]? = some (b, t, o) → ∃ y, DataW.trod enc Try.prog w base spare held n t (((Value.agg cs).cells.toList.drop o).take (Try.prog.cellsOf t)) = some y := fun j b t o hj => by
    obtain ⟨f, hf1, ht, ho⟩ := field_of hF j hj
    have h1 := hfs j f hf1
    rw [ht, ho] at h1
    have hjl : j < ys.length := by rw [hyl]; exact (Array.getElem?_eq_some_iff.1 hf1).1
    exact ⟨_, h1.trans (List.getElem?_eq_getElem hjl)⟩
  obtain ⟨y0, h0⟩ := get 0 _ _ _ rfl
  obtain ⟨y1, h1⟩ := get 1 _ _ _ rfl
  obtain ⟨y2, h2⟩ := get 2 _ _ _ rfl
  obtain ⟨y3, h3⟩ := get 3 _ _ _ rfl
  rw [hT.cI] at h0
  rw [hT.cK] at h1 h2
  rw [hT.cP] at h3
  obtain ⟨a0, e0, _, f0⟩ := DataW.trod_int hT.int h0
  obtain ⟨A1, l1, c1, d1, p1, e1, t1⟩ := slice_part hT.keys h1
  obtain ⟨A2, l2, c2, d2, p2, e2, t2⟩ := slice_part hT.keys h2
  obtain ⟨A3, l3, c3, d3, p3, e3, t3⟩ := slice_part hT.kids h3
  obtain ⟨ks, kl, rfl, k1, k2, k3, k4, k5⟩ := bbs_in hT.row hT.keys hT.cB t1
  obtain ⟨vs, vl, rfl, v1, v2, v3, v4, v5⟩ := bbs_in hT.row hT.keys hT.cB t2
  obtain ⟨ps, rfl, q1, q2, q3, q4⟩ := pts_in hT.kids t3
  have g0 := bounds_i64 f0
  refine ⟨⟨a0, kl, vl, ps⟩, ⟨g0.1, g0.2, k5, v5, q4⟩, A1, c1, ks, A2, c2, vs, A3, c3, ?_, ⟨⟨k1, k2, k3, k4⟩, ⟨v1, v2, v3, v4⟩, q1, q2, q3⟩⟩
  have x0 := take_one e0
  have x1 := take_one e1
  have x2 := take_one e2
  have x3 : cs.toList.drop 3 = [Value.slice A3 ps.length c3] := by
    have hlen' : cs.toList.length = 4 := hlen
    have : (cs.toList.drop 3).take 1 = cs.toList.drop 3 := List.take_of_length_le (by rw [List.length_drop, hlen']; decide)
    rw [← this]
    exact e3
  congr 1
  apply Array.ext'
  show cs.toList = [.int .i64 a0, .slice A1 kl.length c1, .slice A2 vl.length c2, .slice A3 ps.length c3]
  have e : cs.toList = (Value.agg cs).cells.toList.drop 0 := rfl
  rw [e, x0, x1, x2]
  show _ :: _ :: _ :: cs.toList.drop 3 = _
  rw [x3]
end
end Lf
end Go.Proofs.Ytnoofmdhhlcbkaa

namespace Go.Proofs.Ytnoofmdhhlcbkaa
open Go.RowKit
namespace Lf
open Els
theorem ntyP : NTy 26 3 23 22 5 24 where
  struct := by kernel_rfl
  cells := by kernel_rfl
  fields := by kernel_rfl
  int := Try.underlying3
  cI := by kernel_rfl
  row := ByteRow.mk Try.underlying22 Try.underlying5 (by kernel_rfl)
  keys := Try.underlying23
  cB := by kernel_rfl
  cK := by kernel_rfl
  kids := Try.underlying24
  cP := by kernel_rfl
end Lf
end Go.Proofs.Ytnoofmdhhlcbkaa

/- A variable that holds a node whose slices are the call's own: how it grows by a key, a value, a child. Of whatever type that is laid so. No conditions but those that stand in each lemma. | A node under way, in a variable, while it is read: a key, a value, a child more; what stays as it was. No conditions but those that stand in each lemma. -/
import Derived.Test.YtnoofmdhhlcbkaaLfIn
import Derived.Test.YtnoofmdhhlcbkaaLfKey
import Derived.Test.YtnoofmdhhlcbkaaOneEl
import Derived.Test.YtnoofmdhhlcbkaaElsB
import Derived.Test.YtnoofmdhhlcbkaaLfVar
import Derived.Test.YtnoofmdhhlcbkaaDrawT

namespace Go.Proofs.Ytnoofmdhhlcbkaa
open Go.RowKit
namespace Lf
open Els

theorem setCell_size (w : World) (a : Addr) (v : Value) : (w.setCell a v).heap.size = w.heap.size := by
  unfold World.setCell
  split <;> simp
theorem keepT_set {w : World} {g : Nat} {T U : TypeId} {cs : Array Value} (h : Row w g T cs) (ht : U ≠ T) (j : Nat) (v : Value) : KeepT U w (w.setCell ⟨g, j, none⟩ v) :=
  KeepT.one (g := g) (by rw [setCell_size]; exact Nat.le_refl _) (fun b _ hb => heap_setCell_other w ⟨g, j, none⟩ b v hb) (InT.row h) ht
/-- The types are not one another: the node's (T), bytes' slices' (K). -/
structure Kinds (T K : TypeId) : Prop where
  tu : 5 ≠ T
  ku : 5 ≠ K
  pu : 5 ≠ 43
  kt : K ≠ T
  pt : 43 ≠ T
  kp : K ≠ 43
structure Under (w : World) (B : Nat) (T K : TypeId) (g : Nat) (n : Nd) (A1 : Option Addr) (c1 : Nat) (ks : List Value) (A2 : Option Addr) (c2 : Nat) (vs : List Value) (A3 : Option Addr) (c3 : Nat) : Prop where
  var : Row w g T (ndC n A1 c1 A2 c2 A3 c3)
  keys : RowsO w B K A1 c1 ks n.keys
  vals : RowsO w B K A2 c2 vs n.vals
  kids : PtsO w B 43 A3 c3 n.kids
  apart : Apart A1 A2
section
variable {w w' : World} {B : Nat} {T K : TypeId} {g : Nat} {n : Nd} {A1 : Option Addr} {c1 : Nat} {ks : List Value} {A2 : Option Addr} {c2 : Nat} {vs : List Value} {A3 : Option Addr} {c3 : Nat}
theorem Under.keep (h : Under w B T K g n A1 c1 ks A2 c2 vs A3 c3) (hb : Below w.heap.size w w') : Under w' B T K g n A1 c1 ks A2 c2 vs A3 c3 :=
  ⟨h.var.keep hb, h.keys.keep (KeepT.below hb) (KeepT.below hb), h.vals.keep (KeepT.below hb) (KeepT.below hb), h.kids.keep (KeepT.below hb), h.apart⟩
theorem Under.node (h : Under w B T K g n A1 c1 ks A2 c2 vs A3 c3) : NdAt w n A1 c1 ks A2 c2 vs A3 c3 := ⟨h.keys.rowsAt, h.vals.rowsAt, h.kids.src, h.kids.own.cap.1, h.kids.own.cap.2⟩
theorem Under.made {l : Int} (hr : Row w g T (ndC ⟨l, [], [], []⟩ none 0 none 0 none 0)) (B : Nat) (K : TypeId) : Under w B T K g ⟨l, [], [], []⟩ none 0 [] none 0 [] none 0 :=
  ⟨hr, RowsO.nil w B K, RowsO.nil w B K, PtsO.nil w B _, Apart.none_ _⟩
theorem Under.addKey (hK : Kinds T K) (h : Under w B T K g n A1 c1 ks A2 c2 vs A3 c3) {A' : Option Addr} {c' m : Nat} {v : Value} {xs : List Int} (hx : BT w 5 v xs) (hm : m = n.keys.length + 1) (gr : GrewC w B K 1 A1 m (ks ++ [v]) A' c' w') :
    Under (w'.setCell ⟨g, 1, none⟩ (.slice A' m c')) B T K g ⟨n.level, n.keys ++ [xs], n.vals, n.kids⟩ A' c' (ks ++ [v]) A2 c2 vs A3 c3 := by
  have hr : Row w' g T (ndC n A1 c1 A2 c2 A3 c3) := (gr.but g h.var.lt fun a ha e => (InT.own h.keys.own a ha).ne (InT.row h.var) hK.kt e).trans h.var
  obtain ⟨o2, ap⟩ := gr.apart h.vals.own h.apart
  have kU := gr.keepT h.keys.own hK.ku
  have kP := gr.keepT h.keys.own hK.kp.symm
  have sU := keepT_set hr hK.tu 1 (.slice A' m c')
  have sK := keepT_set hr hK.kt 1 (.slice A' m c')
  have sP := keepT_set hr hK.pt 1 (.slice A' m c')
  refine ⟨?_, (h.keys.grown hK.ku hx hm gr).keep sK sU, (RowsO.mk o2 (h.vals.rows.keep kU)).keep sK sU, (h.kids.keep kP).keep sP, ap⟩
  have := hr.set 1 (.slice A' m c')
  rw [ndC_keys n A1 c1 A2 c2 A3 c3 A' c' m (n.keys ++ [xs]) (by rw [hm, List.length_append]; rfl)] at this
  exact this
theorem Under.addVal (hK : Kinds T K) (h : Under w B T K g n A1 c1 ks A2 c2 vs A3 c3) {A' : Option Addr} {c' m : Nat} {v : Value} {xs : List Int} (hx : BT w 5 v xs) (hm : m = n.vals.length + 1) (gr : GrewC w B K 1 A2 m (vs ++ [v]) A' c' w') :
    Under (w'.setCell ⟨g, 2, none⟩ (.slice A' m c')) B T K g ⟨n.level, n.keys, n.vals ++ [xs], n.kids⟩ A1 c1 ks A' c' (vs ++ [v]) A3 c3 := by
  have hr : Row w' g T (ndC n A1 c1 A2 c2 A3 c3) := (gr.but g h.var.lt fun a ha e => (InT.own h.vals.own a ha).ne (InT.row h.var) hK.kt e).trans h.var
  obtain ⟨o1, ap⟩ := gr.apart h.keys.own h.apart.symm
  have kU := gr.keepT h.vals.own hK.ku
  have kP := gr.keepT h.vals.own hK.kp.symm
  have sU := keepT_set hr hK.tu 2 (.slice A' m c')
  have sK := keepT_set hr hK.kt 2 (.slice A' m c')
  have sP := keepT_set hr hK.pt 2 (.slice A' m c')
  refine ⟨?_, (RowsO.mk o1 (h.keys.rows.keep kU)).keep sK sU, (h.vals.grown hK.ku hx hm gr).keep sK sU, (h.kids.keep kP).keep sP, ap.symm⟩
  have := hr.set 2 (.slice A' m c')
  rw [ndC_vals n A1 c1 A2 c2 A3 c3 A' c' m (n.vals ++ [xs]) (by rw [hm, List.length_append]; rfl)] at this
  exact this
theorem Under.addKid (hK : Kinds T K) (h : Under w B T K g n A1 c1 ks A2 c2 vs A3 c3) {A' : Option Addr} {c' m : Nat} {p : Pt} (hp : p.Ok) (hm : m = n.kids.length + 1) (gr : GrewC w B 43 36 A3 m (pflat n.kids ++ (pcells p).toList) A' c' w') :
    Under (w'.setCell ⟨g, 3, none⟩ (.slice A' m c')) B T K g ⟨n.level, n.keys, n.vals, n.kids ++ [p]⟩ A1 c1 ks A2 c2 vs A' c' := by
  have hr : Row w' g T (ndC n A1 c1 A2 c2 A3 c3) := (gr.but g h.var.lt fun a ha e => (InT.own h.kids.own a ha).ne (InT.row h.var) hK.pt e).trans h.var
  have kU := gr.keepT h.kids.own hK.pu
  have kK := gr.keepT h.kids.own hK.kp
  have sU := keepT_set hr hK.tu 3 (.slice A' m c')
  have sK := keepT_set hr hK.kt 3 (.slice A' m c')
  have sP := keepT_set hr hK.pt 3 (.slice A' m c')
  refine ⟨?_, (h.keys.keep kK kU).keep sK sU, (h.vals.keep kK kU).keep sK sU, (h.kids.grown hp hm gr).keep sP, h.apart⟩
  have := hr.set 3 (.slice A' m c')
  rw [ndC_kids n A1 c1 A2 c2 A3 c3 A' c' m (n.kids ++ [p]) (by rw [hm, List.length_append]; rfl)] at this
  exact this
end
end Lf
end Go.Proofs.Ytnoofmdhhlcbkaa

namespace Go.Proofs.Ytnoofmdhhlcbkaa
open Go.RowKit
namespace Lf
open Els

theorem elK : ElTypes Try.prog 23 22 (.slice none 0 0) 1 24 := ⟨Try.underlying23, by kernel_rfl⟩
theorem elP : ElTypes Try.prog 24 43 (.agg (pcells Pt.zero)) 36 64 := ⟨Try.underlying24, by kernel_rfl⟩
theorem sizeK : (Try.prog.info? 23).map (·.size) = some 1 := by kernel_rfl
theorem sizeKP : (Try.prog.info? 24).map (·.size) = some 1 := by kernel_rfl
theorem kindsP : Kinds 26 22 := ⟨by decide, by decide, by decide, by decide, by decide, by decide⟩
theorem kindsR : Kinds 30 22 := ⟨by decide, by decide, by decide, by decide, by decide, by decide⟩
section
variable {w w' : World} {B : Nat} {T K : TypeId} {g : Nat} {n : Nd} {A1 : Option Addr} {c1 : Nat} {ks : List Value} {A2 : Option Addr} {c2 : Nat} {vs : List Value} {A3 : Option Addr} {c3 : Nat}
/-- What a slice grows by, and the store behind it, leave as they were all blocks below those of the call's own. -/
structure Stepped (B : Nat) (w w2 : World) : Prop where
  below : Below B w w2
  bytes : KeepT 5 w w2
theorem Under.stepK (hK : Kinds T K) (h : Under w B T K g n A1 c1 ks A2 c2 vs A3 c3) (hB : B ≤ g) {A' : Option Addr} {c' m : Nat} {cs' : List Value} (gr : GrewC w B K 1 A1 m cs' A' c' w') (j : Nat) (u : Value) : Stepped B w (w'.setCell ⟨g, j, none⟩ u) := by
  have hr : Row w' g T (ndC n A1 c1 A2 c2 A3 c3) := gr.row h.keys.own h.var hK.kt
  exact ⟨gr.below.setCell hB u, (gr.keepT h.keys.own hK.ku).trans (keepT_set hr hK.tu j u)⟩
theorem Under.stepV (hK : Kinds T K) (h : Under w B T K g n A1 c1 ks A2 c2 vs A3 c3) (hB : B ≤ g) {A' : Option Addr} {c' m : Nat} {cs' : List Value} (gr : GrewC w B K 1 A2 m cs' A' c' w') (j : Nat) (u : Value) : Stepped B w (w'.setCell ⟨g, j, none⟩ u) := by
  have hr : Row w' g T (ndC n A1 c1 A2 c2 A3 c3) := gr.row h.vals.own h.var hK.kt
  exact ⟨gr.below.setCell hB u, (gr.keepT h.vals.own hK.ku).trans (keepT_set hr hK.tu j u)⟩
theorem Under.stepP (hK : Kinds T K) (h : Under w B T K g n A1 c1 ks A2 c2 vs A3 c3) (hB : B ≤ g) {A' : Option Addr} {c' m : Nat} {cs' : List Value} (gr : GrewC w B 43 36 A3 m cs' A' c' w') (j : Nat) (u : Value) : Stepped B w (w'.setCell ⟨g, j, none⟩ u) := by
  have hr : Row w' g T (ndC n A1 c1 A2 c2 A3 c3) := gr.row h.kids.own h.var hK.pt
  exact ⟨gr.below.setCell hB u, (gr.keepT h.kids.own hK.pu).trans (keepT_set hr hK.tu j u)⟩
/-- A call wrote into another block. -/
theorem Under.but {G : Nat} {U : TypeId} {rs : Array Value} (h : Under w B T K g n A1 c1 ks A2 c2 vs A3 c3) (hb : But G w w') (hG : Row w G U rs) (hne : g ≠ G) (hKU : K ≠ U) (h5 : 5 ≠ U) (hp : 43 ≠ U) : Under w' B T K g n A1 c1 ks A2 c2 vs A3 c3 :=
  ⟨hb.row h.var hne, h.keys.keep (hb.keepT hG hKU) (hb.keepT hG h5), h.vals.keep (hb.keepT hG hKU) (hb.keepT hG h5), h.kids.keep (hb.keepT hG hp), h.apart⟩
end
theorem Rd.keepB {w w' : World} {g B : Nat} {A : Option Addr} {m c : Nat} {xs : List Int} {x : Bool} (h : Rd w g A m c xs x) (hb : Below B w w') (hg : g < B) : Rd w' g A m c xs x :=
  ⟨h.row.keepB hb hg, h.len, fun hn => by
    obtain ⟨b, o, hA, hlt, hc⟩ := h.src hn
    have := h.low hn _ hA
    have hbB : b < B := by have e : (⟨b, o, none⟩ : Addr).block = b := rfl; omega
    exact ⟨b, o, hA, Nat.lt_of_lt_of_le hlt hb.size, fun i hi => (hb.cell (p := ⟨b, o + i, none⟩) hbB).trans (hc i hi)⟩, h.cap, h.max, h.bytes, h.few, h.low⟩
/-- Block g is as it was. -/
def SameB (g : Nat) (w w' : World) : Prop := w'.heap[g]? = w.heap[g]?
instance (g : Nat) : Turns (SameB g) := ⟨fun _ => rfl, fun h k => Eq.trans k h⟩
theorem SameB.row {g : Nat} {w w' : World} {t : TypeId} {cs : Array Value} (h : SameB g w w') (hr : Row w g t cs) : Row w' g t cs := Eq.trans h hr
theorem Row.aboveB {W : World} {g : Nat} {t : TypeId} {cs : Array Value} (h : Row W g t cs) {j : Nat} {v : Value} (hv : cs[j]? = some v) : ∀ x : AboveR (SameB g) W, x.1.cell? ⟨g, j, none⟩ = some v := fun x => (SameB.row x.2 h).cell hv
theorem But.sameB {G g : Nat} {w w' : World} (h : But G w w') (hg : g < w.heap.size) (hne : g ≠ G) : SameB g w w' := h.block g hg hne
theorem Below.sameB {B g : Nat} {w w' : World} (h : Below B w w') (hg : g < B) : SameB g w w' := h.block g hg
/-- A node's bytes while they are read: the node under way, the reader, the variable for the answer. -/
structure Tk (w0 wr : World) (G N : Nat) (n : Nd) (A1 : Option Addr) (c1 : Nat) (ks : List Value) (A2 : Option Addr) (c2 : Nat) (vs : List Value) (A3 : Option Addr) (c3 : Nat) (rest : List Int) (x : Bool) : Prop where
  under : Under wr (G + 1) 26 22 N n A1 c1 ks A2 c2 vs A3 c3
  rd : RdX wr G rest x
  res : Row wr w0.heap.size 26 (ndC Nd.zero none 0 none 0 none 0)
  below : Below w0.heap.size w0 wr
  rg : w0.heap.size < G
  gn : G < N
section
variable {w0 wr w' : World} {G N : Nat} {n : Nd} {A1 : Option Addr} {c1 : Nat} {ks : List Value} {A2 : Option Addr} {c2 : Nat} {vs : List Value} {A3 : Option Addr} {c3 : Nat} {rest : List Int} {x : Bool}
theorem Tk.size (h : Tk w0 wr G N n A1 c1 ks A2 c2 vs A3 c3 rest x) : G + 1 ≤ wr.heap.size := by have := h.under.var.lt; have := h.gn; omega
theorem Tk.keep (h : Tk w0 wr G N n A1 c1 ks A2 c2 vs A3 c3 rest x) (hb : Below wr.heap.size wr w') : Tk w0 w' G N n A1 c1 ks A2 c2 vs A3 c3 rest x := by
  obtain ⟨A, m, c, hr⟩ := h.rd
  exact ⟨h.under.keep hb, ⟨A, m, c, hr.keep hb⟩, h.res.keep hb, h.below.trans (hb.mono h.below.size), h.rg, h.gn⟩
theorem Tk.but (h : Tk w0 wr G N n A1 c1 ks A2 c2 vs A3 c3 rest x) (hb : But G wr w') {rest' : List Int} {x' : Bool} (hr' : RdX w' G rest' x') : Tk w0 w' G N n A1 c1 ks A2 c2 vs A3 c3 rest' x' := by
  obtain ⟨A, m, c, hr⟩ := h.rd
  have := h.rg
  have := h.gn
  exact ⟨h.under.but hb hr.row (by omega) (by decide) (by decide) (by decide), hr', hb.row h.res (by omega), h.below.trans (hb.below (by omega) h.below.size), h.rg, h.gn⟩
theorem Tk.step (h : Tk w0 wr G N n A1 c1 ks A2 c2 vs A3 c3 rest x) (hb : Below (G + 1) wr w') {n' : Nd} {A1' : Option Addr} {c1' : Nat} {ks' : List Value} {A2' : Option Addr} {c2' : Nat} {vs' : List Value} {A3' : Option Addr} {c3' : Nat}
    (hu : Under w' (G + 1) 26 22 N n' A1' c1' ks' A2' c2' vs' A3' c3') : Tk w0 w' G N n' A1' c1' ks' A2' c2' vs' A3' c3' rest x := by
  obtain ⟨A, m, c, hr⟩ := h.rd
  have := h.rg
  exact ⟨hu, ⟨A, m, c, hr.keepB hb (by omega)⟩, h.res.keepB hb (by omega), h.below.trans (hb.mono (by omega)), h.rg, h.gn⟩
end
/-- What a node's slices hold, all of the call's own, in blocks of their types. -/
structure NdO (w : World) (B : Nat) (n : Nd) (A1 : Option Addr) (c1 : Nat) (ks : List Value) (A2 : Option Addr) (c2 : Nat) (vs : List Value) (A3 : Option Addr) (c3 : Nat) : Prop where
  keys : RowsO w B 22 A1 c1 ks n.keys
  vals : RowsO w B 22 A2 c2 vs n.vals
  kids : PtsO w B 43 A3 c3 n.kids
section
variable {w w' : World} {B : Nat} {n : Nd} {A1 : Option Addr} {c1 : Nat} {ks : List Value} {A2 : Option Addr} {c2 : Nat} {vs : List Value} {A3 : Option Addr} {c3 : Nat}
theorem NdO.at_ (h : NdO w B n A1 c1 ks A2 c2 vs A3 c3) : NdAt w n A1 c1 ks A2 c2 vs A3 c3 := ⟨h.keys.rowsAt, h.vals.rowsAt, h.kids.src, h.kids.own.cap.1, h.kids.own.cap.2⟩
theorem NdO.keep (h : NdO w B n A1 c1 ks A2 c2 vs A3 c3) (hb : Below w.heap.size w w') : NdO w' B n A1 c1 ks A2 c2 vs A3 c3 := ⟨h.keys.keep (KeepT.below hb) (KeepT.below hb), h.vals.keep (KeepT.below hb) (KeepT.below hb), h.kids.keep (KeepT.below hb)⟩
theorem NdO.only {g : Nat} {T : TypeId} {cs : Array Value} (h : NdO w B n A1 c1 ks A2 c2 vs A3 c3) (hr : Row w g T cs) (o : Only g w w') (h1 : 22 ≠ T) (h2 : 5 ≠ T) (h3 : 43 ≠ T) : NdO w' B n A1 c1 ks A2 c2 vs A3 c3 := by
  have k : ∀ U : TypeId, U ≠ T → KeepT U w w' := fun U hU => KeepT.one (by rw [o.size]; exact Nat.le_refl _) (fun j _ hj => o.block j hj) (InT.row hr) hU
  exact ⟨h.keys.keep (k _ h1) (k _ h2), h.vals.keep (k _ h1) (k _ h2), h.kids.keep (k _ h3)⟩
theorem NdO.nil (w : World) (B : Nat) : NdO w B Nd.zero none 0 [] none 0 [] none 0 := ⟨RowsO.nil w B _, RowsO.nil w B _, PtsO.nil w B _⟩
theorem Under.ndO {T : TypeId} {g : Nat} (h : Under w B T 22 g n A1 c1 ks A2 c2 vs A3 c3) : NdO w B n A1 c1 ks A2 c2 vs A3 c3 := ⟨h.keys, h.vals, h.kids⟩
end
end Lf
end Go.Proofs.Ytnoofmdhhlcbkaa

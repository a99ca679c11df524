/- Words for blocks on a disk: pieces of bytes, what waits behind a Write, a disk behind a change of one block that is none of its three; the tables below a bound. No conditions but those that stand in each lemma. -/
import Derived.Test.YtnllladoipcfkaaDoorBlkRefused
import Derived.Test.YtnllladoipcfkaaDoorPtrOf
namespace Go.Proofs.YtnllladoipcfkaaDoor
open Go.RowKit Go.Maps

/-- The tables lie below. -/
def Low (B : Nat) : Prop := 0 < B ∧ 2 < B
theorem Tabs.low {w : World} (h : Tabs w) : Low w.heap.size := ⟨h.1.1, h.2.1⟩
theorem Tabs.keepB {w w' : World} {B : Nat} (h : Tabs w) (hl : Low B) (hb : Below B w w') : Tabs w' :=
  ⟨⟨Nat.lt_of_lt_of_le h.1.1 hb.size, fun k hk => (hb.cell (p := ⟨0, k, none⟩) hl.1).trans (h.1.2 k hk)⟩, h.2.keepB hl.2 hb⟩

theorem Only.grown {g : Nat} {w w' : World} (h : Only g w w') : w.grownBy w' (some g) :=
  ⟨h.below.os, h.below.tape, h.below.output, Nat.le_of_eq h.size.symm, fun k _ hk => h.block k (by intro e; exact hk (by rw [e]))⟩
theorem Disk.grown {w w' : World} {base p B M n c k j : Nat} {ls : List (List Int)} {D : DataW Unit} {f : Bool} {l : Int} (h : Disk w base p B M n c k ls D f l) (hg : w.grownBy w' (some j)) (h1 : p ≠ j) (h2 : B ≠ j) (h3 : M ≠ j) : Disk w' base p B M n c k ls D f l :=
  ⟨h.obj.grown hg h1, h.secs.grown hg h2, h.len, h.pos, h.most, h.waits.kept (row := some j) hg (by intro e; injection e with e; exact h3 e), h.keys, h.basep, h.baseB, h.baseM⟩
theorem map_block {w w' : World} {M k : Nat} {D : DataW Unit} (h : w.ownsMap Tryd.prog 3 secR M k D) (e : w'.heap[M]? = w.heap[M]?) : w'.ownsMap Tryd.prog 3 secR M k D := by
  obtain ⟨es, clock, hb, F, hs, hD⟩ := h
  exact ⟨es, clock, e.trans hb, F, hs, hD⟩
section
variable {w w' : World} {base p B M n c k : Nat} {ls : List (List Int)} {D : DataW Unit} {f : Bool} {l : Int}
theorem Disk.blocks (h : Disk w base p B M n c k ls D f l) (e1 : w'.heap[p]? = w.heap[p]?) (e2 : w'.heap[B]? = w.heap[B]?) (e3 : w'.heap[M]? = w.heap[M]?) : Disk w' base p B M n c k ls D f l :=
  ⟨e1.trans h.obj, h.secs.block e2, h.len, h.pos, h.most, map_block h.waits e3, h.keys, h.basep, h.baseB, h.baseM⟩
theorem Disk.keepB {K : Nat} (h : Disk w base p B M n c k ls D f l) (hb : Below K w w') (h1 : p < K) (h2 : B < K) (h3 : M < K) : Disk w' base p B M n c k ls D f l := h.blocks (hb.block p h1) (hb.block B h2) (hb.block M h3)
theorem Disk.oth {q X Y : Nat} (h : Disk w base p B M n c k ls D f l) (ho : Oth q X Y w w') (h1 : p ≠ q ∧ p ≠ X ∧ p ≠ Y) (h2 : B ≠ q ∧ B ≠ X ∧ B ≠ Y) (h3 : M ≠ q ∧ M ≠ X ∧ M ≠ Y) : Disk w' base p B M n c k ls D f l :=
  h.blocks (ho.2 p h.obj.lt h1.1 h1.2.1 h1.2.2) (ho.2 B h.secs.lt h2.1 h2.2.1 h2.2.2) (ho.2 M h.waits.lt h3.1 h3.2.1 h3.2.2)
end
theorem Low.more {B C : Nat} (h : Low B) (hle : B ≤ C) : Low C := ⟨Nat.lt_of_lt_of_le h.1 hle, Nat.lt_of_lt_of_le h.2 hle⟩
theorem Oth.only {p B M g : Nat} {w w' w'' : World} (h : Oth p B M w w') (ho : Only g w' w'') (hg : w.heap.size ≤ g) : Oth p B M w w'' := h.new ho.grown hg
theorem Oth.row {p B M g : Nat} {w w' : World} {t : TypeId} {cs : Array Value} (h : Oth p B M w w') (hr : Row w g t cs) (h1 : g ≠ p) (h2 : g ≠ B) (h3 : g ≠ M) : Row w' g t cs := (h.2 g hr.lt h1 h2 h3).trans hr

/-- The bytes of piece i. -/
def chunk (xs : List Int) (i : Nat) : List Int := (xs.drop (i * 512)).take 512
theorem chunk_length (xs : List Int) (i : Nat) : (chunk xs i).length = pieceN xs.length i := by
  unfold chunk pieceN
  rw [List.length_take, List.length_drop]
  omega
theorem piece_at {n i j : Nat} (h : j < pieceN n i) : i * 512 + j < n := by unfold pieceN at h; omega
theorem pieceN_le (n i : Nat) : pieceN n i ≤ 512 := by unfold pieceN; omega
theorem chunk_le (xs : List Int) (i : Nat) : (chunk xs i).length ≤ 512 := by rw [chunk_length]; exact pieceN_le _ _
theorem chunk_src {k : IntKind} {w : World} {b o : Nat} {xs : List Int} (h : Src k w (some ⟨b, o, none⟩) xs) (i : Nat) : Src k w (some ⟨b, o + i * 512, none⟩) (chunk xs i) := fun hn => by
  rw [chunk_length] at hn
  have hi : i * 512 < xs.length := by unfold pieceN at hn; omega
  obtain ⟨b', o', e, hlt, hc⟩ := h (by omega)
  injection e with e
  injection e with e1 e2 _
  subst e1; subst e2
  refine ⟨b, o + i * 512, rfl, hlt, fun j hj => ?_⟩
  rw [chunk_length] at hj
  have hj2 := piece_at hj
  have hj3 : j < 512 := Nat.lt_of_lt_of_le hj (pieceN_le _ _)
  rw [Nat.add_assoc, hc _ hj2]
  unfold chunk
  rw [List.getD_eq_getElem?_getD, List.getD_eq_getElem?_getD, List.getElem?_take, if_pos hj3, List.getElem?_drop]
/-- What waits behind the first j pieces. -/
def putsD (D : DataW Unit) (at_ : Int) (xs : List Int) : Nat → DataW Unit
  | 0 => D
  | j + 1 => (putsD D at_ xs j).put (.int .i64 (at_ + j)) (secD (padS (chunk xs j)))
theorem secs_nat (n : Nat) : ∃ m : Nat, secsOf n = (m : Int) ∧ m ≤ 128 := ⟨(secsOf n).toNat, by have := secs_bounds n; omega, by have := secs_bounds n; omega⟩
theorem secs_of {n m : Nat} (h : secsOf n = (m : Int)) (h1 : 1 ≤ n) (h2 : n ≤ 65536) : (n + 511) / 512 = m := by
  unfold secsOf lenOk at h
  rw [if_pos (by simp; omega)] at h
  omega
theorem fits_right {p : Pt} {n : Nat} (h : fitsI p n = 0) : p.right = true ∧ p.place + secsOf p.len ≤ n := by
  unfold fitsI at h
  split at h
  · assumption
  · cases h
theorem right_len {p : Pt} (h : p.right = true) : 1 ≤ p.len ∧ p.len ≤ 65536 := by
  unfold Pt.right at h
  have := of_decide_eq_true h
  exact ⟨this.1, this.2.1⟩
end Go.Proofs.YtnllladoipcfkaaDoor

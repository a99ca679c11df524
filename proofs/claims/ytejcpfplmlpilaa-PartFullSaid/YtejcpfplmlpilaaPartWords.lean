/- Slices of ints in memory: one of the call's own; what the greedy way knows ahead of a place. No conditions but those that stand in each lemma. -/
import Derived.Test.YtejcpfplmlpilaaElC
import Derived.Test.YtejcpfplmlpilaaNumsIn
import Derived.Test.YtejcpfplmlpilaaPartNums
namespace Go.Proofs.Ytejcpfplmlpilaa
open Go.RowKit
namespace Part

def iCells (l : List Int) : List Value := l.map (Value.int .i64)
theorem iCells_length (l : List Int) : (iCells l).length = l.length := by simp [iCells]
theorem iCells_at (l : List Int) (j : Nat) (hj : j < l.length) : (iCells l)[j]? = some (.int .i64 (l.getD j 0)) := by
  simp [iCells, List.getD_eq_getElem?_getD, List.getElem?_eq_getElem hj]
/-- A slice of the call's own, from block B on, that holds the numbers l. -/
def IOwn (w : World) (B : Nat) (A : Option Addr) (c n : Nat) (l : List Int) : Prop := n = l.length ∧ Els.COwn w B 3 1 A c n (iCells l)
section
variable {w w' : World} {A : Option Addr} {l : List Int} {B c n : Nat}
theorem IOwn.src (h : IOwn w B A c n l) : NumSrc w A l := fun hn => by
  obtain ⟨g, cap, hv, _, hlt⟩ := World.ownsRow.form h.2 (by rw [h.1]; exact hn)
  have hA : A = some ⟨g, 0, none⟩ := by injection hv
  subst hA
  refine ⟨g, 0, rfl, hlt, fun i hi => ?_⟩
  rw [← Els.add_addr]
  exact World.ownsRow.cells h.2 (g := g) rfl _ _ (iCells_at l i hi)
theorem IOwn.keep (h : IOwn w B A c n l) (hb : Below w.heap.size w w') : IOwn w' B A c n l := ⟨h.1, h.2.keep hb⟩
theorem IOwn.more {B' : Nat} (h : IOwn w B A c n l) (hB : B' ≤ B) : IOwn w B' A c n l := ⟨h.1, h.2.more hB⟩
theorem IOwn.nil (w : World) (B : Nat) : IOwn w B none 0 0 [] := ⟨rfl, Els.cown_nil w B _ 1⟩
theorem IOwn.made (w : World) (B : Nat) (hB : B ≤ w.heap.size) : IOwn (w.alloc (.cells #[] 3)) B (some ⟨w.heap.size, 0, none⟩) 0 0 [] := ⟨rfl, Els.cown_made w B _ 1 hB⟩
end
/-- An answer that is a slice of the call's own. -/
def GivesI (w : World) (l : List Int) (e : Ending) (w' : World) : Prop := ∃ A n c, e = .returned (.slice A n c) ∧ IOwn w' w.heap.size A c n l ∧ Below w.heap.size w w'
theorem elI : Els.ElTypes Try.prog 22 3 (.int .i64 0) 1 8 := ⟨Try.underlying22, by kernel_rfl⟩
/-- Numbers of places as ints. -/
def natI (l : List Nat) : List Int := l.map Int.ofNat
theorem natI_append (l m : List Nat) : natI (l ++ m) = natI l ++ natI m := by simp [natI]
theorem natI_length (l : List Nat) : (natI l).length = l.length := by simp [natI]
theorem natI_at (l : List Nat) (j : Nat) : (natI l).getD j 0 = (l.getD j 0 : Nat) := by
  simp only [natI, List.getD_eq_getElem?_getD, List.getElem?_map]
  cases l[j]? <;> rfl
theorem natI_inj {l m : List Nat} (h : natI l = natI m) : l = m := by
  induction l generalizing m with
  | nil => cases m with
    | nil => rfl
    | cons y m => cases h
  | cons x l ih => cases m with
    | nil => cases h
    | cons y m =>
      simp only [natI, List.map_cons, List.cons.injEq] at h
      rw [ih h.2, Int.ofNat_inj.1 h.1]
/-- One number onto a slice of the call's own. -/
theorem wpList_append_i {w : World} {ops : Array Oper} {rest : List Oper} {o : Oper} {a : Act} {Q : Exit → Act → World → Prop} (hgd : o.guard = none) (s x : Operand)
    (ho : o.op = .call { callee := .builtin .append, args := #[s, x], argTypes := #[22, 22] })
    (B : Nat) (A : Option Addr) (n c : Nat) (l : List Int) (ea : a.eval s = .slice A n c) (hown : IOwn w B A c n l)
    (g d : Nat) (x0 : Int) (ex : a.eval x = .slice (some ⟨g, 0, none⟩) 1 d) (hs : Row w g 3 #[.int .i64 x0]) (hlen : n ≤ 900000) (hB : B ≤ w.heap.size)
    (h : ∀ A' c' w', IOwn w' B A' c' (n + 1) (l ++ [x0]) → Below B w w' → w.heap.size ≤ w'.heap.size → wpList Try.prog ops Q rest (a.put o.dst (.slice A' (n + 1) c')) w') : wpList Try.prog ops Q (o :: rest) a w := by
  refine Els.wpList_append_cells elI rfl (by decide) (by decide) hgd s x ho B A n c (iCells l) ea hown.2 _ 1 d _ ex (by rfl) (Els.csrc_row hs) (fun u hu => ?_) (by decide) (by omega) hB (fun A' c' w' hg => ?_)
  · obtain rfl : u = .int .i64 x0 := by simpa using hu
    rfl
  · exact h A' c' w' ⟨by rw [List.length_append]; have := hown.1; simp; omega, by have := hg.own; unfold iCells at this ⊢; simpa using this⟩ hg.below hg.size

/-- Ahead of the place k: where pieces ended, and the sum of the one under way. -/
def G (b : Int) (l : List Int) (k : Nat) : List Nat × Int := if k = 0 then ([], 0) else gst b l (k - 1)
/-- All sizes from 0 to a bound. -/
def Sized (l : List Int) (b : Int) : Prop := ∀ i, 0 ≤ l.getD i 0 ∧ l.getD i 0 ≤ b
section
variable {b : Int} {l : List Int}
theorem Sized.pos (h : Sized l b) : ∀ i, 0 ≤ l.getD i 0 := fun i => (h i).1
theorem Sized.top (h : Sized l b) : ∀ i, l.getD i 0 ≤ b := fun i => (h i).2
theorem G_zero (b : Int) (l : List Int) : G b l 0 = ([], 0) := rfl
theorem G_last (b : Int) (l : List Int) (m : Nat) : G b l (m + 1) = gst b l m := rfl
theorem G_cut (h : Sized l b) (k : Nat) (hc : b < (G b l k).2 + l.getD k 0) : G b l (k + 1) = ((G b l k).1 ++ [k], l.getD k 0) := by
  cases k with
  | zero => have := (h 0).2; rw [G_zero] at hc; simp only at hc; omega
  | succ k => rw [G_last, G_last] at *; exact gst_cut b l k hc
theorem G_on (k : Nat) (hc : ¬ b < (G b l k).2 + l.getD k 0) : G b l (k + 1) = ((G b l k).1, (G b l k).2 + l.getD k 0) := by
  cases k with
  | zero => rw [G_last, G_zero]; simp [gst]
  | succ k => rw [G_last, G_last] at *; exact gst_on b l k hc
theorem G_sum (h : Sized l b) (k : Nat) : 0 ≤ (G b l k).2 ∧ (G b l k).2 ≤ b := by
  have h0 := h 0
  cases k with
  | zero => rw [G_zero]; simp only; omega
  | succ k =>
    rw [G_last]
    refine ⟨?_, (gst_pieces b l h.top k).2.2.2⟩
    rw [← (st_gst b l k).2]
    have h1 := (st_sum (gcut b l) l h.pos k).1
    have h2 := (h k).1
    omega
theorem G_len (k : Nat) : (G b l k).1.length ≤ k := by
  cases k with
  | zero => exact Nat.le_refl _
  | succ k =>
    rw [G_last]
    have h1 := (st_gst b l k).1
    have h2 := st_few (gcut b l) l k
    unfold many at h1
    omega
theorem G_ends (m : Nat) : (G b l (m + 1)).1 ++ [m + 1] = ends b l m := rfl
end
end Part
end Go.Proofs.Ytejcpfplmlpilaa

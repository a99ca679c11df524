/- A disk in memory; what its small methods answer. No conditions but those that stand in each lemma. -/
import Derived.Test.YtnllladoipcfkaaDoorSec
namespace Go.Proofs.YtnllladoipcfkaaDoor
open Go.RowKit Go.Maps

/-- The disk at block p: its sectors ls in block B, what waits in block M (at most k entries, which read as D), the fuse. All three lie from block base on. -/
structure Disk (w : World) (base p B M n c k : Nat) (ls : List (List Int)) (D : DataW Unit) (f : Bool) (l : Int) : Prop where
  obj : Row w p 45 (dcells (some ⟨B, 0, none⟩) n c (some M) f l)
  secs : Secs w B ls
  len : ls.length = n
  pos : 1 ≤ n
  most : n ≤ 8192
  waits : w.ownsMap Tryd.prog 3 secR M k D
  keys : ∀ x : Int, has D (.int .i64 x) = true → 0 ≤ x ∧ x < n
  basep : base ≤ p
  baseB : base ≤ B
  baseM : base ≤ M
section
variable {w w' : World} {base p B M n c k : Nat} {ls : List (List Int)} {D : DataW Unit} {f : Bool} {l : Int}
theorem Disk.neB (h : Disk w base p B M n c k ls D f l) : p ≠ B := by
  rintro rfl
  obtain ⟨_, zs, hr⟩ := h.secs
  have h1 := h.obj
  have h2 := h.len
  have h3 := h.pos
  unfold Row at h1 hr
  rw [h1] at hr
  injection hr with hr
  injection hr with _ h47
  cases h47
theorem map_ne_row {g t : Nat} {cs : Array Value} (h : w.ownsMap Tryd.prog 3 secR M k D) (hr : Row w g t cs) : g ≠ M := by
  rintro rfl
  obtain ⟨es, clock, hb, _⟩ := h
  unfold Row at hr
  rw [hb] at hr
  cases hr
theorem Disk.neM (h : Disk w base p B M n c k ls D f l) : p ≠ M := map_ne_row h.waits h.obj
theorem Disk.neBM (h : Disk w base p B M n c k ls D f l) : B ≠ M := by obtain ⟨_, zs, hr⟩ := h.secs; exact map_ne_row h.waits hr
theorem map_keep (h : w.ownsMap Tryd.prog 3 secR M k D) (hb : Below w.heap.size w w') : w'.ownsMap Tryd.prog 3 secR M k D :=
  h.kept (row := none) ⟨hb.os, hb.tape, hb.output, hb.size, fun i hi _ => hb.block i hi⟩ (by simp)
theorem Disk.keep (h : Disk w base p B M n c k ls D f l) (hb : Below w.heap.size w w') : Disk w' base p B M n c k ls D f l :=
  ⟨h.obj.keep hb, h.secs.keep hb, h.len, h.pos, h.most, map_keep h.waits hb, h.keys, h.basep, h.baseB, h.baseM⟩
theorem Disk.c0 (h : Disk w base p B M n c k ls D f l) : w.cell? ⟨p, 0, none⟩ = some (.slice (some ⟨B, 0, none⟩) n c) := h.obj.cell rfl
theorem Disk.c1 (h : Disk w base p B M n c k ls D f l) : w.cell? ⟨p, 1, none⟩ = some (.map (some M)) := h.obj.cell rfl
theorem Disk.c2 (h : Disk w base p B M n c k ls D f l) : w.cell? ⟨p, 2, none⟩ = some (.bool f) := h.obj.cell rfl
theorem Disk.c3 (h : Disk w base p B M n c k ls D f l) : w.cell? ⟨p, 3, none⟩ = some (.int .i64 l) := h.obj.cell rfl
theorem setCell_map (h : w.ownsMap Tryd.prog 3 secR M k D) {g : Nat} (hg : M ≠ g) (j : Nat) (v : Value) : (w.setCell ⟨g, j, none⟩ v).ownsMap Tryd.prog 3 secR M k D := h.setCell hg v
theorem Disk.setFuse (h : Disk w base p B M n c k ls D f l) (f' : Bool) : Disk (w.setCell ⟨p, 2, none⟩ (.bool f')) base p B M n c k ls D f' l :=
  ⟨h.obj.set 2 _, h.secs.block (heap_setCell_other w ⟨p, 2, none⟩ B _ h.neB.symm), h.len, h.pos, h.most, setCell_map h.waits h.neM.symm _ _, h.keys, h.basep, h.baseB, h.baseM⟩
theorem Disk.setLeft (h : Disk w base p B M n c k ls D f l) (l' : Int) : Disk (w.setCell ⟨p, 3, none⟩ (.int .i64 l')) base p B M n c k ls D f l' :=
  ⟨h.obj.set 3 _, h.secs.block (heap_setCell_other w ⟨p, 3, none⟩ B _ h.neB.symm), h.len, h.pos, h.most, setCell_map h.waits h.neM.symm _ _, h.keys, h.basep, h.baseB, h.baseM⟩
end

theorem disk_some {w : World} {base p B M n c k : Nat} {ls : List (List Int)} {D : DataW Unit} {f : Bool} {l : Int} (h : Disk w base p B M n c k ls D f l) :
    Calls Tryd.prog 25 #[.pointer (some ⟨p, 0, none⟩)] w fun e w' => e = .returned (.bool false) ∧ w' = w := by
  have c0 := h.c0
  have hn : ((n : Int) == 0) = false := by have := h.pos; simp; omega
  have hn' : ¬ n = 0 := by have := h.pos; omega
  go_enter Tryd.func25, Tryd.ntmps25
  go_wp2_with fail
  go_ret
  exact ⟨rfl, rfl⟩
theorem disk_has {w : World} {base p B M n c k : Nat} {ls : List (List Int)} {D : DataW Unit} {f : Bool} {l : Int} (h : Disk w base p B M n c k ls D f l) (x : Int) :
    Calls Tryd.prog 26 #[.pointer (some ⟨p, 0, none⟩), .int .i64 x] w fun e w' => e = .returned (.int .i64 (if 0 ≤ x ∧ x < n then 0 else 2)) ∧ w' = w := by
  have c0 := h.c0
  by_cases h1 : x < 0
  · rw [if_neg (by omega)]
    go_enter Tryd.func26, Tryd.ntmps26
    go_wp2_with fail
    refine (disk_some h).mono ?_
    rintro e w1 ⟨rfl, rfl⟩
    go_wp2_with fail
    go_ret
    exact ⟨rfl, rfl⟩
  · by_cases h2 : x < (n : Int)
    · rw [if_pos (by omega)]
      have h3 : ¬ ((n : Int) ≤ x) := by omega
      go_enter Tryd.func26, Tryd.ntmps26
      go_wp2_with fail
      refine (disk_some h).mono ?_
      rintro e w1 ⟨rfl, rfl⟩
      go_wp2_with fail
      go_ret
      exact ⟨rfl, rfl⟩
    · rw [if_neg (by omega)]
      have h3 : (n : Int) ≤ x := by omega
      go_enter Tryd.func26, Tryd.ntmps26
      go_wp2_with fail
      refine (disk_some h).mono ?_
      rintro e w1 ⟨rfl, rfl⟩
      go_wp2_with fail
      go_ret
      exact ⟨rfl, rfl⟩
theorem disk_waiting {w : World} {base p B M n c k : Nat} {ls : List (List Int)} {D : DataW Unit} {f : Bool} {l : Int} (h : Disk w base p B M n c k ls D f l) :
    Calls Tryd.prog 12 #[.pointer (some ⟨p, 0, none⟩)] w fun e w' => e = .returned (.int .i64 (Maps.size D)) ∧ w' = w := by
  have c1 := h.c1
  have hl := fun ty => h.waits.len (t := 43) (e := 62) Tryd.underlying43 ty
  go_enter Tryd.func12, Tryd.ntmps12
  go_wp2_with fail
  refine (disk_some h).mono ?_
  rintro e w1 ⟨rfl, rfl⟩
  go_wp2_with fail
  go_ret
  exact ⟨rfl, rfl⟩
theorem disk_isCut {w : World} {base p B M n c k : Nat} {ls : List (List Int)} {D : DataW Unit} {f : Bool} {l : Int} (h : Disk w base p B M n c k ls D f l) :
    Calls Tryd.prog 41 #[.pointer (some ⟨p, 0, none⟩)] w fun e w' => e = .returned (.bool (f && (l == 0))) ∧ w' = w := by
  have c2 := h.c2
  have c3 := h.c3
  cases f
  · go_enter Tryd.func41, Tryd.ntmps41
    go_wp2_with fail
    go_ret
    exact ⟨rfl, rfl⟩
  · go_enter Tryd.func41, Tryd.ntmps41
    go_wp2_with fail
    go_ret
    exact ⟨by simp, rfl⟩
theorem cell_heap {w w' : World} {b : Nat} (h : w'.heap[b]? = w.heap[b]?) (o : Nat) : w'.cell? ⟨b, o, none⟩ = w.cell? ⟨b, o, none⟩ := by
  unfold World.cell?
  rw [h]
/-- All blocks that were there, but for these three, are as they were. -/
def Oth (p B M : Nat) (w w' : World) : Prop := w.heap.size ≤ w'.heap.size ∧ ∀ b, b < w.heap.size → b ≠ p → b ≠ B → b ≠ M → w'.heap[b]? = w.heap[b]?
section
variable {p B M : Nat} {w w' w'' : World}
theorem Oth.refl (w : World) : Oth p B M w w := ⟨Nat.le_refl _, fun _ _ _ _ _ => rfl⟩
theorem Oth.trans (h : Oth p B M w w') (k : Oth p B M w' w'') : Oth p B M w w'' :=
  ⟨Nat.le_trans h.1 k.1, fun b hb h1 h2 h3 => (k.2 b (Nat.lt_of_lt_of_le hb h.1) h1 h2 h3).trans (h.2 b hb h1 h2 h3)⟩
theorem Oth.below (h : Below w.heap.size w w') : Oth p B M w w' := ⟨h.size, fun b hb _ _ _ => h.block b hb⟩
theorem Oth.grown {j : Nat} (h : w.grownBy w' (some j)) (hj : j = p ∨ j = B ∨ j = M) : Oth p B M w w' :=
  ⟨h.size, fun b hb h1 h2 h3 => h.block b hb (by intro e; injection e with e; omega)⟩
theorem Oth.new {j : Nat} (k : Oth p B M w w') (h : w'.grownBy w'' (some j)) (hj : w.heap.size ≤ j) : Oth p B M w w'' :=
  ⟨Nat.le_trans k.1 h.size, fun b hb h1 h2 h3 => (h.block b (Nat.lt_of_lt_of_le hb k.1) (by intro e; injection e with e; omega)).trans (k.2 b hb h1 h2 h3)⟩
theorem Oth.src {k : IntKind} {A : Option Addr} {xs : List Int} (h : Oth p B M w w') (hs : Src k w A xs) (hA : ∀ a, A = some a → a.block ≠ p ∧ a.block ≠ B ∧ a.block ≠ M) : Src k w' A xs := fun hn => by
  obtain ⟨b, o, rfl, hlt, hc⟩ := hs hn
  obtain ⟨h1, h2, h3⟩ := hA _ rfl
  exact ⟨b, o, rfl, Nat.lt_of_lt_of_le hlt h.1, fun i hi => (cell_heap (h.2 b hlt h1 h2 h3) _).trans (hc i hi)⟩
end
/-- What is left of the power for one write or flush. -/
def spentL (f : Bool) (l : Int) : Int := if f then l - 1 else l
theorem disk_spend {w : World} {base p B M n c k : Nat} {ls : List (List Int)} {D : DataW Unit} {f : Bool} {l : Int} (h : Disk w base p B M n c k ls D f l) (h0 : 0 ≤ l) (h1 : l ≤ 1000) :
    Calls Tryd.prog 27 #[.pointer (some ⟨p, 0, none⟩)] w fun e w' => ((f && (l == 0)) = true ∧ e = .returned (.bool false) ∧ w' = w) ∨
      ((f && (l == 0)) = false ∧ e = .returned (.bool true) ∧ Below base w w' ∧ w'.heap.size = w.heap.size ∧ Disk w' base p B M n c k ls D f (spentL f l) ∧ ∀ b, b ≠ p → w'.heap[b]? = w.heap[b]?) := by
  have c2 := h.c2
  have c3 := h.c3
  cases f
  · go_enter Tryd.func27, Tryd.ntmps27
    go_wp2_with fail
    refine (disk_isCut h).mono ?_
    rintro e w1 ⟨rfl, rfl⟩
    go_wp2_with fail
    go_ret
    exact .inr ⟨rfl, rfl, Below.refl _ _, rfl, h, fun _ _ => rfl⟩
  · by_cases hl : l = 0
    · subst hl
      go_enter Tryd.func27, Tryd.ntmps27
      go_wp2_with fail
      refine (disk_isCut h).mono ?_
      rintro e w1 ⟨rfl, rfl⟩
      go_wp2_with fail
      go_ret
      exact .inl ⟨rfl, rfl, rfl⟩
    · have e0 : (true && (l == 0)) = false := by simpa using hl
      have fr := h.obj.free 3
      have hw : IntKind.i64.wrap (l - 1) = l - 1 := IntWalk.i64_in _ (by omega)
      go_enter Tryd.func27, Tryd.ntmps27
      go_wp2_with fail
      refine (disk_isCut h).mono ?_
      rintro e w1 ⟨rfl, rfl⟩
      rw [e0]
      go_wp2_with fail
      go_ret
      exact .inr ⟨e0, rfl, (Below.refl _ _).setCell (p := ⟨p, 3, none⟩) h.basep _, by simp [World.setCell], h.setLeft (l - 1), fun b hb => heap_setCell_other w1 ⟨p, 3, none⟩ b _ hb⟩
end Go.Proofs.YtnllladoipcfkaaDoor

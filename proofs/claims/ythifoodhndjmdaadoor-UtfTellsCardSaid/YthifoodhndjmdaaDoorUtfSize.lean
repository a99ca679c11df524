/- How many bytes a character has, and of how many a byte would be the first: by the program's two tables. Nothing is written. Conditions: the tables lie where they were laid (Tab). -/
import Derived.Test.YthifoodhndjmdaaDoorUtfPlain
import Derived.Test.YthifoodhndjmdaaDoorCells
namespace Go.Proofs.YthifoodhndjmdaaDoor
open Go.RowKit
namespace Utf

/-- An element of an array that is a value. -/
theorem run_index_array {P : Program} (w : World) (t e : TypeId) (n : Nat) (d : TypeDesc) (cs : Array Value) (k : Nat) (v : Value) (hu : P.underlying t = some (.array n e)) (he : P.underlying e = some d)
    (hd : (match d with | .struct _ | .array _ _ => true | _ => false) = false) (hz : (P.info? e).map (·.size) = some 1) (hk : k < n) (hv : cs[k]? = some v) :
    (Instr.index t (.agg cs) (.int .i64 (k : Int))).run P w = .ok v w := by
  cases hq : P.info? e with
  | none => simp [hq] at hz
  | some i =>
    have hs : i.size = 1 := by simpa [hq] using hz
    have hagg : (isAgg e).run P w = .ok false w := by
      unfold isAgg
      rw [Sem.run_bind, run_underlying he w]
      cases d <;> simp_all
    have hk' : (0 : Int) ≤ (k : Int) ∧ (k : Int) < (n : Int) := by omega
    have ha : (asIntOf (.int .i64 (k : Int))).run P w = .ok (.i64, (k : Int)) w := by simp [asIntOf]
    unfold Instr.index
    simp only [Sem.run_bind, ha, Result.andThen_ok, run_underlying hu w]
    rw [if_pos hk']
    simp [sizeOf, typeInfo, hq, hs, part, hagg, hv]

/-- The last characters of one byte, two, three, four. -/
def lastI : Nat → Int
  | 0 => 127
  | 1 => 2047
  | 2 => 65535
  | _ => 1114111
def lastC : Array Value := #[.int .i32 (lastI 0), .int .i32 (lastI 1), .int .i32 (lastI 2), .int .i32 (lastI 3)]
theorem lastC_at (k : Nat) (h : k < 4) : lastC[k]? = some (.int .i32 (lastI k)) := by
  rcases (show k = 0 ∨ k = 1 ∨ k = 2 ∨ k = 3 by omega) with rfl | rfl | rfl | rfl <;> rfl
theorem mark_le (k : Nat) : 0 ≤ markI k ∧ markI k < 256 := by
  match k with
  | 0 => exact ⟨by decide, by decide⟩
  | 1 => exact ⟨by decide, by decide⟩
  | 2 => exact ⟨by decide, by decide⟩
  | _ + 3 => exact ⟨by show (0 : Int) ≤ 240; omega, by show (240 : Int) < 256; omega⟩
theorem last_le (k : Nat) : 0 ≤ lastI k ∧ lastI k ≤ 1114111 := by
  match k with
  | 0 => exact ⟨by decide, by decide⟩
  | 1 => exact ⟨by decide, by decide⟩
  | 2 => exact ⟨by decide, by decide⟩
  | _ + 3 => exact ⟨by show (0 : Int) ≤ 1114111; omega, by show (1114111 : Int) ≤ 1114111; omega⟩

/-- The program's two tables lie where they were laid. -/
def Tab (w : World) : Prop := (1 < w.heap.size ∧ 0 < w.heap.size) ∧ Cells w 1 0 lastC ∧ ∀ k, k < 4 → w.cell? ⟨0, k, none⟩ = some (.int .u8 (markI k))
theorem Tab.keep {w w' : World} (h : Tab w) (hb : Below w.heap.size w w') : Tab w' :=
  ⟨⟨by have := hb.size; have := h.1.1; omega, by have := hb.size; have := h.1.2; omega⟩, h.2.1.keep hb h.1.1, fun k hk => (hb.cell (p := ⟨0, k, none⟩) h.1.2).trans (h.2.2 k hk)⟩
theorem Tab.keepB {B : Nat} {w w' : World} (h : Tab w) (hB : 1 < B ∧ 0 < B) (hb : Below B w w') : Tab w' :=
  ⟨⟨by have := hb.size; have := h.1.1; omega, by have := hb.size; have := h.1.2; omega⟩, h.2.1.keep hb hB.1, fun k hk => (hb.cell (p := ⟨0, k, none⟩) hB.2).trans (h.2.2 k hk)⟩

theorem size_first {c : Int} {k : Nat} (h0 : 0 ≤ c) (hh : ¬ (55296 ≤ c ∧ c ≤ 57343)) (hk : k < 4) (hp : ∀ j, j < k → lastI j < c) (hl : c ≤ lastI k) : sizeI c = k + 1 := by
  have l3 : c ≤ 1114111 := by have := (last_le k).2; omega
  unfold sizeI
  rw [if_neg (by omega)]
  rcases (show k = 0 ∨ k = 1 ∨ k = 2 ∨ k = 3 by omega) with rfl | rfl | rfl | rfl
  · rw [if_pos (show c ≤ 127 from hl)]
  · have := hp 0 (by omega)
    rw [if_neg (show ¬ c ≤ 127 by simp only [lastI] at this; omega), if_pos (show c ≤ 2047 from hl)]
  · have h1 := hp 1 (by omega)
    simp only [lastI] at h1
    rw [if_neg (by omega), if_neg (by omega), if_pos (show c ≤ 65535 from hl)]
  · have h1 := hp 2 (by omega)
    simp only [lastI] at h1
    rw [if_neg (by omega), if_neg (by omega), if_neg (by omega)]
theorem size_out {c : Int} (hp : ∀ j, j < 4 → lastI j < c) : sizeI c = 0 := by
  have := hp 3 (by omega)
  simp only [lastI] at this
  unfold sizeI
  rw [if_pos (by omega)]
theorem Tryd.size_lasts : (Tryd.prog.info? 38).map (·.size) = some 4 := by kernel_rfl
theorem Tryd.one_rune : (Tryd.prog.info? 21).map (·.size) = some 1 := by kernel_rfl

/-- At a round's head: the character is beyond the first k. -/
def SzAt (c : Int) (i : Value) : Prop := ∃ k : Nat, k ≤ 4 ∧ i = .int .i64 (k : Int) ∧ ∀ j, j < k → lastI j < c
set_option maxRecDepth 100000 in
set_option maxHeartbeats 1000000 in
theorem size_any (c : Int) (w : World) (ht : Tab w) : Calls Tryd.prog 18 #[.int .i32 c] w fun e w' => e = .returned (.int .i64 (sizeI c)) ∧ w' = w := by
  have Ht := Lib.hid ht
  clear ht
  by_cases h0 : c < 0
  · have HE := Lib.hid (show sizeI c = 0 by unfold sizeI; rw [if_pos (by omega)])
    go_enter Tryd.func18, Tryd.ntmps18
    go_wp2_with fail
    go_ret
    exact ⟨by rw [HE.out]; rfl, rfl⟩
  by_cases h1 : 55296 ≤ c ∧ c ≤ 57343
  · have HE := Lib.hid (show sizeI c = 0 by unfold sizeI; rw [if_pos (by omega)])
    obtain ⟨h2, h3⟩ := h1
    go_enter Tryd.func18, Tryd.ntmps18
    go_wp2_with fail
    go_ret
    exact ⟨by rw [HE.out]; rfl, rfl⟩
  have HS := Lib.hid (fun k => size_first (c := c) (k := k) (by omega) h1)
  have HO := Lib.hid (size_out (c := c))
  have hc := Ht.out.2.1
  have hor : c < 55296 ∨ 57343 < c := by omega
  clear h1
  rcases hor with hor | hor
  all_goals
    go_enter Tryd.func18, Tryd.ntmps18
    go_wp2_with (refine wpList_load_cells rfl 38 (.global 1) rfl 1 0 rfl lastC _ hc Tryd.underlying38 rfl (by rw [Tryd.size_lasts]; rfl) ?_)
    go_loopw [16] (fun i wr => SzAt c i ∧ wr = w) (fun i _ => 4 - (intOf i).toNat)
    case atStart => exact ⟨⟨0, by omega, rfl, fun j hj => absurd hj (by omega)⟩, rfl⟩
    case round =>
      obtain ⟨⟨k, hk, rfl, hp⟩, rfl⟩ := hrel
      have HP := Lib.hid hp
      clear hp
      by_cases hlt : k < 4
      · have ik := fun w' => run_index_array (P := Tryd.prog) w' 38 21 4 _ lastC k _ Tryd.underlying38 Tryd.underlying21 rfl Tryd.one_rune hlt (lastC_at k hlt)
        have hkl : (k : Int) < 4 := by omega
        have lb := last_le k
        have HS1 := Lib.hid (HS.out k hlt HP.out)
        have HN := Lib.hid (fun (hn : lastI k < c) (j : Nat) (hj : j < k + 1) => (show lastI j < c by
          rcases Nat.lt_succ_iff_lt_or_eq.1 hj with h | rfl
          · exact HP.out j h
          · exact hn))
        generalize lastI k = l at *
        by_cases hcl : c ≤ l
        · go_wp2_with fail
          go_ret
          exact ⟨by rw [HS1.out hcl]; simp, rfl⟩
        · go_wp2_with fail
          refine ⟨⟨⟨k + 1, by omega, by go_num, HN.out (by omega)⟩, trivial⟩, by simp [intOf]; omega⟩
      · obtain rfl : k = 4 := by omega
        rw [show ((4 : Nat) : Int) = (4 : Int) from rfl]
        go_wp2_with fail
        go_ret
        exact ⟨by rw [HO.out HP.out]; rfl, rfl⟩

/-- At a round's head: the byte is none of the first marks' below k + 1. -/
def BgAt (x : Int) (i : Value) : Prop := ∃ k : Nat, 1 ≤ k ∧ k ≤ 4 ∧ i = .int .i64 (k : Int) ∧ (k = 1 ∨ markI (k - 1) ≤ x)
theorem more_at {x : Int} {k : Nat} (h : 1 ≤ k ∧ k ≤ 4) (hp : k = 1 ∨ markI (k - 1) ≤ x) (hn : k = 4 ∨ x < markI k) : moreI x + 1 = k := by
  rcases (show k = 1 ∨ k = 2 ∨ k = 3 ∨ k = 4 by omega) with rfl | rfl | rfl | rfl
  · have : x < 192 := hn.resolve_left (by omega)
    unfold moreI; rw [if_pos this]
  · have h1 : 192 ≤ x := hp.resolve_left (by omega)
    have h2 : x < 224 := hn.resolve_left (by omega)
    unfold moreI; rw [if_neg (by omega), if_pos h2]
  · have h1 : 224 ≤ x := hp.resolve_left (by omega)
    have h2 : x < 240 := hn.resolve_left (by omega)
    unfold moreI; rw [if_neg (by omega), if_neg (by omega), if_pos h2]
  · have h1 : 240 ≤ x := hp.resolve_left (by omega)
    unfold moreI; rw [if_neg (by omega), if_neg (by omega), if_neg (by omega)]
set_option maxRecDepth 100000 in
set_option maxHeartbeats 1000000 in
theorem begun_any (x : Int) (w : World) (ht : Tab w) : Calls Tryd.prog 16 #[.int .u8 x] w fun e w' => e = .returned (.int .i64 ((moreI x : Int) + 1)) ∧ w' = w := by
  have HC := Lib.hid ht.2.2
  clear ht
  go_enter Tryd.func16, Tryd.ntmps16
  go_wp2_with fail
  go_loopw [3] (fun i wr => BgAt x i ∧ wr = w) (fun i _ => 4 - (intOf i).toNat)
  case atStart => exact ⟨⟨1, by omega, by omega, rfl, .inl rfl⟩, rfl⟩
  case round =>
    obtain ⟨⟨k, hk1, hk, rfl, hp⟩, rfl⟩ := hrel
    have HP := Lib.hid hp
    clear hp
    by_cases hlt : k < 4
    · have ck := HC.out k hlt
      have hkl : (k : Int) < 4 := by omega
      have HS1 := Lib.hid (fun h => (show (moreI x : Int) + 1 = (k : Int) by have := more_at (x := x) (k := k) (by omega) HP.out h; omega))
      have HM := Lib.hid (show (k + 1 : Nat) - 1 = k from rfl)
      obtain ⟨l, el⟩ : ∃ l, markI k = l := ⟨_, rfl⟩
      rw [el] at ck HS1
      have EL := Lib.hid el
      clear el
      by_cases hcl : l ≤ x
      · go_wp2_with fail
        refine ⟨⟨⟨k + 1, by omega, by omega, by go_num, .inr (by rw [HM.out, EL.out]; exact hcl)⟩, trivial⟩, by simp [intOf]; omega⟩
      · go_wp2_with fail
        go_ret
        exact ⟨by rw [HS1.out (.inr (by omega))]; rfl, rfl⟩
    · obtain rfl : k = 4 := by omega
      have HS1 := Lib.hid (show (moreI x : Int) + 1 = 4 by have := more_at (x := x) (k := 4) (by omega) HP.out (.inl rfl); omega)
      rw [show ((4 : Nat) : Int) = (4 : Int) from rfl]
      go_wp2_with fail
      go_ret
      exact ⟨by rw [HS1.out]; rfl, rfl⟩
end Utf
end Go.Proofs.YthifoodhndjmdaaDoor

/- The document's primes: the first n of the first 64, as a row of the call's own. | The document's constants and its first state are the program's tables. -/
import Derived.Test.YtbhcikahemhfmaaDoorShaPower

namespace Go.Proofs.YtbhcikahemhfmaaDoor.Sha3
open Go.RowKit

/-- The primes below p. -/
def outAt (p : Nat) : List Int := primesL.filter fun q => decide (q < (p : Int))
def noneOf (p : Int) (l : List Int) : Bool := l.all fun q => !decide (p % q = 0)
set_option maxRecDepth 100000 in
theorem out_next : ∀ p, p < 312 → 2 ≤ p → outAt (p + 1) = if noneOf p (outAt p) then outAt p ++ [(p : Int)] else outAt p := by decide +kernel
set_option maxRecDepth 100000 in
theorem out_take : ∀ p, p < 313 → outAt p = primesL.take (outAt p).length := by decide +kernel
theorem out_len : (outAt 312).length = 64 := by decide +kernel
theorem primes_pos : ∀ q ∈ primesL, 0 < q ∧ q ≤ 311 := by decide +kernel
theorem out_pos (p : Nat) : ∀ q ∈ outAt p, 0 < q ∧ q ≤ 311 := fun q h => primes_pos q (List.mem_filter.1 h).1
theorem out_two : outAt 2 = [] := by decide +kernel
theorem noneOf_next (p : Int) (l : List Int) (j : Nat) (h : j < l.length) : noneOf p (l.take (j + 1)) = (noneOf p (l.take j) && !decide (p % l.getD j 0 = 0)) := by
  unfold noneOf
  rw [List.take_succ_eq_append_getElem h, List.all_append]
  simp [List.getD_eq_getElem?_getD, List.getElem?_eq_getElem h]
/-- Numbers of 64 bits in a row of the call's own, from block B on. -/
def OwnQ (w : World) (B : Nat) (A : Option Addr) (c : Nat) (xs : List Int) : Prop := w.ownsRow B 39 1 (.slice A xs.length c) xs.length (cellsOf .u64 xs)
theorem OwnQ.src {w : World} {A : Option Addr} {xs : List Int} {B c : Nat} (h : OwnQ w B A c xs) (hn : 0 < xs.length) : ∃ g, A = some ⟨g, 0, none⟩ ∧ B ≤ g ∧ g < w.heap.size ∧ ∀ i, i < xs.length → w.cell? ⟨g, i, none⟩ = some (.int .u64 (xs.getD i 0)) := by
  obtain ⟨g, cap, hv, hB, hlt⟩ := World.ownsRow.form h hn
  have hA : A = some ⟨g, 0, none⟩ := by injection hv
  subst hA
  refine ⟨g, rfl, (World.ownsRow.lt h g rfl).1, hlt, fun i hi => ?_⟩
  rw [World.ownsRow.cellAt h i (by omega), cellsOf_at .u64 xs i hi]
theorem Tryd.info29 : (Tryd.prog.info? 39).map (fun i => (i.zero, i.size, i.bytes)) = some (some (.int .u64 0), 1, 8) := by kernel_rfl
def PrAt (w : World) (N : Int) (v pv : Value) (wr : World) : Prop :=
  ∃ (p : Nat) (A : Option Addr) (c : Nat), 2 ≤ p ∧ p ≤ 312 ∧ pv = .int .u64 p ∧ v = .slice A (outAt p).length c ∧ OwnQ wr w.heap.size A c (outAt p) ∧ ((outAt p).length : Int) ≤ N ∧ Below w.heap.size w wr
def PsAt (p : Int) (l : List Int) (b i : Value) : Prop := ∃ j : Nat, j ≤ l.length ∧ i = .int .i64 j ∧ b = .bool (noneOf p (l.take j))
/-- A row of numbers of 64 bits that the call made. -/
def GivesQ (w : World) (xs : List Int) (e : Ending) (w' : World) : Prop := ∃ A c, e = .returned (.slice A xs.length c) ∧ OwnQ w' w.heap.size A c xs ∧ Below w.heap.size w w'
set_option maxHeartbeats 2000000 in
theorem primes_any (n : Nat) (N : Int) (hN : N = n) (hn : n ≤ 64) (w : World) : Calls Tryd.prog 32 #[.int .i64 N] w fun e w' => GivesQ w (primesL.take n) e w' := by
  obtain ⟨i0, hi, hz0, hz1, hz2⟩ := info_parts Tryd.info29
  have HNn := Lib.hid hN
  have n0 : 0 ≤ N := by omega
  have n1 : N ≤ 64 := by omega
  clear hN hn
  go_enter Tryd.func32, Tryd.ntmps32
  go_wp2_with fail
  go_loopw [3, 4] (fun v pv wr => PrAt w N v pv wr) (fun _ pv _ => (312 - intOf pv).toNat)
  case atStart => exact ⟨2, none, 0, by omega, by omega, rfl, by rw [out_two]; rfl, by unfold OwnQ; rw [out_two]; exact World.ownsRow_nil _ _ _ _, by rw [out_two]; exact n0, Below.refl _ _⟩
  case round =>
    obtain ⟨p, A, c, p2, p312, rfl, rfl, hown, hln, hbl⟩ := hrel
    have HT := Lib.hid (out_take p (by omega))
    have HX := Lib.hid (fun h : p < 312 => out_next p h p2)
    have HL := Lib.hid (fun h : p = 312 => show (outAt p).length = 64 by rw [h]; exact out_len)
    have HQ := Lib.hid (out_pos p)
    generalize outAt p = l at *
    by_cases hlt : (l.length : Int) < N
    · have p311 : p < 312 := by
        rcases Nat.lt_or_ge p 312 with h | h
        · exact h
        · have := HL.out (by omega); omega
      have HX2 := Lib.hid (HX.out p311)
      obtain ⟨wo, rfl⟩ : ∃ wo : World, wo = wr := ⟨_, rfl⟩
      clear HX HL
      have pi0 : (0 : Int) ≤ p := by omega
      have pi1 : (p : Int) < 312 := by omega
      go_wp2_with fail
      go_loop [5, 6] (fun b i => PsAt p l b i) (fun _ i => l.length - (intOf i).toNat)
      case atStart => exact ⟨0, Nat.zero_le _, rfl, rfl⟩
      case round =>
        obtain ⟨j, hj, rfl, rfl⟩ := hrel
        by_cases hjl : j < l.length
        · obtain ⟨g, rfl, hB, hlt2, hcell⟩ := hown.src (by omega)
          have cj := hcell j hjl
          have HC := Lib.hid hcell
          have HP := Lib.hid (noneOf_next p l j hjl)
          obtain ⟨q0, q1⟩ := HQ.out (l.getD j 0) (by rw [List.getD_eq_getElem?_getD, List.getElem?_eq_getElem hjl]; exact List.getElem_mem hjl)
          generalize l.getD j 0 = q at *
          generalize noneOf p (l.take j) = b0 at *
          clear hcell hlt
          obtain ⟨r, hr⟩ : ∃ r, (p : Int) % q = r := ⟨_, rfl⟩
          have r0 : 0 ≤ r := hr ▸ Int.emod_nonneg _ (by omega)
          have hr2 : (p : Int).tmod q = r := by rw [Int.tmod_eq_emod_of_nonneg pi0]; exact hr
          have hqz : (q == 0) = false := by simp; omega
          by_cases hrz : r = 0
          · subst hrz
            have HE := Lib.hid (show noneOf p (l.take (j + 1)) = false by rw [HP.out, hr]; simp)
            go_wp2_with fail
            refine ⟨⟨j + 1, by omega, by go_num, by rw [HE.out]⟩, ?_⟩
            simp [intOf]; omega
          · have HE := Lib.hid (show noneOf p (l.take (j + 1)) = b0 by rw [HP.out, hr]; simp [hrz])
            have hrz2 : (r == 0) = false := by simpa using hrz
            go_wp2_with fail
            refine ⟨⟨j + 1, by omega, by go_num, by rw [HE.out]⟩, ?_⟩
            simp [intOf]; omega
        · obtain rfl : j = l.length := by omega
          have HA := Lib.hid (show l.take l.length = l from List.take_length)
          rw [HA.out]
          cases hb : noneOf p l with
          | true =>
            have HB := Lib.hid (show outAt (p + 1) = l ++ [(p : Int)] by rw [HX2.out, hb]; rfl)
            clear hb hjl
            go_wp2_with (at_builtin; refine wpList_append_own _ rfl _ _ 56 rfl w.heap.size 39 i0 (.int .u64 0) 1 8 Tryd.underlying56 hi hz0 hz1 hz2 rfl (by decide) _ _ _ rfl (hown.alloc _) ⟨wo.heap.size, 0, none⟩ 1 1 [.int .u64 p] rfl rfl ?c1 ?c2 ?c3 ?c4 ?c5 ?_)
            case c2 => rfl
            case c3 => unfold maxLen; omega
            case c4 => omega
            case c5 => have := hbl.size; simp; omega
            intro v' w1 hown1 hgrow _
            have hb1 : Below w.heap.size w w1 := (hbl.alloc hbl.size _).grown hgrow (by have := hbl.size; simp; omega) (fun k hk => (World.ownsRow.lt hown k hk).1)
            obtain ⟨g, cap, hv, _, _⟩ := World.ownsRow.form hown1 (by omega)
            subst hv
            have HO := Lib.hid (show OwnQ w1 w.heap.size (some ⟨g, 0, none⟩) cap (l ++ [(p : Int)]) from by
              unfold OwnQ
              rw [List.length_append, cellsOf_append]
              exact hown1)
            clear hown1 hgrow hown hbl
            go_wp2_with fail
            refine ⟨⟨p + 1, some ⟨g, 0, none⟩, cap, by omega, by omega, by go_num, by rw [HB.out, List.length_append]; rfl, by rw [HB.out]; exact HO.out, by rw [HB.out, List.length_append]; simp; omega, hb1⟩, ?_⟩
            simp [intOf]; omega
          | false =>
            have HB := Lib.hid (show outAt (p + 1) = l by rw [HX2.out, hb]; rfl)
            clear hb hjl
            go_wp2_with fail
            refine ⟨⟨p + 1, A, c, by omega, by omega, by go_num, by rw [HB.out], by rw [HB.out]; exact hown, by rw [HB.out]; exact hln, hbl⟩, ?_⟩
            simp [intOf]; omega
    · go_wp2_with fail
      go_ret
      have hll : l.length = n := by have := HNn.out; omega
      exact ⟨A, c, by rw [← hll, ← HT.out]; rfl, by rw [← hll, ← HT.out]; exact hown, hbl⟩
end Go.Proofs.YtbhcikahemhfmaaDoor.Sha3

namespace Go.Proofs.YtbhcikahemhfmaaDoor.Sha3
open Go.RowKit

theorem power_tells (p : Int) (cube : Bool) : PowerTells p cube := fun m w h0 h1 => by
  cases cube
  · exact power_sq m p w h0 h1
  · exact power_cu m p w h0 h1
/-- The row of the call's own, as a block. -/
theorem OwnQ.row {w : World} {A : Option Addr} {xs : List Int} {B c : Nat} (h : OwnQ w B A c xs) (hn : 0 < xs.length) : ∃ g cur, A = some ⟨g, 0, none⟩ ∧ B ≤ g ∧ Row w g 39 cur ∧ ∀ i, i < xs.length → cur[i]? = some (.int .u64 (xs.getD i 0)) := by
  rcases h.2 with ⟨hv, h0⟩ | ⟨g, cap, cur, hv, hB, hg, _, _, _, htake⟩
  · exact absurd h0 (by omega)
  · injection hv with h1 h2 h3
    refine ⟨g, cur, h1, hB, hg, fun i hi => ?_⟩
    have := cellsOf_at .u64 xs i hi
    rw [← htake, List.getElem?_take, if_pos (by omega)] at this
    simpa using this
theorem roots_at (ps : List Int) (ks : List Wd) (f : Int → Int) (h : ps.map f = ks.map fun x => (x.toNat : Int)) (k : Nat) (hk : k < ps.length) (hk2 : k < ks.length) : f (ps.getD k 0) = uv (ks.getD k 0#32) := by
  have h2 := congrArg (fun l : List Int => l.getD k 0) h
  simpa [List.getD_eq_getElem?_getD, List.getElem?_eq_getElem hk, List.getElem?_eq_getElem hk2, uv] using h2
def KyAt (w : World) (ks : List Wd) (g : Nat) (cur : Array Value) (i : Value) (wr : World) : Prop :=
  ∃ k : Nat, k ≤ 64 ∧ i = .int .i64 k ∧ Row wr w.heap.size 45 (wcells (List.replicate 64 0#32)) ∧ Row wr (w.heap.size + 1) 45 (wcells (partly ks 0#32 k)) ∧ Row wr g 39 cur ∧ Below w.heap.size w wr
set_option maxRecDepth 100000 in
set_option maxHeartbeats 2000000 in
theorem keys_gen (ks : List Wd) (ps : List Int) (w : World) (hks : ks.length = 64) (hps : ps.length = 64) (hpr : primesL.take 64 = ps) (hr : ∀ k, k < 64 → rootV (ps.getD k 0) true = uv (ks.getD k 0#32)) :
    Calls Tryd.prog 24 #[] w fun e w' => e = .returned (.agg (wcells ks)) ∧ Below w.heap.size w w' := by
  have Hks := Lib.hid hks
  have Hps := Lib.hid hps
  have Hpr := Lib.hid hpr
  have Hr := Lib.hid hr
  obtain ⟨r1, r2, hb⟩ := rows2 w (wcells (List.replicate 64 0#32)) (wcells (List.replicate 64 0#32)) 45 45
  clear hks hps hpr hr
  go_enter Tryd.func24, Tryd.ntmps24
  go_wp2_with (refine wpList_store_row rfl 45 (.tmp 1) (.tmp 4) rfl (w.heap.size + 1) (wcells (List.replicate 64 0#32)) rfl rfl 45 (wcells (List.replicate 64 0#32)) r2 (by rw [Tryd.size33, wcells_size, List.length_replicate]) rfl (wcells_one _) ?_; have p2 := r2.setRow (wcells (List.replicate 64 0#32)); have p1 := r1.otherRow (b := w.heap.size + 1) (by omega) (wcells (List.replicate 64 0#32)); have pb := below_setRow hb (b := w.heap.size + 1) (by omega) (wcells (List.replicate 64 0#32)); clear r1 r2 hb)
  refine (primes_any 64 64 rfl (Nat.le_refl _) _).mono ?_
  rintro e w1 ⟨A, c, rfl, hown, hb1⟩
  rw [Hpr.out] at hown ⊢
  obtain ⟨g, cur, rfl, hg, rg, hcur⟩ := OwnQ.row hown (by rw [Hps.out]; omega)
  have hg2 : w.heap.size + 1 + 1 ≤ g := by rw [setRow_size] at hg; simpa using hg
  have q1 := p1.keep hb1
  have q2 := p2.keep hb1
  have qb := pb.trans (hb1.mono pb.size)
  have Hcur := Lib.hid hcur
  rw [Hps.out]
  clear hown hg hcur p1 p2 pb hb1
  go_wp2_with fail
  go_loopw [3] (fun i wr => KyAt w ks g cur i wr) (fun i _ => 64 - (intOf i).toNat)
  case atStart => exact ⟨0, Nat.zero_le _, rfl, q1, by rw [partly_none, Hks.out]; exact q2, rg, qb⟩
  case round =>
    clear q1 q2 rg qb
    obtain ⟨k, hk, rfl, r1, r2, rg, hb⟩ := hrel
    by_cases hlt : k < 64
    · have HR := Lib.hid (Hr.out k hlt)
      have cg := rg.cell (Hcur.out k (by rw [Hps.out]; exact hlt))
      generalize ps.getD k 0 = q at *
      have gk : (k : Int) < 64 := by omega
      go_wp2_with fail
      refine (root_any q true _ (power_tells q true)).mono ?_
      rintro e w5 ⟨rfl, hb5⟩
      rw [HR.out]
      have p1 := r1.keep hb5
      have p2 := r2.keep hb5
      have pg := rg.keep hb5
      have pb := hb.trans (hb5.mono hb.size)
      have c2 := row_there (j := k) p2 (by rw [Hks.out]; exact hlt)
      have f2 := p2.free k
      clear r1 r2 rg hb hb5 cg
      go_wp2_with fail
      refine ⟨⟨k + 1, by omega, by go_num, p1.other (by omega) _ _, row_next p2 (by rw [Hks.out]; exact hlt) rfl, pg.other (by omega) _ _, pb.setCell (p := ⟨w.heap.size + 1, k, none⟩) (Nat.le_add_right _ _) _⟩, ?_⟩
      simp [intOf]; omega
    · obtain rfl : k = 64 := by omega
      rw [show ((64 : Nat) : Int) = (64 : Int) from rfl]
      rw [partly_all ks _ _ (by rw [Hks.out]; omega)] at r2
      go_wp2_with (first
        | (refine wpList_load_cells rfl 45 (.tmp 1) rfl (w.heap.size + 1) 0 rfl (wcells ks) _ r2.cells Tryd.underlying45 rfl (by rw [Tryd.size33, wcells_size, Hks.out]) ?_)
        | (refine wpList_store_row rfl 45 (.tmp 0) (.tmp 17) rfl w.heap.size (wcells ks) rfl rfl 45 (wcells (List.replicate 64 0#32)) r1 (by rw [Tryd.size33, wcells_size, Hks.out]) (by rw [wcells_size, wcells_size, Hks.out, List.length_replicate]) (wcells_one _) ?_))
      refine bodyPost_ret (v := .agg (wcells ks)) ?_ rfl ?_
      · exact results_cell_row Tryd.results24 _ _ w.heap.size 45 (wcells ks) (0, 0) _ rfl (r1.setRow _) Tryd.underlying45 rfl (by rw [Tryd.size33, wcells_size, Hks.out])
      · exact ⟨rfl, below_setRow hb (Nat.le_refl _) _⟩
theorem keys_any (w : World) : Calls Tryd.prog 24 #[] w fun e w' => e = .returned (.agg (wcells kW)) ∧ Below w.heap.size w w' :=
  keys_gen kW primesL w rfl rfl rfl (fun k hk => roots_at primesL kW (fun p => rootV p true) cubes_are k hk hk)
def BeAt (w : World) (hs : List Wd) (g : Nat) (cur : Array Value) (i : Value) (wr : World) : Prop :=
  ∃ k : Nat, k ≤ 8 ∧ i = .int .i64 k ∧ Row wr w.heap.size 47 (scells (List.replicate 8 0#32) 0) ∧ Row wr (w.heap.size + 1) 47 (scells (partly hs 0#32 k) 0) ∧ Row wr g 39 cur ∧ Below w.heap.size w wr
theorem row_nexts {w : World} {g t k : Nat} {l : List Wd} {x : Wd} (h : Row w g t (scells (partly l 0#32 k) 0)) (hk : k < l.length) (hx : l.getD k 0#32 = x) : Row (w.setCell ⟨g, k, none⟩ (.int .u32 (uv x))) g t (scells (partly l 0#32 (k + 1)) 0) := by
  subst hx
  rw [← partly_set l 0#32 0#32 k hk, ← scells_set _ _ _ _ (by rw [partly_length]; exact hk)]
  exact h.set k _
set_option maxRecDepth 100000 in
set_option maxHeartbeats 2000000 in
theorem rbegin_gen (hs : List Wd) (ps : List Int) (w : World) (hks : hs.length = 8) (hps : ps.length = 8) (hpr : primesL.take 8 = ps) (hr : ∀ k, k < 8 → rootV (ps.getD k 0) false = uv (hs.getD k 0#32)) :
    Calls Tryd.prog 25 #[] w fun e w' => e = .returned (.agg (scells hs 0)) ∧ Below w.heap.size w w' := by
  have Hks := Lib.hid hks
  have Hps := Lib.hid hps
  have Hpr := Lib.hid hpr
  have Hr := Lib.hid hr
  obtain ⟨r1, r2, hb⟩ := rows2 w (scells (List.replicate 8 0#32) 0) (scells (List.replicate 8 0#32) 0) 47 47
  clear hks hps hpr hr
  go_enter Tryd.func25, Tryd.ntmps25
  go_wp2_with (refine wpList_store_row rfl 47 (.tmp 1) (.tmp 4) rfl (w.heap.size + 1) (scells (List.replicate 8 0#32) 0) rfl rfl 47 (scells (List.replicate 8 0#32) 0) r2 (by rw [Tryd.size35, scells_size, List.length_replicate]) rfl (scells_one _ _) ?_; have p2 := r2.setRow (scells (List.replicate 8 0#32) 0); have p1 := r1.otherRow (b := w.heap.size + 1) (by omega) (scells (List.replicate 8 0#32) 0); have pb := below_setRow hb (b := w.heap.size + 1) (by omega) (scells (List.replicate 8 0#32) 0); clear r1 r2 hb)
  refine (primes_any 8 8 rfl (by omega) _).mono ?_
  rintro e w1 ⟨A, c, rfl, hown, hb1⟩
  rw [Hpr.out] at hown ⊢
  obtain ⟨g, cur, rfl, hg, rg, hcur⟩ := OwnQ.row hown (by rw [Hps.out]; omega)
  have hg2 : w.heap.size + 1 + 1 ≤ g := by rw [setRow_size] at hg; simpa using hg
  have q1 := p1.keep hb1
  have q2 := p2.keep hb1
  have qb := pb.trans (hb1.mono pb.size)
  have Hcur := Lib.hid hcur
  rw [Hps.out]
  clear hown hg hcur p1 p2 pb hb1
  go_wp2_with fail
  go_loopw [3] (fun i wr => BeAt w hs g cur i wr) (fun i _ => 8 - (intOf i).toNat)
  case atStart => exact ⟨0, Nat.zero_le _, rfl, q1, by rw [partly_none, Hks.out]; exact q2, rg, qb⟩
  case round =>
    clear q1 q2 rg qb
    obtain ⟨k, hk, rfl, r1, r2, rg, hb⟩ := hrel
    by_cases hlt : k < 8
    · have HR := Lib.hid (Hr.out k hlt)
      have cg := rg.cell (Hcur.out k (by rw [Hps.out]; exact hlt))
      generalize ps.getD k 0 = q at *
      have gk : (k : Int) < 8 := by omega
      go_wp2_with fail
      refine (root_any q false _ (power_tells q false)).mono ?_
      rintro e w5 ⟨rfl, hb5⟩
      rw [HR.out]
      have p1 := r1.keep hb5
      have p2 := r2.keep hb5
      have pg := rg.keep hb5
      have pb := hb.trans (hb5.mono hb.size)
      have c2 := p2.cell (scells_at (partly hs 0#32 k) 0 k (by rw [partly_length, Hks.out]; exact hlt))
      have f2 := p2.free k
      clear r1 r2 rg hb hb5 cg
      go_wp2_with fail
      refine ⟨⟨k + 1, by omega, by go_num, p1.other (by omega) _ _, row_nexts p2 (by rw [Hks.out]; exact hlt) rfl, pg.other (by omega) _ _, pb.setCell (p := ⟨w.heap.size + 1, k, none⟩) (Nat.le_add_right _ _) _⟩, ?_⟩
      simp [intOf]; omega
    · obtain rfl : k = 8 := by omega
      rw [show ((8 : Nat) : Int) = (8 : Int) from rfl]
      rw [partly_all hs _ _ (by rw [Hks.out]; omega)] at r2
      go_wp2_with (first
        | (refine wpList_load_cells rfl 47 (.tmp 1) rfl (w.heap.size + 1) 0 rfl (scells hs 0) _ r2.cells Tryd.underlying47 rfl (by rw [Tryd.size35, scells_size, Hks.out]) ?_)
        | (refine wpList_store_row rfl 47 (.tmp 0) (.tmp 18) rfl w.heap.size (scells hs 0) rfl rfl 47 (scells (List.replicate 8 0#32) 0) r1 (by rw [Tryd.size35, scells_size, Hks.out]) (by rw [scells_size, scells_size, Hks.out, List.length_replicate]) (scells_one _ _) ?_))
      refine bodyPost_ret (v := .agg (scells hs 0)) ?_ rfl ?_
      · exact results_cell_row Tryd.results25 _ _ w.heap.size 47 (scells hs 0) (0, 0) _ rfl (r1.setRow _) Tryd.underlying47 rfl (by rw [Tryd.size35, scells_size, Hks.out])
      · exact ⟨rfl, below_setRow hb (Nat.le_refl _) _⟩
theorem rbegin_any (w : World) : Calls Tryd.prog 25 #[] w fun e w' => e = .returned (.agg (scells h0W 0)) ∧ Below w.heap.size w w' :=
  rbegin_gen h0W (primesL.take 8) w rfl rfl rfl (fun k hk => roots_at (primesL.take 8) h0W (fun p => rootV p false) squares_are k hk hk)
end Go.Proofs.YtbhcikahemhfmaaDoor.Sha3

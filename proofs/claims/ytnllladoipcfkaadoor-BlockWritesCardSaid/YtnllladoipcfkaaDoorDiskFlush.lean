/- Flush on a disk. No conditions but those that stand in each lemma. -/
import Derived.Test.YtnllladoipcfkaaDoorDiskWrite
namespace Go.Proofs.YtnllladoipcfkaaDoor
open Go.RowKit Go.Maps

theorem wp_store_sec {o : Oper} {a : Act} {w : World} {K : Act → World → Prop} {Q : Exit → Act → World → Prop} (x y : Operand) (ho : o.op = .store 62 x y) (B i : Nat) (hx : a.eval x = .pointer (some ⟨B, i * 512, none⟩)) (s : List Int) (hy : a.eval y = secV s) (hs : s.length = 512)
    (ls : List (List Int)) (hsec : Secs w B ls) (hi : i < ls.length) (h : ∀ cs, Secs (w.setRow B cs) B (ls.set i s) → K (a.put o.dst undef) (w.setRow B cs)) : o.wp Tryd.prog a w K Q := by
  obtain ⟨cs, hrun, hsec'⟩ := hsec.stored hi hs
  unfold Oper.wp execOp
  have := hrun Tryd.prog Tryd.size47
  unfold secV at hy
  simp only [ho, hx, hy, Instr.storeAt, Instr.sureAddr, Sem.run_bind, Sem.run_pure, Result.andThen_ok, this]
  exact h cs hsec'
/-- A sector goes into a new variable. -/
theorem wpList_store47 {ops : Array Oper} {rest : List Oper} {o : Oper} {a : Act} {w : World} {Q : Exit → Act → World → Prop} (hg : o.guard = none) (x y : Operand) (ho : o.op = .store 62 x y) (g : Nat) (hx : a.eval x = .pointer (some ⟨g, 0, none⟩)) (s : List Int) (hy : a.eval y = secV s) (hs : s.length = 512)
    (old : List Int) (hr : Row w g 62 (bcells old)) (hold : old.length = 512) (h : ∀ w', Row w' g 62 (bcells s) → Below g w w' → w'.heap.size = w.heap.size → wpList Tryd.prog ops Q rest (a.put o.dst undef) w') : wpList Tryd.prog ops Q (o :: rest) a w := by
  refine wpList_store_row hg 62 x y ho g (bcells s) hx hy 62 (bcells old) hr (by rw [Tryd.size47, bcells_size, hs]) (by rw [bcells_size, bcells_size, hs, hold]) (bcells_one s) ?_
  exact h _ (hr.setRow _) (below_setRow (Below.refl _ _) (Nat.le_refl _) _) (by simp)
section
variable {w w' : World} {g j base : Nat}
theorem Row.grown {t : TypeId} {cs : Array Value} (h : Row w g t cs) (hg : w.grownBy w' (some j)) (hne : g ≠ j) : Row w' g t cs := (hg.block g h.lt (by intro e; injection e with e; exact hne e)).trans h
theorem Secs.grown {ls : List (List Int)} (h : Secs w g ls) (hg : w.grownBy w' (some j)) (hne : g ≠ j) : Secs w' g ls := h.block (hg.block g h.lt (by intro e; injection e with e; exact hne e))
theorem grown_below (hg : w.grownBy w' (some j)) (hM : base ≤ j) (hs : base ≤ w.heap.size) : Below base w w' :=
  ⟨hg.os, hg.tape, hg.output, hg.size, fun k hk => hg.block k (by omega) (by intro e; injection e with e; omega)⟩
end
/-- What sector i is behind a flush. -/
def flushI (D : DataW Unit) (ls : List (List Int)) (i : Nat) : List Int := unD (D.atKey (.int .i64 i) (secD (ls.getD i [])))
def flushS (D : DataW Unit) (ls : List (List Int)) : List (List Int) := (List.range ls.length).map (flushI D ls)
theorem flush_next {D : DataW Unit} {ls : List (List Int)} {x : Nat} {s : List Int} (hat : ∀ zd, D.atKey (.int .i64 x) zd = secD s) (hx : x < ls.length) (i : Nat) :
    flushI (D.del (.int .i64 x)) (ls.set x s) i = flushI D ls i := by
  unfold flushI
  by_cases h : i = x
  · subst h
    rw [atKey_del_same, hat]
    simp [List.getD_eq_getElem?_getD, hx]
  · rw [atKey_del_other (by intro e; injection e with _ e; omega)]
    simp [List.getD_eq_getElem?_getD, Ne.symm h]
theorem same_int (x : Int) : (Lit.int .i64 x).sameKey (.int .i64 x) = true := WideAt.sameKey_self trivial
theorem left_next {D : DataW Unit} {left : Lit → Bool} {kl : Lit} (hk : kl.sameKey kl = true) (h : ∀ z, left z = has D z) (z : Lit) : ((left z && !z.sameKey kl) && !z.sameKey kl) = has (D.del kl) z := by
  by_cases e : z = kl
  · subst e
    rw [has_del_same, hk]
    simp
  · rw [has_del_other e, sameKey_ne e, h]
    simp
theorem none_left {w : World} {M k : Nat} {D : DataW Unit} (h : w.ownsMap Tryd.prog 3 secR M k D) (hn : ∀ z, has D z = false) : D = .map [] := by
  obtain ⟨es, rfl, _, hk⟩ := h.entries law3
  cases es with
  | nil => rfl
  | cons q r =>
    have := hn q.1
    rw [has_eq, List.any_cons, WideAt.sameKey_self (hk q (List.mem_cons_self ..))] at this
    cases this

/-- At a round's head: what has been taken out of the map lies in its sector. -/
def FlushAt (w0 : World) (base p B M n c k r : Nat) (f : Bool) (l : Int) (ls0 : List (List Int)) (D0 : DataW Unit) (wr : World) : Prop :=
  ∃ D ls left cnt, wr.ranges Tryd.prog 3 secR M r k D left cnt ∧ Row wr p 45 (dcells (some ⟨B, 0, none⟩) n c (some M) f l) ∧ Secs wr B ls ∧ ls.length = n ∧ (∀ kl, left kl = has D kl) ∧
    (∀ x : Int, has D (.int .i64 x) = true → 0 ≤ x ∧ x < n) ∧ (∀ i, flushI D ls i = flushI D0 ls0 i) ∧ Below base w0 wr ∧ Oth p B M w0 wr

theorem flush_cut {w : World} {base p B M n c k : Nat} {ls : List (List Int)} {D : DataW Unit} {f : Bool} {l : Int} (h : Disk w base p B M n c k ls D f l) (h0 : 0 ≤ l) (h1 : l ≤ 1000) (hc : (f && (l == 0)) = true) :
    Calls Tryd.prog 14 #[.pointer (some ⟨p, 0, none⟩)] w fun e w' => e = .returned (.int .i64 17) ∧ w' = w := by
  go_enter Tryd.func14, Tryd.ntmps14
  go_wp2_with fail
  refine (disk_some h).mono ?_
  rintro e w1 ⟨rfl, rfl⟩
  go_wp2_with fail
  refine (disk_spend h h0 h1).mono ?_
  rintro e w2 (⟨_, rfl, rfl⟩ | ⟨hb, rfl, _⟩)
  · go_wp2_with fail
    go_ret
    exact ⟨rfl, rfl⟩
  · rw [hc] at hb; cases hb

set_option maxRecDepth 100000 in
theorem flush_done {w : World} {base p B M n c k : Nat} {ls : List (List Int)} {D : DataW Unit} {f : Bool} {l : Int} (h : Disk w base p B M n c k ls D f l) (h0 : 0 ≤ l) (h1 : l ≤ 1000) (hc : (f && (l == 0)) = false) :
    Calls Tryd.prog 14 #[.pointer (some ⟨p, 0, none⟩)] w fun e w' => e = .returned (.int .i64 0) ∧ Below base w w' ∧ Oth p B M w w' ∧ Disk w' base p B M n c k (flushS D ls) (.map []) f (spentL f l) := by
  go_enter Tryd.func14, Tryd.ntmps14
  go_wp2_with fail
  refine (disk_some h).mono ?_
  rintro e w1 ⟨rfl, rfl⟩
  go_wp2_with fail
  refine (disk_spend h h0 h1).mono ?_
  rintro e w2 (⟨hb, _⟩ | ⟨_, rfl, hb2, hz2, h2, ho2⟩)
  · rw [hc] at hb; cases hb
  · have ot2 : Oth p B M w1 w2 := ⟨Nat.le_of_eq hz2.symm, fun b _ h1 _ _ => ho2 b h1⟩
    clear h ho2
    have c1 := h2.c1
    go_wp2_with (at_range; refine wpList_range_own _ rfl _ 43 rfl 3 62 law3 Tryd.underlying43 secR M k D rfl h2.waits ?_; intro w3 hrg hg3 hs3)
    go_frame
    have hb3 : Below w2.heap.size w2 w3 := ⟨hg3.os, hg3.tape, hg3.output, hg3.size, fun j hj => hg3.block j hj (by simp)⟩
    have start : FlushAt w1 base p B M n c k w2.heap.size f (spentL f l) ls D w3 :=
      ⟨D, ls, _, _, hrg, h2.obj.keep hb3, h2.secs.keep hb3, h2.len, fun _ => rfl, h2.keys, fun _ => rfl, hb2.trans (hb3.mono (Nat.le_of_lt (Nat.lt_of_le_of_lt h2.basep h2.obj.lt))), ot2.trans (.below hb3)⟩
    have hp : p < w2.heap.size := h2.obj.lt
    have hB : B < w2.heap.size := h2.secs.lt
    have hM : M < w2.heap.size := h2.waits.lt
    have q1 := h2.basep
    have q2 := h2.baseB
    have q3 := h2.baseM
    have q4 := h2.neB
    have q5 := h2.neM
    have q6 := h2.neBM
    have q7 := h2.pos
    have q8 := h2.most
    have q9 := h2.len
    have q10 : w1.heap.size ≤ w2.heap.size := Nat.le_of_eq hz2.symm
    clear hrg hg3 hs3 hb3 h2 c1 hb2 hz2 ot2
    generalize w2.heap.size = r at *
    go_loopw [4] (fun _ wr => FlushAt w1 base p B M n c k r f (spentL f l) ls D wr) (fun _ wr => wr.rangeLeft M r)
    case atStart => exact start
    case round =>
      clear start
      obtain ⟨D1, ls1, left, cnt, hrg, hobj, hsec, hlen, hleft, hkeys, hinv, hb, ho⟩ := hrel
      have HO := Lib.hid ho
      clear ho
      have Hleft := Lib.hid hleft
      have Hkeys := Lib.hid hkeys
      have Hinv := Lib.hid hinv
      have Hlen := Lib.hid hlen
      clear hleft hkeys hinv hlen
      go_wp2_with (at_next; refine wpList_next_ranges _ rfl _ rfl 3 law3 secR (Value.int .i64) secV (fun key kl hk => by obtain ⟨x, rfl, _⟩ := Maps.keyOf_int_inv Tryd.underlying3 hk; exact ⟨x, rfl⟩) (fun v y hv => by obtain ⟨s, _, rfl, _⟩ := secR_inv hv; exact ⟨s, rfl⟩) M r k D1 left cnt rfl hrg ?_ ?_)
      · intro hc0 hl0
        have hD : D1 = .map [] := none_left hrg.owns (fun z => by rw [← Hleft.out z]; exact hl0 z)
        subst hD
        have hls : flushS D ls = ls1 := by
          apply List.ext_getElem
          · unfold flushS; rw [List.length_map, List.length_range, q9, Hlen.out]
          · intro i h1 h2
            have e1 : flushI (.map []) ls1 i = ls1[i] := by
              unfold flushI
              rw [atKey_of_not_has rfl, unD_secD, List.getD_eq_getElem?_getD, List.getElem?_eq_getElem h2]
              rfl
            rw [← e1, Hinv.out i]
            simp [flushS]
        have HLS := Lib.hid hls
        have howns := Lib.hid hrg.owns
        clear hrg hls
        go_wp2_with fail
        go_ret
        exact ⟨rfl, hb, HO.out, by rw [HLS.out]; exact ⟨hobj, hsec, Hlen.out, q7, q8, howns.out, fun x hx => (by cases hx), q1, q2, q3⟩⟩
      · intro x s kl y yp w4 cnt1 hkey hlk hR hat hrg1 hlt hgr hsz hen
        obtain ⟨_, e1, rfl, hwf⟩ := Maps.keyOf_int_inv Tryd.underlying3 hkey
        injection e1 with _ e1
        subst e1
        obtain ⟨s', hs, e2, e3⟩ := secR_inv hR
        obtain rfl := secV_inj e2
        injection e3 with e3 _
        subst e3
        have hx := Hkeys.out x (by rw [← Hleft.out]; exact hlk)
        obtain ⟨i, rfl⟩ : ∃ i : Nat, x = i := ⟨x.toNat, by omega⟩
        have hi : i < n := by omega
        have Hhat := Lib.hid hat
        have Hkey := Lib.hid hkey
        have Hs := Lib.hid hs
        have Hi := Lib.hid hi
        have Hlt := Lib.hid hlt
        have o4 := Lib.hid (hobj.grown hgr (by omega))
        have s4 := Lib.hid (hsec.grown hgr (by omega))
        have b4 := hb.trans (grown_below hgr (by omega) (by have := hobj.lt; omega))
        have O4 := Lib.hid (HO.out.new hgr q10)
        have z4 := Lib.hid (show w4.heap.size = wr.heap.size from hsz)
        have hpr : p < wr.heap.size := hobj.lt
        have hBr : B < wr.heap.size := hsec.lt
        have rg4 := Lib.hid hrg1
        have hrl := Lib.hid hrg.left_eq
        have gi : (i : Int) < n := by omega
        have hMr := hrg.owns.lt
        have hrr := hrg.lt
        clear hat hkey hlk hR hwf hs hlt hobj hsec hb hgr hsz hx hrg1 hi hrg
        go_wp2_with (first
          | (refine wpList_alloc47 rfl rfl ?_; intro w5 r5 hb5 hz5)
          | (refine wpList_store47 rfl (.tmp 4) (.tmp 19) rfl w4.heap.size rfl s rfl Hs.out (List.replicate 512 0) r5 (List.length_replicate ..) ?_; intro w6 r6 hb6 hz6))
        have z4' := z4.out
        have hb46 : Below w4.heap.size w4 w6 := hb5.trans hb6
        have o6 := Lib.hid (o4.out.keep hb46)
        have s6 := Lib.hid (s4.out.keep hb46)
        have rg6 := Lib.hid (rg4.out.kept (row := none) ⟨hb46.os, hb46.tape, hb46.output, hb46.size, fun j hj _ => hb46.block j hj⟩ (by simp) (by simp))
        have b6 := Lib.hid (b4.trans (hb46.mono (by omega)))
        have O6 := Lib.hid (O4.out.trans (.below hb46))
        clear O4 HO
        have R6 := Lib.hid r6
        clear o4 s4 rg4 b4 r5 r6 hb5 hb6 hb46 hz5 hz6 hen z4' z4
        generalize w4.heap.size = g at *
        have d1 : ∀ g' : Above w6.drew, g'.1.cell? ⟨p, 0, none⟩ = some (.slice (some ⟨B, 0, none⟩) n c) := fun g' => (g'.2.cell (p := ⟨p, 0, none⟩) o6.out.lt).trans (o6.out.cell rfl)
        go_wp2_with fail
        refine wp_region_segsT 7 [([0, 4, 5], 1)] [2, 3, 6] (by kernel_rfl) (by kernel_rfl) ⟨by kernel_rfl, by decide⟩ (by kernel_rfl) (by kernel_rfl) (fun _ _ d _ _ h => by cases d <;> exact h) ?_
        refine wpSegsT_next (by simp [pickOps]; rfl) ?_
        repeat (go_big_quiet_step (fail))
        refine wpQuiet_load_cells rfl 62 (.tmp 4) rfl g 0 rfl (bcells s) _ R6.out.drew.cells R6.out.lt Tryd.underlying62 rfl (by rw [Tryd.size47, bcells_size, Hs.out]) ?_
        refine wpQuiet_nil ?_
        refine wpOp_alone rfl rfl (fun K hK => ?_)
        go_simp
        refine hK _ _ ⟨Below.refl _ _, ?_⟩
        clear hK K
        refine wpSegsT_last (by simp [pickOps]; rfl) ?_
        repeat (go_big_quiet_step (fail))
        refine wpQuiet_nil ?_
        refine wpOp_alone rfl rfl (fun K hK => ?_)
        refine wp_store_sec (.tmp 26) (.tmp 25) rfl B i rfl s rfl Hs.out ls1 s6.out (by rw [Hlen.out]; exact Hi.out) ?_
        intro cs s7
        refine hK _ _ ?_
        clear hK K d1
        have g7 : w6.drew.grownBy (w6.drew.setRow B cs) (some B) := ⟨rfl, rfl, rfl, by simp, fun j _ hj => setRow_other _ _ _ _ (by intro e; exact hj (by rw [e]))⟩
        have o7 : Row (w6.drew.setRow B cs) p 45 (dcells (some ⟨B, 0, none⟩) n c (some M) f (spentL f l)) := o6.out.drew.grown g7 q4
        have rg6' : w6.drew.ranges Tryd.prog 3 secR M r k D1 (fun z => left z && !z.sameKey (.int .i64 i)) cnt1 := rg6.out
        have rg7 := rg6'.kept g7 (by intro e; injection e with e; exact q6 e.symm) (by intro e; injection e with e; omega)
        have b7 : Below base w1 (w6.drew.setRow B cs) := (b6.out.drew).trans (grown_below g7 q2 (by have := o6.out.lt; show base ≤ w6.heap.size; omega))
        have O7 := Lib.hid (O6.out.trans ((Oth.below (Below.refl w6.heap.size w6).drew).trans (.grown g7 (.inr (.inl rfl)))))
        clear o6 s6 rg6 b6 R6 rg6' g7 O6
        generalize w6.drew.setRow B cs = w7 at *
        have c1 : w7.cell? ⟨p, 1, none⟩ = some (.map (some M)) := o7.cell rfl
        have S7 := Lib.hid s7
        have B7 := Lib.hid b7
        clear s7 b7
        go_wp2_with (at_delete; refine wpList_delete_ranges _ rfl (.tmp 30) (.tmp 31) 43 3 rfl 62 law3 Tryd.underlying43 secR M r k D1 _ _ rfl rg7 (.int .i64 i) (.int .i64 i) rfl Hkey.out ?_; intro w8 cnt2 rg8 hle hturn)
        simp only [Act.put]
        have g8 := hturn.grown
        have hrn : w8.rangeLeft M r = cnt2 := rg8.left_eq
        have hne : M < w7.heap.size := rg7.owns.lt
        have pr7 := o7.lt
        go_roundw
        case rel =>
          refine ⟨D1.del (.int .i64 i), ls1.set i s, _, cnt2, rg8, o7.grown g8 q5, S7.out.grown g8 q6, ?_, left_next (same_int i) Hleft.out, ?_, ?_, B7.out.trans (grown_below g8 q3 (by omega)), O7.out.trans (.grown g8 (.inr (.inr rfl)))⟩
          · rw [List.length_set]; exact Hlen.out
          · intro x hx
            by_cases e : Lit.int .i64 x = Lit.int .i64 i
            · rw [e, has_del_same] at hx; cases hx
            · rw [has_del_other e] at hx; exact Hkeys.out x hx
          · intro j
            rw [flush_next Hhat.out (by rw [Hlen.out]; exact Hi.out)]
            exact Hinv.out j
        case measure =>
          have := Hlt.out
          have := hrl.out
          omega
end Go.Proofs.YtnllladoipcfkaaDoor

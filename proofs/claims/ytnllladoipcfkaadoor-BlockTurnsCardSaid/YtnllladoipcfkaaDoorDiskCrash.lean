/- Crash on a disk. No conditions but those that stand in each lemma. -/
import Derived.Test.YtnllladoipcfkaaDoorDiskKeys
namespace Go.Proofs.YtnllladoipcfkaaDoor
open Go.RowKit Go.Maps

/-- The first k bytes are what waits, the others what lasted. -/
def mixS (k : Nat) (s t : List Int) : List Int := s.take k ++ t.drop k
theorem mixS_length (k : Nat) (s t : List Int) (hs : s.length = 512) (ht : t.length = 512) (hk : k ≤ 512) : (mixS k s t).length = 512 := by
  unfold mixS; rw [List.length_append, List.length_take, List.length_drop]; omega
/-- How many bytes are kept. -/
def keptI (x : Int) : Nat := (min (max x 0) 512).toNat
theorem keptI_le (x : Int) : keptI x ≤ 512 := by unfold keptI; omega
theorem keptI_eq (x : Int) : min (max x 0) 512 = ((keptI x : Nat) : Int) := by unfold keptI; omega
/-- What waits in a sector. -/
def elemI (D : DataW Unit) (x : Int) : List Int := unD (D.atKey (.int .i64 x) (secD (List.replicate 512 0)))
/-- The sectors, where the first j of those that wait are kept as told. -/
def keptS (D : DataW Unit) (ls : List (List Int)) (ks keep : List Int) : Nat → List (List Int)
  | 0 => ls
  | j + 1 => (keptS D ls ks keep j).set (ks.getD j 0).toNat (mixS (keptI (keep.getD j 0)) (elemI D (ks.getD j 0)) ((keptS D ls ks keep j).getD (ks.getD j 0).toNat []))

theorem splice_part (s : List Int) (k : Nat) (hk : k ≤ 512) (hs : s.length = 512) (zs : List Value) : ∀ (ls : List (List Int)) (i : Nat), (∀ t ∈ ls, t.length = 512) → i < ls.length →
    splice (cellsOf .u8 ls.flatten ++ zs) (i * 512) (cellsOf .u8 (s.take k)) = cellsOf .u8 (ls.set i (mixS k s (ls.getD i []))).flatten ++ zs := by
  intro ls
  induction ls with
  | nil => intro i _ hi; cases hi
  | cons x r ih =>
    intro i h hi
    have hx := h x (List.mem_cons_self ..)
    have hc : (cellsOf .u8 x).length = 512 := by rw [cellsOf_length, hx]
    cases i with
    | zero =>
      have hd : (cellsOf .u8 x ++ (cellsOf .u8 r.flatten ++ zs)).drop k = cellsOf .u8 (x.drop k) ++ (cellsOf .u8 r.flatten ++ zs) := by
        rw [List.drop_append, hc, show k - 512 = 0 by omega, List.drop_zero]
        unfold cellsOf
        rw [List.map_drop]
      rw [List.set_cons_zero, List.flatten_cons, List.flatten_cons, cellsOf_append, cellsOf_append, List.append_assoc, List.append_assoc, show (x :: r).getD 0 [] = x from rfl]
      unfold mixS splice
      rw [cellsOf_length, List.length_take, Nat.zero_mul, Nat.zero_add, show min k s.length = k by omega, hd, cellsOf_append]
      simp
    | succ i =>
      have := ih i (fun t ht => h t (List.mem_cons_of_mem _ ht)) (by simpa using hi)
      rw [List.set_cons_succ, List.flatten_cons, List.flatten_cons, cellsOf_append, cellsOf_append, List.append_assoc, List.append_assoc, show (i + 1) * 512 = (cellsOf .u8 x).length + i * 512 by omega, splice_behind,
        show (x :: r).getD (i + 1) [] = r.getD i [] from rfl, this]
theorem wp_copy_sec {o : Oper} {a : Act} {w : World} {K : Act → World → Prop} {Q : Exit → Act → World → Prop} (d x : Operand) (ho : o.op = .call { callee := .builtin .copy, args := #[d, x], argTypes := #[23, 23] }) (B i dc : Nat) (hd : a.eval d = .slice (some ⟨B, i * 512, none⟩) 512 dc)
    (g k xc : Nat) (hx : a.eval x = .slice (some ⟨g, 0, none⟩) k xc) (hk : k ≤ 512) (s : List Int) (hs : s.length = 512) (hr : Row w g 62 (bcells s)) (ls : List (List Int)) (hsec : Secs w B ls) (hi : i < ls.length)
    (h : ∀ cs v, Secs (w.setRow B cs) B (ls.set i (mixS k s (ls.getD i []))) → K (a.put o.dst v) (w.setRow B cs)) : o.wp Tryd.prog a w K Q := by
  have hsl := hsec.at_ hi
  obtain ⟨h1, zs, hB⟩ := hsec
  have hf := flatten_length h1
  have hrun := run_copy_row (P := Tryd.prog) w 23 23 o.type 5 B (i * 512) 512 dc ⟨g, 0, none⟩ k xc _ 62 (cellsOf .u8 (s.take k)) Tryd.underlying23 Tryd.size5 hB (by rw [cellsOf_length, List.length_take]; show _ = min k 512; omega)
    (fun j v hv => by
      obtain ⟨hj, rfl⟩ := cellsOf_inv _ _ _ _ hv
      rw [List.length_take] at hj
      have hadd : (⟨g, 0, none⟩ : Addr).add j = ⟨g, j, none⟩ := by unfold Addr.add; split <;> simp_all
      rw [hadd, hr.cell (bcells_at s j (by omega)), List.getD_eq_getElem?_getD, List.getD_eq_getElem?_getD, List.getElem?_take, if_pos (by omega)])
    (by rw [cellsOf_length, List.length_take, List.size_toArray, List.length_append, cellsOf_length, hf]; omega) (cellsOf_one _ _)
  have hsp := splice_part s k hk hs zs ls i h1 hi
  unfold splice at hsp
  rw [List.append_assoc, List.toList_toArray, hsp] at hrun
  unfold Oper.wp
  simp only [execOp, ho, resolve, invoke, builtin, Sem.run_bind, Sem.run_pure, Result.andThen_ok, List.map_toArray, List.map_cons, List.map_nil, hd, hx, hrun]
  refine h _ _ ⟨fun t ht => ?_, zs, hB.setRow _⟩
  rcases List.mem_or_eq_of_mem_set ht with h' | rfl
  · exact h1 t h'
  · exact mixS_length k s _ hs hsl hk
theorem wpList_lookup_sec {ops : Array Oper} {rest : List Oper} {o : Oper} {a : Act} {w : World} {Q : Exit → Act → World → Prop} (hg : o.guard = none) (m x : Operand) (hop : o.op = Op.lookup 43 m x false) (M k : Nat) (D : DataW Unit) (hm : a.eval m = .map (some M))
    (hown : w.ownsMap Tryd.prog 3 secR M k D) (y : Int) (hx : a.eval x = .int .i64 y) (hkey : keyOf Tryd.prog 3 (.int .i64 y) = some (.int .i64 y)) (h : (elemI D y).length = 512 → wpList Tryd.prog ops Q rest (a.put o.dst (secV (elemI D y))) w) : wpList Tryd.prog ops Q (o :: rest) a w := by
  refine wpList_plain hg fun K' hK' => ?_
  obtain ⟨v, ps, hrun, hv⟩ := hown.lookup law3 Tryd.underlying43 (Tryd.zero47 w) (secR_mk _ (List.length_replicate ..)) hkey
  obtain ⟨s, hs, rfl, hy⟩ := secR_inv hv
  have he : elemI D y = s := by
    unfold elemI
    rw [show D.atKey (.int .i64 y) (secD (List.replicate 512 0)) = secD s from congrArg Prod.fst hy, unD_secD]
  rw [he] at h
  unfold Oper.wp
  simp [execOp, hop, hm, hx, hrun, Result.andThen]
  exact hK' _ _ (h hs)

/-- At a round's head: j of those that wait are kept as told. -/
def CrashAt (w : World) (n : Nat) (ls : List (List Int)) (D : DataW Unit) (p' B' M' c' m : Nat) (A2 : Option Addr) (keep : List Int) (iv : Value) (wr : World) : Prop :=
  ∃ j : Nat, j ≤ m ∧ iv = .int .i64 j ∧ Disk wr w.heap.size p' B' M' n c' 0 (keptS D ls (waitsI D) keep j) (.map []) false 0 ∧ Src .i64 wr A2 (waitsI D) ∧ Below w.heap.size w wr
theorem Src.setRow {w : World} {A : Option Addr} {xs : List Int} {k : IntKind} (h : Src k w A xs) {B : Nat} (hne : ∀ a, A = some a → B < a.block) (cs : Array Value) : Src k (w.setRow B cs) A xs := fun hn => by
  obtain ⟨b, o, rfl, hlt, hc⟩ := h hn
  have := hne _ rfl
  exact ⟨b, o, rfl, by rw [setRow_size]; exact hlt, fun i hi => by rw [cell_setRow_other w B cs _ (by show b ≠ B; have : B < b := this; omega)]; exact hc i hi⟩
theorem Disk.setSec {w : World} {base p B M n c k : Nat} {ls ls' : List (List Int)} {D : DataW Unit} {f : Bool} {l : Int} (h : Disk w base p B M n c k ls D f l) {cs : Array Value} (hs : Secs (w.setRow B cs) B ls') (hl : ls'.length = ls.length) : Disk (w.setRow B cs) base p B M n c k ls' D f l :=
  ⟨h.obj.otherRow h.neB cs, hs, hl.trans h.len, h.pos, h.most, h.waits.kept (row := some B) ⟨rfl, rfl, rfl, by simp, fun j _ hj => setRow_other _ _ _ _ (by intro e; exact hj (by rw [e]))⟩ (by intro e; injection e with e; exact h.neBM e.symm), h.keys, h.basep, h.baseB, h.baseM⟩

set_option maxRecDepth 100000 in
theorem crash_any {w : World} {base p B M n c k : Nat} {ls : List (List Int)} {D : DataW Unit} {f : Bool} {l : Int} (h : Disk w base p B M n c k ls D f l) (hk : k ≤ 100000) (A1 : Option Addr) (K q : Nat) (keep : List Int) (hK : K = keep.length) (hKm : K ≤ maxLen) (hs : Src .i64 w A1 keep) :
    Calls Tryd.prog 15 #[.pointer (some ⟨p, 0, none⟩), .slice A1 K q] w fun e w' => ∃ p' B' M' c', e = .returned (.tuple #[.pointer (some ⟨p', 0, none⟩), .int .i64 0]) ∧ Below w.heap.size w w' ∧
      Disk w' w.heap.size p' B' M' n c' 0 (keptS D ls (waitsI D) keep (min K (waitsI D).length)) (.map []) false 0 := by
  obtain ⟨m, hm0⟩ : ∃ m, min K (waitsI D).length = m := ⟨_, rfl⟩
  rw [hm0]
  have Hm := Lib.hid hm0
  clear hm0
  have c0 := h.c0
  have H := Lib.hid h
  have Hk := Lib.hid hk
  have HK := Lib.hid hK
  have HKm := Lib.hid hKm
  have Hs := Lib.hid hs
  clear h hk hK hKm hs
  go_enter Tryd.func15, Tryd.ntmps15
  go_wp2_with fail
  refine (disk_some H.out).mono ?_
  rintro e w1 ⟨rfl, rfl⟩
  go_wp2_with fail
  refine (clone_any H.out.secs H.out.len H.out.pos H.out.most).mono ?_
  rintro e w2 ⟨B', c', rfl, hB', hs2, hb2⟩
  have Hs2 := Lib.hid hs2
  have HB' := Lib.hid hB'
  have Hb2 := Lib.hid hb2
  clear hs2 hB' hb2
  go_wp2_with fail
  refine (with_any w1.heap.size Hs2.out H.out.len H.out.pos H.out.most HB'.out).mono ?_
  rintro e w3 ⟨p', M', rfl, hp', hM', hb3, hd3⟩
  have Hd3 := Lib.hid hd3
  have H3 := Lib.hid (H.out.keep (Hb2.out.trans (hb3.mono Hb2.out.size)))
  have Hb3 := Lib.hid (Hb2.out.trans (hb3.mono Hb2.out.size))
  have HB3 := Lib.hid hd3.secs.lt
  clear hd3 hb3 hp' hM' c0
  have c1 := H3.out.c1
  go_wp2_with fail
  refine (keys_any (some M) w3).mono ?_
  rintro e w4 ⟨rfl, hw4⟩
  have hb34 : Below w3.heap.size w3 w4 := by rw [hw4]; exact (Below.refl _ _).alloc (Nat.le_refl _) _
  have hz4 : w4.heap.size = w3.heap.size + 1 := by rw [hw4]; show (w3.heap.push _).size = _; rw [Array.size_push]
  have hc4 : w4.cell? ⟨w3.heap.size, 0, none⟩ = some (.map (some M)) := by rw [hw4]; exact (Row.new w3 43 #[.map (some M)]).cell rfl
  have H4 := Lib.hid (H3.out.keep hb34)
  have Hd4 := Lib.hid (Hd3.out.keep hb34)
  have Hb4 := Lib.hid (Hb3.out.trans (hb34.mono Hb3.out.size))
  have Hz4 := Lib.hid hz4
  have Hc4 := Lib.hid hc4
  clear hw4 hb34 hz4 hc4 H3 Hd3 c1
  go_wp2_with fail
  refine (sorted_any M k w3.heap.size D w4 Hc4.out (by rw [Hz4.out]; exact Nat.lt_succ_self _) H4.out.waits Hk.out).mono ?_
  rintro e w5 ⟨A2, n2, c2, rfl, hn2, hc2, hm2, hs5, ha5, hb5⟩
  have H5 := Lib.hid (H4.out.keep hb5)
  have Hd5 := Lib.hid (Hd4.out.keep hb5)
  have Hb5 := Lib.hid (Hb4.out.trans (hb5.mono Hb4.out.size))
  have Hs5 := Lib.hid (Hs.out.keep Hb5.out)
  have HS5 := Lib.hid hs5
  have Ha5 : Hid (∀ a, A2 = some a → B' < a.block) := Lib.hid (fun a e => by have := ha5 a e; have := HB3.out; have := Hz4.out; omega)
  have Hn2 := Lib.hid hn2
  clear H4 Hd4 hb5 hs5 ha5 hn2 Hc4 Hz4 Hb2 Hb3 Hb4 Hs2
  have hm : min K n2 = m := by rw [Hn2.out]; exact Hm.out
  have em : min (K : Int) (n2 : Int) = (m : Int) := by omega
  have em2 : (m : Int) ≤ n2 := by omega
  have em3 : (m : Int) ≤ c2 := by omega
  have em4 : (c2 : Int) ≤ 9223372036854775807 := by unfold maxLen at hm2; omega
  have em5 := Lib.hid hm
  clear hm hc2 hm2
  go_wp2_with fail
  have HC := Lib.hid H.out
  clear H5
  go_loopw [34] (fun iv wr => CrashAt w1 n ls D p' B' M' c' m A2 keep iv wr) (fun iv _ => m - (intOf iv).toNat)
  case atStart => exact ⟨0, Nat.zero_le _, rfl, Hd5.out, HS5.out, Hb5.out⟩
  case round =>
    clear Hd5 HS5 Hb5 Hs5
    obtain ⟨j, hj, rfl, hd, hsw, hb⟩ := hrel
    by_cases hlt : j < m
    · have gm : (j : Int) < m := by omega
      have hjn : j < (waitsI D).length := by have := Hm.out; omega
      have hjk : j < keep.length := by have := Hm.out; have := HK.out; omega
      have gK : (j : Int) < K := by have := HK.out; omega
      have hx0 := HC.out.keys _ (waits_has HC.out.waits (x := (waitsI D).getD j 0) (by rw [List.getD_eq_getElem?_getD, List.getElem?_eq_getElem hjn]; exact List.getElem_mem hjn))
      obtain ⟨i, hi⟩ : ∃ i : Nat, (waitsI D).getD j 0 = i := ⟨((waitsI D).getD j 0).toNat, by omega⟩
      have gi : (i : Int) < n := by omega
      obtain ⟨b2, o2, rfl, hl2, hcell2⟩ := hsw (by omega)
      have hcj := hcell2 j hjn
      rw [hi] at hcj
      obtain ⟨b1, o1, rfl, hl1, hcell1⟩ := Hs.out (by omega)
      have hD1 := HC.out.keep hb
      have hck : wr.cell? ⟨b1, o1 + j, none⟩ = some (.int .i64 (keep.getD j 0)) := (hb.cell (p := ⟨b1, o1 + j, none⟩) hl1).trans (hcell1 j hjk)
      have ekept : keptS D ls (waitsI D) keep (j + 1) = (keptS D ls (waitsI D) keep j).set i (mixS (keptI (keep.getD j 0)) (elemI D i) ((keptS D ls (waitsI D) keep j).getD i [])) := by
        show (keptS D ls (waitsI D) keep j).set ((waitsI D).getD j 0).toNat _ = _
        rw [hi]
        rfl
      have ek := keptI_eq (keep.getD j 0)
      have ek2 := keptI_le (keep.getD j 0)
      generalize keptI (keep.getD j 0) = kk at *
      generalize keep.getD j 0 = y at *
      have c1 := hD1.c1
      have hkey : Hid (keyOf Tryd.prog 3 (.int .i64 i) = some (.int .i64 i)) := Lib.hid (keyOf_int_mk Tryd.underlying3 (WalkArith.wf_i64 (by have := HC.out.most; omega)))
      have Hd := Lib.hid hd
      have Hsw := Lib.hid hsw
      have Hb := Lib.hid hb
      have HD1 := Lib.hid hD1
      have Hek := Lib.hid ekept
      have Hlt := Lib.hid hlt
      have Hck := Lib.hid hck
      have Hek2 := Lib.hid ek2
      have gk : (kk : Int) ≤ 512 := by omega
      clear hd hsw hb hD1 ekept hlt hj hjn hjk hx0 hi hcell1 hcell2 hck ek2
      go_wp2_with (first
        | (at_lookup; refine wpList_lookup_sec rfl (.tmp 42) (.tmp 43) rfl M k D rfl HD1.out.waits i rfl hkey.out ?_; intro hel; have Hel := Lib.hid hel; clear hel)
        | (refine wpList_alloc47 rfl rfl ?_; intro w6 r6 hb6 hz6; have R6 := Lib.hid r6; have HB6 := Lib.hid hb6; clear r6 hb6 hz6)
        | (refine wpList_store47 rfl (.tmp 10) (.tmp 44) rfl wr.heap.size rfl (elemI D i) rfl Hel.out (List.replicate 512 0) R6.out (List.length_replicate ..) ?_; intro w7 r7 hb7 hz7; have R7 := Lib.hid r7; have HB7 := Lib.hid (HB6.out.trans hb7); have hck7 : w7.cell? ⟨b1, o1 + j, none⟩ = some (.int .i64 y) := (HB7.out.cell (p := ⟨b1, o1 + j, none⟩) (Nat.lt_of_lt_of_le hl1 Hb.out.size)).trans Hck.out; clear r7 hb7 hz7))
      have hg7 : wr.heap.size < w7.heap.size := R7.out.lt
      have HD7 := Lib.hid (Hd.out.keep HB7.out)
      have Hsw7 := Lib.hid (Hsw.out.keep HB7.out)
      have Hb7 := Lib.hid (Hb.out.trans (HB7.out.mono Hb.out.size))
      clear hcj c1 hck7 HB6 HB7 R6 Hd Hsw Hb HD1 Hck hg7
      generalize wr.heap.size = g at *
      have d1 : ∀ g' : Above w7.drew, g'.1.cell? ⟨p', 0, none⟩ = some (.slice (some ⟨B', 0, none⟩) n c') := fun g' => (g'.2.cell (p := ⟨p', 0, none⟩) HD7.out.obj.lt).trans HD7.out.c0
      refine wp_region_segsT 9 [([0, 4, 7, 8], 1)] [2, 3, 5, 6] (by kernel_rfl) (by kernel_rfl) ⟨by kernel_rfl, by decide⟩ (by kernel_rfl) (by kernel_rfl) (fun _ _ d _ _ h => by cases d <;> exact h) ?_
      refine wpSegsT_next (by simp [pickOps]; rfl) ?_
      repeat (go_big_quiet_step (fail))
      refine wpQuiet_nil ?_
      refine wpOp_alone rfl rfl (fun K' hK' => ?_)
      go_simp
      refine hK' _ _ ⟨Below.refl _ _, ?_⟩
      clear hK' K'
      refine wpSegsT_last (by simp [pickOps]; rfl) ?_
      repeat (go_big_quiet_step (fail))
      refine wpQuiet_nil ?_
      refine wpOp_alone rfl rfl (fun K' hK' => ?_)
      refine wp_copy_sec (.tmp 57) (.tmp 59) rfl B' i 512 rfl g kk 512 rfl Hek2.out (elemI D i) Hel.out R7.out.drew _ HD7.out.secs (by rw [HD7.out.len]; exact Int.ofNat_lt.1 gi) ?_
      intro cs v hs8
      refine hK' _ _ ?_
      clear hK' K' d1
      have hd8 := (HD7.out.keep ((Below.refl w7.heap.size w7).drew)).setSec hs8 (by rw [List.length_set])
      have hsw8 := (Hsw7.out.keep ((Below.refl w7.heap.size w7).drew)).setRow (B := B') Ha5.out cs
      have hb8 := below_setRow Hb7.out.drew HD7.out.baseB cs
      rw [← Hek.out] at hd8
      have Hd8 := Lib.hid hd8
      have Hsw8 := Lib.hid hsw8
      have Hb8 := Lib.hid hb8
      clear hs8 hd8 hsw8 hb8 HD7 Hsw7 Hb7 R7
      have s1 : (j : Int) + 1 ≤ m := by omega
      generalize w7.drew.setRow B' cs = w8 at *
      go_wp2_with fail
      go_roundw
      case rel => exact ⟨j + 1, by have := Hlt.out; omega, by go_num, Hd8.out, Hsw8.out, Hb8.out⟩
      case measure => have := Hlt.out; simp [intOf]; omega
    · obtain rfl : j = m := by omega
      have Hd := Lib.hid hd
      have Hb := Lib.hid hb
      clear hd hb hsw hlt hj
      go_wp2_with fail
      go_ret2
      exact ⟨_, _, _, _, rfl, Hb.out, Hd.out⟩
end Go.Proofs.YtnllladoipcfkaaDoor

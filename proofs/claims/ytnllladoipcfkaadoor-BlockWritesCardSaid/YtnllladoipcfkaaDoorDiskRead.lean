/- Read on a disk; a copy of its sectors (slices.Clone). No conditions but those that stand in each lemma. -/
import Derived.Test.YtnllladoipcfkaaDoorDiskNew
namespace Go.Proofs.YtnllladoipcfkaaDoor
open Go.RowKit Go.Maps

theorem atKey_has {D : DataW Unit} {kl : Lit} (h : has D kl = true) (z z' : DataW Unit) : D.atKey kl z = D.atKey kl z' := by
  unfold DataW.atKey
  cases D with
  | map es =>
    rw [has_eq] at h
    cases hf : es.find? (fun p => p.1.sameKey kl) with
    | some q => simp only [hf]
    | none =>
      rw [List.find?_eq_none] at hf
      obtain ⟨q, hq, hs⟩ := List.any_eq_true.1 h
      exact absurd hs (hf q hq)
  | _ => cases h
set_option maxRecDepth 100000 in
theorem sread_any {w : World} {base p B M n c k : Nat} {ls : List (List Int)} {D : DataW Unit} {f : Bool} {l : Int} (h : Disk w base p B M n c k ls D f l) (i : Nat) (hi : i < n) :
    Calls Tryd.prog 13 #[.pointer (some ⟨p, 0, none⟩), .int .i64 i] w fun e w' => ∃ g, e = .returned (.tuple #[.slice (some ⟨g, 0, none⟩) 512 512, .int .i64 0]) ∧ w.heap.size ≤ g ∧ Below w.heap.size w w' ∧ Row w' g 62 (bcells (flushI D ls i)) ∧ (flushI D ls i).length = 512 := by
  have gi : (i : Int) < n := by omega
  have hx : 0 ≤ (i : Int) ∧ (i : Int) < n := by omega
  have c0 := h.c0
  have c1 := h.c1
  have hkey : keyOf Tryd.prog 3 (.int .i64 i) = some (.int .i64 i) := keyOf_int_mk Tryd.underlying3 (WalkArith.wf_i64 (by have := h.most; omega))
  have Hkey := Lib.hid hkey
  have Hx := Lib.hid hx
  have Hi := Lib.hid hi
  have H := Lib.hid h
  have hl : (ls.getD i []).length = 512 := h.secs.at_ (by rw [h.len]; exact hi)
  have Hl := Lib.hid hl
  have zlen : (List.replicate 512 (0 : Int)).length = 512 := List.length_replicate ..
  have Hz := Lib.hid zlen
  clear hkey hx hi h zlen hl
  cases hh : has D (.int .i64 i)
  · have hfl : flushI D ls i = ls.getD i [] := by unfold flushI; rw [atKey_of_not_has hh, unD_secD]
    rw [hfl]
    have hcs := Lib.hid (H.out.secs.cells (i := i) (by rw [H.out.len]; exact Hi.out))
    clear hfl
    generalize ls.getD i [] = t at *
    go_enter Tryd.func13, Tryd.ntmps13
    go_wp2_with fail
    refine (disk_has H.out i).mono ?_
    rintro e w1 ⟨rfl, rfl⟩
    rw [if_pos Hx.out]
    go_wp2_with (first
      | (at_lookup; refine wpList_lookup_own_ok _ rfl (.tmp 19) (.tmp 20) 43 rfl 3 62 law3 Tryd.underlying43 secR (Tryd.zero47 _) (secD (List.replicate 512 0)) [] (secR_mk _ Hz.out) M k D rfl H.out.waits (.int .i64 i) (.int .i64 i) rfl Hkey.out ?_; intro v ps hv; obtain ⟨s, hs, rfl, hy⟩ := secR_inv hv; have Hs := Lib.hid hs; have Hy := Lib.hid hy; clear hv hs hy)
      | (refine wpList_alloc47 rfl rfl ?_; intro w3 r3 hb3 hz3; have Hz3 := Lib.hid hz3; have R3 := Lib.hid r3; have H3 := Lib.hid hb3; clear r3 hb3 hz3)
      | (refine wpList_store47 rfl (.tmp 7) (.tmp 22) rfl w1.heap.size rfl s rfl Hs.out (List.replicate 512 0) R3.out Hz.out ?_; intro w4 r4 hb4 hz4; have Hz4 := Lib.hid hz4; have R4 := Lib.hid r4; have H4 := Lib.hid hb4; have H14 := Lib.hid (H3.out.trans hb4); have Hc4 := Lib.hid (hcs.out.keep H14.out H.out.secs.lt); have c04 : w4.cell? ⟨p, 0, none⟩ = some (.slice (some ⟨B, 0, none⟩) n c) := (H14.out.cell (p := ⟨p, 0, none⟩) H.out.obj.lt).trans c0; clear r4 hb4 hz4)
      | (refine wpList_load_cells rfl 62 (.tmp 31) rfl B (i * 512) rfl (bcells t) _ Hc4.out Tryd.underlying62 rfl (by rw [Tryd.size47, bcells_size, Hl.out]) ?_)
      | (refine wpList_store47 rfl (.tmp 7) (.tmp 32) rfl w1.heap.size rfl t rfl Hl.out s R4.out Hs.out ?_; intro w5 r5 hb5 hz5; have R5 := Lib.hid r5; have H5 := Lib.hid hb5; clear r5 hb5 hz5))
    go_ret2
    exact ⟨_, rfl, Nat.le_refl _, H14.out.trans H5.out, R5.out, Hl.out⟩
  · go_enter Tryd.func13, Tryd.ntmps13
    go_wp2_with fail
    refine (disk_has H.out i).mono ?_
    rintro e w1 ⟨rfl, rfl⟩
    rw [if_pos Hx.out]
    go_wp2_with (first
      | (at_lookup; refine wpList_lookup_own_ok _ rfl (.tmp 19) (.tmp 20) 43 rfl 3 62 law3 Tryd.underlying43 secR (Tryd.zero47 _) (secD (List.replicate 512 0)) [] (secR_mk _ Hz.out) M k D rfl H.out.waits (.int .i64 i) (.int .i64 i) rfl Hkey.out ?_; intro v ps hv; obtain ⟨s, hs, rfl, hy⟩ := secR_inv hv; have Hs := Lib.hid hs; have Hy := Lib.hid hy; clear hv hs hy)
      | (refine wpList_alloc47 rfl rfl ?_; intro w3 r3 hb3 hz3; have Hz3 := Lib.hid hz3; have R3 := Lib.hid r3; have H3 := Lib.hid hb3; clear r3 hb3 hz3)
      | (refine wpList_store47 rfl (.tmp 7) (.tmp 22) rfl w1.heap.size rfl s rfl Hs.out (List.replicate 512 0) R3.out Hz.out ?_; intro w4 r4 hb4 hz4; have Hz4 := Lib.hid hz4; have R4 := Lib.hid r4; have H4 := Lib.hid hb4; clear r4 hb4 hz4))
    go_ret2
    have hfl : flushI D ls i = s := by
      have := congrArg Prod.fst Hy.out
      unfold flushI
      rw [atKey_has hh _ (secD (List.replicate 512 0))]
      rw [show D.atKey (.int .i64 i) (secD (List.replicate 512 0)) = secD s from this, unD_secD]
    rw [hfl]
    exact ⟨_, rfl, Nat.le_refl _, H3.out.trans H4.out, R4.out, Hs.out⟩

theorem secs_news {w : World} {B : Nat} {ls : List (List Int)} (h : Secs w B ls) : ∀ j u, (cellsOf .u8 ls.flatten)[j]? = some u → w.cell? ((⟨B, 0, none⟩ : Addr).add j) = some u := by
  obtain ⟨_, zs, hr⟩ := h
  intro j u hu
  have hadd : (⟨B, 0, none⟩ : Addr).add j = ⟨B, j, none⟩ := by unfold Addr.add; split <;> simp_all
  rw [hadd]
  refine hr.cell ?_
  have hj : j < (cellsOf .u8 ls.flatten).length := (List.getElem?_eq_some_iff.1 hu).1
  rw [List.getElem?_toArray, List.getElem?_append_left hj, hu]
theorem secs_own {w : World} {base n : Nat} {ls : List (List Int)} {v : Value} (h1 : ∀ s ∈ ls, s.length = 512) (hp : 1 ≤ n) (h : w.ownsRow base 62 512 v n (cellsOf .u8 ls.flatten)) :
    ∃ g c, v = .slice (some ⟨g, 0, none⟩) n c ∧ base ≤ g ∧ Secs w g ls := by
  rcases h.2 with ⟨_, h0⟩ | ⟨g, cap, cur, rfl, hg, hr, _, _, _, ht⟩
  · omega
  · refine ⟨g, cap, rfl, hg, h1, cur.toList.drop (n * 512), ?_⟩
    rw [← ht, List.take_append_drop, Array.toArray_toList]
    exact hr
theorem secs_flat {w : World} {B : Nat} {ls : List (List Int)} (h : Secs w B ls) : (cellsOf .u8 ls.flatten).length = ls.length * 512 := by rw [cellsOf_length, flatten_length h.1]
theorem eql_nil (w : World) (a : Addr) (n c : Nat) : (binOp .eql 42 (.slice (some a) n c) (.slice none 0 0)).run Tryd.prog w = .ok (.bool false) w := by kernel_rfl
set_option maxRecDepth 100000 in
theorem clone_any {w : World} {B n c : Nat} {ls : List (List Int)} (h : Secs w B ls) (hn : ls.length = n) (hp : 1 ≤ n) (hm : n ≤ 8192) :
    Calls Tryd.prog 28 #[.slice (some ⟨B, 0, none⟩) n c] w fun e w' => ∃ g c', e = .returned (.slice (some ⟨g, 0, none⟩) n c') ∧ w.heap.size ≤ g ∧ Secs w' g ls ∧ Below w.heap.size w w' := by
  obtain ⟨i0, hi, hz0', hz1, hz2⟩ := Tryd.info47
  obtain ⟨z, hz0, hzs0⟩ : ∃ z, i0.zero = some z ∧ z.cells.size = 512 := ⟨_, hz0', by show (bcells _).size = _; rw [bcells_size, List.length_replicate]⟩
  clear hz0'
  have hl := secs_flat h
  rw [hn] at hl
  have Hl := Lib.hid hl
  have H := Lib.hid h
  have Hi := Lib.hid hi
  have Hz0 := Lib.hid hz0
  have Hz1 := Lib.hid hz1
  have Hz2 := Lib.hid hz2
  have hzs := Lib.hid hzs0
  have hb0 : Hid (Below w.heap.size w (w.alloc (.cells #[] 62))) := Lib.hid ((Below.refl _ _).alloc (Nat.le_refl _) _)
  have hown := Lib.hid (World.ownsRow_made (base := w.heap.size) (e := 62) (size := 512) w #[] 0 (Nat.le_refl _) (by unfold maxLen; omega) rfl)
  have Hm := Lib.hid hm
  have Hp := Lib.hid hp
  have hq := eql_nil
  clear hn hl h hi hz0 hzs0 hz1 hz2 hm hp
  go_enter Tryd.func28, Tryd.ntmps28
  go_wp2_with (at_builtin; refine wpList_append_own_at _ rfl (.tmp 5) (.tmp 6) 42 rfl w.heap.size 62 i0 z 512 512 Tryd.underlying42 Hi.out Hz0.out Hz1.out Hz2.out hzs.out (by decide) _ 0 [] rfl hown.out ⟨B, 0, none⟩ n c (cellsOf .u8 ls.flatten) rfl Hl.out (secs_news (H.out.keep hb0.out)) (cellsOf_one _ _) (by have := Hm.out; unfold maxLen; omega) (by have := Hm.out; omega) (by have := hb0.out.size; omega) ?_; intro v w1 h1 h2 h3 h4; have H1 := Lib.hid h1; have H2 := Lib.hid h2; clear h1 h2 h3 h4)
  go_ret
  obtain ⟨g, c', rfl, hg, hs⟩ := secs_own H.out.1 Hp.out (by simpa using H1.out)
  refine ⟨g, c', rfl, hg, hs, hb0.out.trans ?_⟩
  have h2 := H2.out
  exact ⟨h2.os, h2.tape, h2.output, h2.size, fun k hk => h2.block k (by have := hb0.out.size; omega) (by intro e; have e2 : some k = some w.heap.size := e; injection e2 with e2; omega)⟩
end Go.Proofs.YtnllladoipcfkaaDoor

/- LeafBack's walk: a node that is put is read as it was, its bytes are at most four and the weights of its entries, and each key is found; of a node that is not right no bytes are told. -/
import Derived.Test.YtnoofmdhhlcbkaaLfRead
import Derived.Test.YtnoofmdhhlcbkaaLfFew
import Derived.Test.YtnoofmdhhlcbkaaLfSeek
import Derived.Test.YtnoofmdhhlcbkaaElsB
import Derived.Test.YtnoofmdhhlcbkaaCut
namespace Go.Proofs.Ytnoofmdhhlcbkaa
open Go.RowKit
namespace Lf
open Els

/-- The least node: one empty key, one empty value. -/
def least : Nd := ⟨0, [[]], [[]], []⟩
theorem least_ok : least.Ok := ⟨by decide, by decide, fun l hl => by rw [List.mem_singleton.1 hl]; exact IsBytes.nil, fun l hl => by rw [List.mem_singleton.1 hl]; exact IsBytes.nil, fun p hp => by cases hp⟩
theorem least_all : allB least = [0, 1, 0, 0, 0] := by decide +kernel
theorem least_right : Right least := by
  have one : ∀ i, i < least.keys.length → i = 0 := fun i hi => by have : i < 1 := hi; omega
  refine ⟨⟨⟨by decide, by decide, by decide, by decide, fun _ => ⟨rfl, rfl⟩, fun h => by cases h⟩, fun i hi => ?_, fun i hi => ?_⟩, by rw [least_all]; decide⟩
  · rw [one i hi]; rfl
  · rw [one i hi]; rfl
theorem least_put {xs : List Int} {e : Int} (h : PutOk least xs e) : e = 0 ∧ xs.length = 5 := by
  rcases h with ⟨_, h2, h3⟩ | ⟨h1, _⟩
  · rw [h2, least_all]; exact ⟨h3, rfl⟩
  · exact absurd least_right h1
/-- Rows of one empty text. -/
theorem nil_rows {w : World} {g : Nat} (h : Row w g 22 #[.slice none 0 0]) : Rows w (some ⟨g, 0, none⟩) 1 [.slice none 0 0] [[]] :=
  ⟨csrc_row h, ⟨rfl, fun i hi => by
    obtain rfl : i = 0 := by simpa using hi
    exact ⟨_, rfl, BB.nil w⟩⟩, Nat.le_refl _, by unfold maxLen; omega⟩
/-- At a round's head: the weights of so many entries. -/
def BackAt (M : Nd) (w6 : World) (s i : Value) (wr : World) : Prop := ∃ k : Nat, k ≤ M.keys.length ∧ i = .int .i64 (k : Int) ∧ s = .int .i64 ((4 + sumW M k : Nat) : Int) ∧ Below w6.heap.size w6 wr
theorem weight_le {n : Nd} (h : Shape n) (i : Nat) (hi : i < n.keys.length) : weightB n i ≤ 1300 := by
  have h1 := h.keyLen hi
  have h2 := shortOf_ten (n.key i).length (by omega)
  unfold weightB textL
  rw [List.length_append]
  by_cases h0 : n.level = 0
  · rw [if_pos h0, List.length_append]
    have h3 := h.valLen h0 hi
    have h4 := shortOf_ten (n.val i).length (by omega)
    omega
  · rw [if_neg h0]; omega
theorem sumW_le {n : Nd} (h : Shape n) : ∀ k, k ≤ n.keys.length → sumW n k ≤ 1300 * k
  | 0, _ => Nat.le_refl _
  | k + 1, hk => by
    have := sumW_le h k (by omega)
    have := weight_le h k (by omega)
    rw [sumW]
    omega
/-- A pointer is itself. -/
theorem exec_neq_self {ρ : Operand → Value} {o : Oper} {t : TypeId} {x y : Operand} (ho : o.op = .binOp .neq 43 x y t) {p : Pt} (hp : p.sha.length = 32) (hx : ρ x = .agg (pcells p)) (hy : ρ y = .agg (pcells p)) (w : World) : (execOp ρ o).run Try.prog w = .ok (.value (.bool false)) w := by
  have hm : Try.prog.eqGuardType Try.prog.depth 43 = false := by kernel_rfl
  have h := neq_pts w p p hp hp
  rw [Pt.same_self] at h
  unfold execOp
  simp only [ho, hx, hy, Sem.run_bind, run_eqGuard_agg (hm := hm), h, Result.andThen_ok, Sem.run_pure]
  rfl
set_option maxRecDepth 100000 in
set_option maxHeartbeats 16000000 in
theorem back_any {n : Nd} {A1 : Option Addr} {c1 : Nat} {ks : List Value} {A2 : Option Addr} {c2 : Nat} {vs : List Value} {A3 : Option Addr} {c3 : Nat} {w : World} (at_ : NdAt w n A1 c1 ks A2 c2 vs A3 c3) (ok : n.Ok) :
    Calls Try.prog 4 #[.agg (ndC n A1 c1 A2 c2 A3 c3)] w fun e w' => e = .returned (.bool true) ∧ Below w.heap.size w w' := by
  have HAt := Lib.hid at_
  have Hok := Lib.hid ok
  clear at_ ok
  go_enter Try.func4, Try.ntmps4
  go_wp2_with (first
    | (refine wpList_boxN rfl _ rfl rfl ?_; intro w1 hr1 hb1 hz1; have HR := Lib.hid hr1; have HB := Lib.hid hb1; clear hr1 hb1)
    | (refine wpList_loadN ltP _ rfl rfl _ rfl HR.out ?_))
  refine (few_any (HAt.out.keep HB.out)).mono ?_
  rintro e w2 ⟨x1, rfl, hb2⟩
  have HR2 := Lib.hid (HR.out.keep hb2)
  have B2 := Lib.hid (HB.out.trans (hb2.mono HB.out.size))
  clear HR HB hb2
  cases x1 with
  | false =>
    go_wp2_with fail
    go_ret
    exact ⟨rfl, B2.out⟩
  | true =>
    go_wp2_with (refine wpList_loadN ltP _ rfl rfl _ rfl HR2.out ?_)
    refine (nput_any (HAt.out.keep B2.out) Hok.out).mono ?_
    rintro e w3 ⟨S, k, d, xs, er, rfl, hk, hp, ho, hb3⟩
    have HR3 := Lib.hid (HR2.out.keep hb3)
    have B3 := Lib.hid (B2.out.trans (hb3.mono B2.out.size))
    have HP := Lib.hid hp
    have HK := Lib.hid hk
    have HO := Lib.hid ho
    clear HR2 B2 hb3 hk hp ho
    by_cases he : er = 0
    · subst he
      have HRt : Hid (Right n ∧ xs = allB n) := by
        rcases HP.out with ⟨h1, h2, _⟩ | ⟨_, _, h⟩
        · exact ⟨h1, h2⟩
        · omega
      go_wp2_with fail
      refine (nread_any S k d xs _ HK.out HO.out.src (HP.out.bytes Hok.out) (by have := HO.out.cap.1; have := HK.out; omega) (by have := HO.out.cap.2; unfold maxLen at this; omega)).mono ?_
      rintro e w4 ⟨B0, M, C1, d1, ks', C2, d2, vs', C3, d3, er2, rfl, hnd, hri, hb4⟩
      rw [HRt.out.2] at hri
      obtain ⟨rfl, rfl⟩ := hri.one (read_put_is Hok.out HRt.out.1)
      have HM := Lib.hid hnd
      have HR4 := Lib.hid (HR3.out.keep hb4)
      have B4 := Lib.hid (B3.out.trans (hb4.mono B3.out.size))
      have HKl := Lib.hid HK.out
      clear hnd hri hb4 HR3 B3 HO HP
      go_wp2_with (first
        | (refine wpList_allocN ltP rfl rfl ?_; intro w5 r5 b5 z5)
        | (refine wpList_storeN ltP rfl _ _ rfl _ rfl rfl _ rfl r5 ?_; intro w6 r6 o6; have h46 : Below w4.heap.size w4 w6 := b5.trans (o6.below.mono (Nat.le_refl _)); have V6 := Lib.hid r6; have R6 := Lib.hid (HR4.out.keep h46); have M6 := Lib.hid (HM.out.keep h46); have B6 := Lib.hid (B4.out.trans (h46.mono B4.out.size)); have p0 := row_level r6; have p1 := row_keys r6; have p2 := row_vals r6; have p3 := row_kids r6; have q0 := row_level R6.out; have q1 := row_keys R6.out; have q2 := row_vals R6.out; have q3 := row_kids R6.out; clear r5 b5 z5 r6 o6 h46))
      -- the loop
      go_loopw [8, 9] (fun s i wr => BackAt M w6 s i wr) (fun _ i _ => M.keys.length - (intOf i).toNat)
      case atStart => exact ⟨0, Nat.zero_le _, rfl, rfl, Below.refl _ _⟩
      case round =>
        clear p0 p1 p2 p3 q0 q1 q2 q3
        obtain ⟨i, hi, rfl, rfl, hb⟩ := hrel
        have HI := Lib.hid hi
        have HBr := Lib.hid hb
        have hsh := HRt.out.1.shape
        have hlen := hsh.start.most
        have HSH := Lib.hid hsh
        obtain ⟨q, hq⟩ : ∃ q : Nat, Hid (q = 4 + sumW M i) := ⟨_, rfl⟩
        have hqb : q ≤ 4 + 1300 * i := by rw [hq.out]; have := sumW_le hsh i hi; omega
        have e0 : ((4 + sumW M i : Nat) : Int) = (q : Int) := by rw [hq.out]
        rw [e0]
        clear e0 hi hb hsh
        have q1 := row_keys (R6.out.keep HBr.out)
        by_cases hlt : i < M.keys.length
        · have i1 : (i : Int) < (M.keys.length : Int) := by omega
          have hkl := HSH.out.keyLen hlt
          have AA := HAt.out.keep (B6.out.trans (HBr.out.mono B6.out.size))
          have MM := M6.out.keep HBr.out
          obtain ⟨b1, o1, v1, hA1, hlt1, hc1, S1, e1, hv1, hs1, _, _⟩ := AA.keys.at_ i hlt
          obtain ⟨b2, o2, v2, hA2, hlt2, hc2, S2, e2, hv2, hs2, _, _⟩ := MM.at_.keys.at_ i hlt
          subst hv1 hv2 hA1 hA2
          obtain ⟨y, HY⟩ : ∃ y, Hid (y = M.keys.getD i []) := ⟨_, rfl⟩
          have hkl' : y.length ≤ 160 := by rw [HY.out]; exact hkl
          rw [← HY.out] at hc1 hc2 hs1 hs2
          have HYB : Hid (IsBytes y) := by rw [HY.out]; exact getD_bytes Hok.out.keysB i
          have HRs : Hid (Rising M.keys) := fun j hj => HSH.out.rises hj
          have HVr := V6.out.keep HBr.out
          have HRr := R6.out.keep HBr.out
          go_wp2_with fail
          obtain ⟨B, hB⟩ : ∃ B, Hid (B = wr.heap.size) := ⟨_, rfl⟩
          have HbB : Hid (Below w6.heap.size w6 wr.drew) := HBr.out.drew
          have HBle : Hid (w6.heap.size ≤ B) := by rw [hB.out]; exact HBr.out.size
          have hd0 : Below B wr wr.drew := (Below.refl _ _).drew
          have LC1 := Lib.hid (fun (u : World) (h : Below B wr.drew u) => (h.cell (p := ⟨b1, o1 + i, none⟩) (by rw [hB.out]; exact hlt1)).trans hc1)
          have LC2 := Lib.hid (fun (u : World) (h : Below B wr.drew u) => (h.cell (p := ⟨b2, o2 + i, none⟩) (by rw [hB.out]; exact hlt2)).trans hc2)
          have LQ := Lib.hid (fun (u : World) (h : Below B wr.drew u) => (HRr.drew).keepB h (by rw [hB.out]; exact HRr.lt))
          have LV := Lib.hid (fun (u : World) (h : Below B wr.drew u) => (HVr.drew).keepB h (by rw [hB.out]; exact HVr.lt))
          have LS1 := Lib.hid (fun (u : World) (h : Below B wr.drew u) => Src.keep (w := wr.drew) hs1 (by rw [hB.out] at h; exact h))
          have LS2 := Lib.hid (fun (u : World) (h : Below B wr.drew u) => Src.keep (w := wr.drew) hs2 (by rw [hB.out] at h; exact h))
          have LM := Lib.hid (fun (u : World) (h : Below B wr.drew u) => NdO.keep (w := wr.drew) (NdO.keep MM ((Below.refl _ _).drew)) (by rw [hB.out] at h; exact h))
          have HBs : Hid (B ≤ wr.drew.heap.size) := by rw [hB.out]; exact Nat.le_refl _
          obtain ⟨Y, hY⟩ : ∃ Y, Hid (Y = strOfNums y) := ⟨_, rfl⟩
          have LT1 := Lib.hid (fun (u : World) (h : Below B wr.drew u) => run_text u S1 y.length e1 y rfl (LS1.out u h))
          have LT2 := Lib.hid (fun (u : World) (h : Below B wr.drew u) => run_text u S2 y.length e2 y rfl (LS2.out u h))
          rw [← hY.out] at LT1 LT2
          clear q1 hc1 hc2 hs1 hs2 AA MM hlt1 hlt2 HVr HRr hd0 hkl
          refine wp_region_tree (Below B) (.one [0, 1, 2, 3, 4, 5, 6, 7, 8, 9, 10, 11, 12, 13, 15, 16, 17, 18, 19, 21, 14] 20 (.two [22, 23, 24, 27, 28, 29, 30, 31, 36, 25] 26 33 (.two [] 32 33 (.one [] 33 (.one [] 34 (.one [] 35 (.last [37, 38])))) (.one [] 32 (.one [] 34 (.one [] 35 (.last [37, 38]))))) (.one [] 26 (.one [] 32 (.one [] 34 (.one [] 35 (.last [37, 38]))))))) (by kernel_rfl) (by kernel_rfl) (by kernel_rfl) (fun _ _ d _ _ h => by cases d <;> exact h) ?_
          have HB0 : Hid (Below B wr.drew wr.drew) := Below.refl _ _
          generalize wr.drew = wd at *
          have k1 : ∀ x : AboveR (Below B) wd, x.1.cell? ⟨b1, o1 + i, none⟩ = some (.slice S1 y.length e1) := fun x => LC1.out x.1 x.2
          have k2 : ∀ x : AboveR (Below B) wd, x.1.cell? ⟨b2, o2 + i, none⟩ = some (.slice S2 y.length e2) := fun x => LC2.out x.1 x.2
          have k3 : ∀ x : AboveR (Below B) wd, x.1.cell? ⟨w.heap.size, 1, none⟩ = some (.slice (some ⟨b1, o1, none⟩) M.keys.length c1) := fun x => row_keys (LQ.out x.1 x.2)
          have k4 : ∀ x : AboveR (Below B) wd, x.1.cell? ⟨w4.heap.size, 1, none⟩ = some (.slice (some ⟨b2, o2, none⟩) M.keys.length d1) := fun x => row_keys (LV.out x.1 x.2)
          have k5 : ∀ x : AboveR (Below B) wd, (convert 22 9 (.slice S1 y.length e1)).run Try.prog x.1 = .ok (.string Y) x.1 := fun x => LT1.out x.1 x.2
          have k6 : ∀ x : AboveR (Below B) wd, (convert 22 9 (.slice S2 y.length e2)).run Try.prog x.1 = .ok (.string Y) x.1 := fun x => LT2.out x.1 x.2
          refine wpTree_one (by simp [pickOps]; rfl) ?_
          repeat (go_big_quiet_step (fail))
          refine wpQuiet_runR rfl _ (fun g => exec_load_row rfl rfl (LV.out g.1 g.2) ltP.struct rfl (ltP.sz M _ d1 C2 d2 C3 d3)) ?_
          refine wpQuiet_nil ?_
          clear k1 k2 k3 k4 k5 k6
          refine wpOp_alone rfl rfl (fun K hK => ?_)
          go_simp
          refine (find_any M (some ⟨b2, o2, none⟩) d1 ks' C2 d2 C3 d3 S1 y.length e1 y _ (LM.out wd HB0.out).at_.keys Hok.out.keysB rfl (LS1.out wd HB0.out) HYB.out).mono ?_
          rintro e u0 ⟨qf, rfl, hqf, hbf⟩
          obtain rfl : qf = (i : Int) := find_key HRs.out hlt (by rw [← HY.out]; exact hqf)
          have hbf' := hbf.mono HBs.out
          have HB0 := Lib.hid (HB0.out.trans hbf')
          refine hK _ _ ⟨hbf', ?_⟩
          clear hK K hqf hbf hbf'
          have le0 : B ≤ u0.heap.size := Nat.le_trans HBs.out HB0.out.size
          have k1 : ∀ x : AboveR (Below B) u0, x.1.cell? ⟨b1, o1 + i, none⟩ = some (.slice S1 y.length e1) := fun x => LC1.out x.1 (HB0.out.trans x.2)
          have k3 : ∀ x : AboveR (Below B) u0, x.1.cell? ⟨w.heap.size, 1, none⟩ = some (.slice (some ⟨b1, o1, none⟩) M.keys.length c1) := fun x => row_keys (LQ.out x.1 (HB0.out.trans x.2))
          refine wpTree_two (by simp [pickOps]; rfl) ?_
          repeat (go_big_quiet_step (fail))
          refine wpQuiet_runR rfl _ (fun g => exec_load_row rfl rfl (LV.out g.1 (HB0.out.trans g.2)) ltP.struct rfl (ltP.sz M _ d1 C2 d2 C3 d3)) ?_
          refine wpQuiet_nil ?_
          clear k1 k3
          refine ⟨?_, ?_⟩
          · refine wpOp_alone rfl rfl (fun K hK => ?_)
            refine wp_made rfl ?_
            have bz1 : Below u0.heap.size u0 (u0.alloc (.cells #[] 5)) := (Below.refl _ _).alloc (Nat.le_refl _) _
            have O26 := own_made u0 B le0
            have lt26 : u0.heap.size < (u0.alloc (.cells #[] 5)).heap.size := by rw [World.alloc]; simp
            have ad26 : ∀ a, (some ⟨u0.heap.size, 0, none⟩ : Option Addr) = some a → a.block = u0.heap.size := fun a ha => by injection ha with ha; rw [← ha]
            generalize u0.alloc (.cells #[] 5) = u1 at *
            have HB1 := Lib.hid (HB0.out.trans (bz1.mono le0))
            have le1 : B ≤ u1.heap.size := Nat.le_trans HBs.out HB1.out.size
            refine hK _ _ ⟨(bz1.mono le0), ?_⟩
            clear hK K
            simp only [Act.put, List.getElem_toArray, List.getElem_cons_succ, List.getElem_cons_zero, List.setIfInBounds_toArray, List.set_cons_succ, List.set_cons_zero]
            refine wpTree_two (by simp [pickOps]; rfl) ?_
            refine wpQuiet_nil ?_
            refine ⟨?_, ?_⟩
            · refine wpOp_alone rfl rfl (fun K hK => ?_)
              refine wp_append_q (.tmp 118) (.tmp 123) rfl B (some ⟨u0.heap.size, 0, none⟩) 0 0 [] rfl rfl O26 S1 y.length e1 y rfl rfl (LS1.out u1 HB1.out) (by omega) le1 ?_
              intro A2' n2' c2' u2 hn2 ho2 hb2 hbt2 hsz2
              have HN2 := Lib.hid hn2
              clear hn2
              have HB2 := Lib.hid (HB1.out.trans hb2)
              have le2 : B ≤ u2.heap.size := Nat.le_trans HBs.out HB2.out.size
              refine hK _ _ ⟨hb2, ?_⟩
              clear hK K
              simp only [Act.put, List.getElem_toArray, List.getElem_cons_succ, List.getElem_cons_zero, List.setIfInBounds_toArray, List.set_cons_succ, List.set_cons_zero]
              refine wpTree_one (by simp [pickOps]; rfl) ?_
              refine wpQuiet_nil ?_
              refine wpOp_alone rfl rfl (fun K hK => ?_)
              refine wp_one_el elB rfl (by decide) (by decide) _ rfl (.int .u8 0) rfl rfl ?_
              intro u3 r3 bz3
              have Z : Hid (Src .u8 u3 (some ⟨u2.heap.size, 0, none⟩) [0]) := row_bytes (l := [0]) r3
              have lt33 : u2.heap.size < u3.heap.size := r3.lt
              clear r3
              have ho202 := ho2.keep bz3
              have HB3 := Lib.hid (HB2.out.trans (bz3.mono le2))
              have le3 : B ≤ u3.heap.size := Nat.le_trans HBs.out HB3.out.size
              refine hK _ _ ⟨(bz3.mono le2), ?_⟩
              clear hK K
              simp only [Act.put, List.getElem_toArray, List.getElem_cons_succ, List.getElem_cons_zero, List.setIfInBounds_toArray, List.set_cons_succ, List.set_cons_zero]
              refine wpTree_one (by simp [pickOps]; rfl) ?_
              refine wpQuiet_nil ?_
              refine wpOp_alone rfl rfl (fun K hK => ?_)
              refine wp_append_q (.tmp 124) (.tmp 125) rfl B A2' n2' c2' ([] ++ y) rfl HN2.out ho202 (some ⟨u2.heap.size, 0, none⟩) 1 1 [0] rfl rfl Z.out (by rw [HN2.out, List.nil_append]; exact Nat.le_trans (Nat.add_le_add_right hkl' 1) (by omega)) le3 ?_
              intro A3' n3' c3' u4 hn3 ho3 hb4 hbt4 hsz4
              have HN3 := Lib.hid hn3
              clear hn3
              have HB4 := Lib.hid (HB3.out.trans hb4)
              have le4 : B ≤ u4.heap.size := Nat.le_trans HBs.out HB4.out.size
              refine hK _ _ ⟨hb4, ?_⟩
              clear hK K
              simp only [Act.put, List.getElem_toArray, List.getElem_cons_succ, List.getElem_cons_zero, List.setIfInBounds_toArray, List.set_cons_succ, List.set_cons_zero]
              refine wpTree_one (by simp [pickOps]; rfl) ?_
              refine wpQuiet_nil ?_
              refine wpOp_alone rfl rfl (fun K hK => ?_)
              go_simp
              have hkb : IsBytes ([] ++ y ++ [0]) := IsBytes.append (by rw [List.nil_append]; exact HYB.out) (IsBytes.cons (by omega) IsBytes.nil)
              refine (find_any M (some ⟨b2, o2, none⟩) d1 ks' C2 d2 C3 d3 A3' n3' c3' ([] ++ y ++ [0]) _ (LM.out u4 HB4.out).at_.keys Hok.out.keysB HN3.out ho3.src hkb).mono ?_
              rintro e u5 ⟨q2, rfl, hq2, hbv⟩
              have hle : (i : Int) ≤ q2 := find_more HRs.out hlt 0 [] (by rw [← HY.out]; rw [List.nil_append] at hq2; exact hq2)
              have hb5 := hbv.mono le4
              have t35 : decide (q2 < (i : Int)) = false := by simp; omega
              clear hq2 hkb
              have HB5 := Lib.hid (HB4.out.trans hb5)
              have le5 : B ≤ u5.heap.size := Nat.le_trans HBs.out HB5.out.size
              refine hK _ _ ⟨hb5, ?_⟩
              clear hK K
              try simp only [Act.put, List.getElem_toArray, List.getElem_cons_succ, List.getElem_cons_zero, List.setIfInBounds_toArray, List.set_cons_succ, List.set_cons_zero]
              refine wpTree_last (by simp [pickOps]; rfl) ?_
              go_simp
              repeat (go_big_quiet_step (fail))
              refine wpQuiet_nil ?_
              clear t35 hle Z LC2 LS2 LT1 LT2
              have HB := Lib.hid (HbB.out.trans (HB5.out.mono HBle.out))
              have HBw := Lib.hid (B6.out.trans (HB.out.mono B6.out.size))
              have AQ := LQ.out u5 HB5.out
              have AV := LV.out u5 HB5.out
              have AA := HAt.out.keep HBw.out
              have MM := M6.out.keep HB.out
              have q0 := row_level AQ
              have HLQ := Lib.hid (fun (u : World) (h : Ext u5 u) => LQ.out u (HB5.out.trans (h.mono le5)))
              have HLV := Lib.hid (fun (u : World) (h : Ext u5 u) => LV.out u (HB5.out.trans (h.mono le5)))
              have HLC := Lib.hid (fun (u : World) (h : Ext u5 u) => LC1.out u (HB5.out.trans (h.mono le5)))
              have HLS := Lib.hid (fun (u : World) (h : Ext u5 u) => LS1.out u (HB5.out.trans (h.mono le5)))
              have hyl : (M.key i).length = y.length := by rw [HY.out]; rfl
              obtain ⟨g, hg⟩ : ∃ g : Nat, Hid (g = weightB M i) := ⟨_, rfl⟩
              have hgb : g ≤ 1300 := by rw [hg.out]; exact weight_le HSH.out i hlt
              have hqg : IntKind.i64.wrap ((q : Int) + (g : Int)) = ((q + g : Nat) : Int) := by rw [IntWalk.i64_in _ (by omega)]; rw [Int.natCast_add]
              have hqn : Hid (q + g = 4 + sumW M (i + 1)) := by rw [hq.out, hg.out]; show _ = 4 + (sumW M i + weightB M i); omega
              have hii : IntKind.i64.wrap ((i : Int) + 1) = ((i + 1 : Nat) : Int) := by rw [IntWalk.i64_in _ (by omega)]; rw [Int.natCast_add]; rfl
              clear LQ LV LC1 LS1 LM HB1 HB2 HB3 HB4 HN2 HN3
              by_cases h0 : M.level = 0
              · have hiv : i < M.vals.length := by have := (HSH.out.start.leaf h0).1; omega
                have i2 : (i : Int) < (M.vals.length : Int) := by omega
                obtain ⟨b3, o3, v3, hA3, hlt3, hc3, S3, e3, hv3, hs3, _, _⟩ := AA.vals.at_ i hiv
                obtain ⟨b4, o4, v4, hA4, hlt4, hc4, S4, e4, hv4, hs4, _, _⟩ := MM.at_.vals.at_ i hiv
                subst hv3 hv4 hA3 hA4
                obtain ⟨z, HZ⟩ : ∃ z, Hid (z = M.vals.getD i []) := ⟨_, rfl⟩
                have hzl : z.length ≤ 1024 := by rw [HZ.out]; exact HSH.out.valLen h0 hlt
                have HZl : Hid (g = wgt y.length z.length false) := by rw [hg.out]; unfold weightB wgt; rw [tsz_text, tsz_text, hyl, HZ.out, if_pos h0]; rfl
                rw [← HZ.out] at hc3 hc4 hs3 hs4
                obtain ⟨U, hU⟩ : ∃ U : ByteArray, Hid (U = strOfNums z) := ⟨_, rfl⟩
                have t0 : (M.level == 0) = true := by simp [h0]
                have hc3' : u5.cell? ⟨b3, o3 + i, none⟩ = some (.slice S3 z.length e3) := hc3
                have hc4' : u5.cell? ⟨b4, o4 + i, none⟩ = some (.slice S4 z.length e4) := hc4
                have HC3 := Lib.hid (fun (u : World) (h : Ext u5 u) => (h.cell (p := ⟨b3, o3 + i, none⟩) hlt3).trans hc3')
                have HC4 := Lib.hid (fun (u : World) (h : Ext u5 u) => (h.cell (p := ⟨b4, o4 + i, none⟩) hlt4).trans hc4')
                have HS3 := Lib.hid (fun (u : World) (h : Ext u5 u) => hs3.keep h)
                have HS4 := Lib.hid (fun (u : World) (h : Ext u5 u) => hs4.keep h)
                clear hc3 hc4 hc3' hc4' hs3 hs4 hlt3 hlt4 AA MM AQ AV h0
                go_wp2_with fail
                clear q0
                have k1 : ∀ x : Above u5.drew, x.1.cell? ⟨b3, o3 + i, none⟩ = some (.slice S3 z.length e3) := fun x => HC3.out x.1 (Ext.trans (Ext.drew u5) x.2)
                have k2 : ∀ x : Above u5.drew, x.1.cell? ⟨b4, o4 + i, none⟩ = some (.slice S4 z.length e4) := fun x => HC4.out x.1 (Ext.trans (Ext.drew u5) x.2)
                have k3 : ∀ x : Above u5.drew, x.1.cell? ⟨w.heap.size, 2, none⟩ = some (.slice (some ⟨b3, o3, none⟩) M.vals.length c2) := fun x => row_vals (HLQ.out x.1 (Ext.trans (Ext.drew u5) x.2))
                have k4 : ∀ x : Above u5.drew, x.1.cell? ⟨w4.heap.size, 2, none⟩ = some (.slice (some ⟨b4, o4, none⟩) M.vals.length d2) := fun x => row_vals (HLV.out x.1 (Ext.trans (Ext.drew u5) x.2))
                have k5 : ∀ x : Above u5.drew, (convert 22 9 (.slice S3 z.length e3)).run Try.prog x.1 = .ok (.string U) x.1 := fun x => by rw [hU.out]; exact run_text x.1 S3 z.length e3 z rfl (HS3.out x.1 (Ext.trans (Ext.drew u5) x.2))
                have k6 : ∀ x : Above u5.drew, (convert 22 9 (.slice S4 z.length e4)).run Try.prog x.1 = .ok (.string U) x.1 := fun x => by rw [hU.out]; exact run_text x.1 S4 z.length e4 z rfl (HS4.out x.1 (Ext.trans (Ext.drew u5) x.2))
                refine wp_region_segs [] [0, 1, 2, 3, 4, 5, 6, 7, 8, 9, 10, 11, 12] (by kernel_rfl) (by kernel_rfl) (by kernel_rfl) (by kernel_rfl) (fun _ _ d _ _ h => by cases d <;> exact h) ?_
                refine wpSegs_last (by simp [pickOps]; rfl) ?_
                repeat (go_big_quiet_step (fail))
                refine wpQuiet_nil ?_
                clear k1 k2 k3 k4 k5 k6
                go_wp2_with fail
                have k1 : ∀ x : Above u5.drew.drew, x.1.cell? ⟨b3, o3 + i, none⟩ = some (.slice S3 z.length e3) := fun x => HC3.out x.1 (Ext.trans (Ext.trans (Ext.drew u5) (Ext.drew u5.drew)) x.2)
                have k2 : ∀ x : Above u5.drew.drew, x.1.cell? ⟨b1, o1 + i, none⟩ = some (.slice S1 y.length e1) := fun x => HLC.out x.1 (Ext.trans (Ext.trans (Ext.drew u5) (Ext.drew u5.drew)) x.2)
                have k3 : ∀ x : Above u5.drew.drew, x.1.cell? ⟨w.heap.size, 2, none⟩ = some (.slice (some ⟨b3, o3, none⟩) M.vals.length c2) := fun x => row_vals (HLQ.out x.1 (Ext.trans (Ext.trans (Ext.drew u5) (Ext.drew u5.drew)) x.2))
                have k4 : ∀ x : Above u5.drew.drew, x.1.cell? ⟨w.heap.size, 1, none⟩ = some (.slice (some ⟨b1, o1, none⟩) M.keys.length c1) := fun x => row_keys (HLQ.out x.1 (Ext.trans (Ext.trans (Ext.drew u5) (Ext.drew u5.drew)) x.2))
                refine wp_region_segs [([0, 1, 2, 3, 4, 5, 6, 7, 8, 9, 10], 11)] [12, 13] (by kernel_rfl) (by kernel_rfl) (by kernel_rfl) (by kernel_rfl) (fun _ _ d _ _ h => by cases d <;> exact h) ?_
                refine wpSegs_next (by simp [pickOps]; rfl) ?_
                repeat (go_big_quiet_step (fail))
                refine wpQuiet_nil ?_
                clear k1 k2 k3 k4
                refine wpOp_alone rfl rfl (fun K hK => ?_)
                go_simp
                refine (weight_any S1 S3 y.length e1 z.length e3 false _ (by omega) (by omega)).mono ?_
                rintro e u6 ⟨rfl, hb6⟩
                rw [← HZl.out]
                refine hK _ _ ⟨hb6, ?_⟩
                clear hK K
                refine wpSegs_last (by simp [pickOps]; rfl) ?_
                repeat (go_big_quiet_step (fail))
                refine wpQuiet_nil ?_
                go_wp2_with fail
                go_roundw
                case rel => exact ⟨i + 1, by omega, rfl, by rw [← hqn.out, Int.natCast_add], (HB.out.drew.drew).trans (hb6.mono HB.out.size)⟩
                case measure => simp [intOf]; omega
              · have hp0 : 0 < M.level := by have := HSH.out.start.lo; omega
                have hiv : i < M.kids.length := by have := (HSH.out.start.above hp0).1; omega
                have i2 : (i : Int) < (M.kids.length : Int) := by omega
                obtain ⟨b3, o3, hA3, hlt3, hc3⟩ := pt_at AA.kids i hiv
                obtain ⟨b4, o4, hA4, hlt4, hc4⟩ := pt_at MM.at_.kids i hiv
                subst hA3 hA4
                have HZl : Hid (g = wgt y.length 0 true) := by rw [hg.out]; unfold weightB wgt; rw [tsz_text, hyl, if_neg h0]; rfl
                obtain ⟨p, hp⟩ : ∃ p, Hid (p = M.kids.getD i Pt.zero) := ⟨_, rfl⟩
                have hps : p.sha.length = 32 := by rw [hp.out]; exact (getD_ok Hok.out.kidsB i).shaL
                rw [← hp.out] at hc3 hc4
                have HC3 := Lib.hid hc3
                have HC4 := Lib.hid hc4
                have t0 : (M.level == 0) = false := by simp [h0]
                clear hc3 hc4 AA MM AQ AV h0 hp0
                go_wp2_with fail
                clear q0
                have k3 : ∀ x : Above u5.drew, x.1.cell? ⟨w.heap.size, 3, none⟩ = some (.slice (some ⟨b3, o3, none⟩) M.kids.length c3) := fun x => row_kids (HLQ.out x.1 (Ext.trans (Ext.drew u5) x.2))
                have k4 : ∀ x : Above u5.drew, x.1.cell? ⟨w4.heap.size, 3, none⟩ = some (.slice (some ⟨b4, o4, none⟩) M.kids.length d3) := fun x => row_kids (HLV.out x.1 (Ext.trans (Ext.drew u5) x.2))
                refine wp_region_segs [] [0, 1, 2, 3, 5, 6, 7, 8, 4, 9, 10] (by kernel_rfl) (by kernel_rfl) (by kernel_rfl) (by kernel_rfl) (fun _ _ d _ _ h => by cases d <;> exact h) ?_
                refine wpSegs_last (by simp [pickOps]; rfl) ?_
                repeat (go_big_quiet_step (fail))
                refine wpQuiet_loadPs _ rfl rfl b4 (o4 + i * 36) rfl p hps (HC4.out.keep (Ext.drew u5) hlt4) hlt4 ?_
                refine wpQuiet_loadPs _ rfl rfl b3 (o3 + i * 36) rfl p hps (HC3.out.keep (Ext.drew u5) hlt3) hlt3 ?_
                refine Cut.wpQuiet_run rfl (.bool false) (fun x => exec_neq_self rfl hps rfl rfl x.1) ?_
                repeat (go_big_quiet_step (fail))
                refine wpQuiet_nil ?_
                clear k3 k4
                have q1 := row_keys (HLQ.out _ (Ext.drew u5))
                have q2 := HLC.out _ (Ext.drew u5)
                simp only [Act.put, List.setIfInBounds_toArray, List.set_cons_succ, List.set_cons_zero]
                go_wp2_with fail
                refine (weight_any S1 none y.length e1 0 0 true _ (by omega) (by omega)).mono ?_
                rintro e u6 ⟨rfl, hb6⟩
                rw [← HZl.out]
                clear q1 q2
                go_wp2_with fail
                go_roundw
                case rel => exact ⟨i + 1, by omega, rfl, by rw [← hqn.out, Int.natCast_add], (HB.out.drew).trans (hb6.mono HB.out.size)⟩
                case measure => simp [intOf]; omega
            · refine wpOp_alone rfl rfl (fun K hK => ?_)
              refine wp_one_el elB rfl (by decide) (by decide) _ rfl (.int .u8 0) rfl rfl ?_
              intro u2 r2 bz2
              have Z : Hid (Src .u8 u2 (some ⟨u1.heap.size, 0, none⟩) [0]) := row_bytes (l := [0]) r2
              have lt33 : u1.heap.size < u2.heap.size := r2.lt
              clear r2
              have O101 := O26.keep bz2
              have HB2 := Lib.hid (HB1.out.trans (bz2.mono le1))
              have le2 : B ≤ u2.heap.size := Nat.le_trans HBs.out HB2.out.size
              refine hK _ _ ⟨(bz2.mono le1), ?_⟩
              clear hK K
              simp only [Act.put, List.getElem_toArray, List.getElem_cons_succ, List.getElem_cons_zero, List.setIfInBounds_toArray, List.set_cons_succ, List.set_cons_zero]
              refine wpTree_one (by simp [pickOps]; rfl) ?_
              refine wpQuiet_nil ?_
              refine wpOp_alone rfl rfl (fun K hK => ?_)
              refine wp_append_q (.tmp 118) (.tmp 123) rfl B (some ⟨u0.heap.size, 0, none⟩) 0 0 [] rfl rfl O101 S1 y.length e1 y rfl rfl (LS1.out u2 HB2.out) (by omega) le2 ?_
              intro A2' n2' c2' u3 hn2 ho2 hb3 hbt3 hsz3
              have HN2 := Lib.hid hn2
              clear hn2
              have Z := Lib.hid (hbt3.src hsz3 Z.out (fun _ s hs a ha => by injection hs with hs; injection ha with ha; rw [← hs, ← ha]; show u0.heap.size ≠ u1.heap.size; omega))
              have HB3 := Lib.hid (HB2.out.trans hb3)
              have le3 : B ≤ u3.heap.size := Nat.le_trans HBs.out HB3.out.size
              refine hK _ _ ⟨hb3, ?_⟩
              clear hK K
              simp only [Act.put, List.getElem_toArray, List.getElem_cons_succ, List.getElem_cons_zero, List.setIfInBounds_toArray, List.set_cons_succ, List.set_cons_zero]
              refine wpTree_one (by simp [pickOps]; rfl) ?_
              refine wpQuiet_nil ?_
              refine wpOp_alone rfl rfl (fun K hK => ?_)
              refine wp_append_q (.tmp 124) (.tmp 125) rfl B A2' n2' c2' ([] ++ y) rfl HN2.out ho2 (some ⟨u1.heap.size, 0, none⟩) 1 1 [0] rfl rfl Z.out (by rw [HN2.out, List.nil_append]; exact Nat.le_trans (Nat.add_le_add_right hkl' 1) (by omega)) le3 ?_
              intro A3' n3' c3' u4 hn3 ho3 hb4 hbt4 hsz4
              have HN3 := Lib.hid hn3
              clear hn3
              have HB4 := Lib.hid (HB3.out.trans hb4)
              have le4 : B ≤ u4.heap.size := Nat.le_trans HBs.out HB4.out.size
              refine hK _ _ ⟨hb4, ?_⟩
              clear hK K
              simp only [Act.put, List.getElem_toArray, List.getElem_cons_succ, List.getElem_cons_zero, List.setIfInBounds_toArray, List.set_cons_succ, List.set_cons_zero]
              refine wpTree_one (by simp [pickOps]; rfl) ?_
              refine wpQuiet_nil ?_
              refine wpOp_alone rfl rfl (fun K hK => ?_)
              go_simp
              have hkb : IsBytes ([] ++ y ++ [0]) := IsBytes.append (by rw [List.nil_append]; exact HYB.out) (IsBytes.cons (by omega) IsBytes.nil)
              refine (find_any M (some ⟨b2, o2, none⟩) d1 ks' C2 d2 C3 d3 A3' n3' c3' ([] ++ y ++ [0]) _ (LM.out u4 HB4.out).at_.keys Hok.out.keysB HN3.out ho3.src hkb).mono ?_
              rintro e u5 ⟨q2, rfl, hq2, hbv⟩
              have hle : (i : Int) ≤ q2 := find_more HRs.out hlt 0 [] (by rw [← HY.out]; rw [List.nil_append] at hq2; exact hq2)
              have hb5 := hbv.mono le4
              have t35 : decide (q2 < (i : Int)) = false := by simp; omega
              clear hq2 hkb
              have HB5 := Lib.hid (HB4.out.trans hb5)
              have le5 : B ≤ u5.heap.size := Nat.le_trans HBs.out HB5.out.size
              refine hK _ _ ⟨hb5, ?_⟩
              clear hK K
              try simp only [Act.put, List.getElem_toArray, List.getElem_cons_succ, List.getElem_cons_zero, List.setIfInBounds_toArray, List.set_cons_succ, List.set_cons_zero]
              refine wpTree_last (by simp [pickOps]; rfl) ?_
              go_simp
              repeat (go_big_quiet_step (fail))
              refine wpQuiet_nil ?_
              clear t35 hle Z LC2 LS2 LT1 LT2
              have HB := Lib.hid (HbB.out.trans (HB5.out.mono HBle.out))
              have HBw := Lib.hid (B6.out.trans (HB.out.mono B6.out.size))
              have AQ := LQ.out u5 HB5.out
              have AV := LV.out u5 HB5.out
              have AA := HAt.out.keep HBw.out
              have MM := M6.out.keep HB.out
              have q0 := row_level AQ
              have HLQ := Lib.hid (fun (u : World) (h : Ext u5 u) => LQ.out u (HB5.out.trans (h.mono le5)))
              have HLV := Lib.hid (fun (u : World) (h : Ext u5 u) => LV.out u (HB5.out.trans (h.mono le5)))
              have HLC := Lib.hid (fun (u : World) (h : Ext u5 u) => LC1.out u (HB5.out.trans (h.mono le5)))
              have HLS := Lib.hid (fun (u : World) (h : Ext u5 u) => LS1.out u (HB5.out.trans (h.mono le5)))
              have hyl : (M.key i).length = y.length := by rw [HY.out]; rfl
              obtain ⟨g, hg⟩ : ∃ g : Nat, Hid (g = weightB M i) := ⟨_, rfl⟩
              have hgb : g ≤ 1300 := by rw [hg.out]; exact weight_le HSH.out i hlt
              have hqg : IntKind.i64.wrap ((q : Int) + (g : Int)) = ((q + g : Nat) : Int) := by rw [IntWalk.i64_in _ (by omega)]; rw [Int.natCast_add]
              have hqn : Hid (q + g = 4 + sumW M (i + 1)) := by rw [hq.out, hg.out]; show _ = 4 + (sumW M i + weightB M i); omega
              have hii : IntKind.i64.wrap ((i : Int) + 1) = ((i + 1 : Nat) : Int) := by rw [IntWalk.i64_in _ (by omega)]; rw [Int.natCast_add]; rfl
              clear LQ LV LC1 LS1 LM HB1 HB2 HB3 HB4 HN2 HN3
              by_cases h0 : M.level = 0
              · have hiv : i < M.vals.length := by have := (HSH.out.start.leaf h0).1; omega
                have i2 : (i : Int) < (M.vals.length : Int) := by omega
                obtain ⟨b3, o3, v3, hA3, hlt3, hc3, S3, e3, hv3, hs3, _, _⟩ := AA.vals.at_ i hiv
                obtain ⟨b4, o4, v4, hA4, hlt4, hc4, S4, e4, hv4, hs4, _, _⟩ := MM.at_.vals.at_ i hiv
                subst hv3 hv4 hA3 hA4
                obtain ⟨z, HZ⟩ : ∃ z, Hid (z = M.vals.getD i []) := ⟨_, rfl⟩
                have hzl : z.length ≤ 1024 := by rw [HZ.out]; exact HSH.out.valLen h0 hlt
                have HZl : Hid (g = wgt y.length z.length false) := by rw [hg.out]; unfold weightB wgt; rw [tsz_text, tsz_text, hyl, HZ.out, if_pos h0]; rfl
                rw [← HZ.out] at hc3 hc4 hs3 hs4
                obtain ⟨U, hU⟩ : ∃ U : ByteArray, Hid (U = strOfNums z) := ⟨_, rfl⟩
                have t0 : (M.level == 0) = true := by simp [h0]
                have hc3' : u5.cell? ⟨b3, o3 + i, none⟩ = some (.slice S3 z.length e3) := hc3
                have hc4' : u5.cell? ⟨b4, o4 + i, none⟩ = some (.slice S4 z.length e4) := hc4
                have HC3 := Lib.hid (fun (u : World) (h : Ext u5 u) => (h.cell (p := ⟨b3, o3 + i, none⟩) hlt3).trans hc3')
                have HC4 := Lib.hid (fun (u : World) (h : Ext u5 u) => (h.cell (p := ⟨b4, o4 + i, none⟩) hlt4).trans hc4')
                have HS3 := Lib.hid (fun (u : World) (h : Ext u5 u) => hs3.keep h)
                have HS4 := Lib.hid (fun (u : World) (h : Ext u5 u) => hs4.keep h)
                clear hc3 hc4 hc3' hc4' hs3 hs4 hlt3 hlt4 AA MM AQ AV h0
                go_wp2_with fail
                clear q0
                have k1 : ∀ x : Above u5.drew, x.1.cell? ⟨b3, o3 + i, none⟩ = some (.slice S3 z.length e3) := fun x => HC3.out x.1 (Ext.trans (Ext.drew u5) x.2)
                have k2 : ∀ x : Above u5.drew, x.1.cell? ⟨b4, o4 + i, none⟩ = some (.slice S4 z.length e4) := fun x => HC4.out x.1 (Ext.trans (Ext.drew u5) x.2)
                have k3 : ∀ x : Above u5.drew, x.1.cell? ⟨w.heap.size, 2, none⟩ = some (.slice (some ⟨b3, o3, none⟩) M.vals.length c2) := fun x => row_vals (HLQ.out x.1 (Ext.trans (Ext.drew u5) x.2))
                have k4 : ∀ x : Above u5.drew, x.1.cell? ⟨w4.heap.size, 2, none⟩ = some (.slice (some ⟨b4, o4, none⟩) M.vals.length d2) := fun x => row_vals (HLV.out x.1 (Ext.trans (Ext.drew u5) x.2))
                have k5 : ∀ x : Above u5.drew, (convert 22 9 (.slice S3 z.length e3)).run Try.prog x.1 = .ok (.string U) x.1 := fun x => by rw [hU.out]; exact run_text x.1 S3 z.length e3 z rfl (HS3.out x.1 (Ext.trans (Ext.drew u5) x.2))
                have k6 : ∀ x : Above u5.drew, (convert 22 9 (.slice S4 z.length e4)).run Try.prog x.1 = .ok (.string U) x.1 := fun x => by rw [hU.out]; exact run_text x.1 S4 z.length e4 z rfl (HS4.out x.1 (Ext.trans (Ext.drew u5) x.2))
                refine wp_region_segs [] [0, 1, 2, 3, 4, 5, 6, 7, 8, 9, 10, 11, 12] (by kernel_rfl) (by kernel_rfl) (by kernel_rfl) (by kernel_rfl) (fun _ _ d _ _ h => by cases d <;> exact h) ?_
                refine wpSegs_last (by simp [pickOps]; rfl) ?_
                repeat (go_big_quiet_step (fail))
                refine wpQuiet_nil ?_
                clear k1 k2 k3 k4 k5 k6
                go_wp2_with fail
                have k1 : ∀ x : Above u5.drew.drew, x.1.cell? ⟨b3, o3 + i, none⟩ = some (.slice S3 z.length e3) := fun x => HC3.out x.1 (Ext.trans (Ext.trans (Ext.drew u5) (Ext.drew u5.drew)) x.2)
                have k2 : ∀ x : Above u5.drew.drew, x.1.cell? ⟨b1, o1 + i, none⟩ = some (.slice S1 y.length e1) := fun x => HLC.out x.1 (Ext.trans (Ext.trans (Ext.drew u5) (Ext.drew u5.drew)) x.2)
                have k3 : ∀ x : Above u5.drew.drew, x.1.cell? ⟨w.heap.size, 2, none⟩ = some (.slice (some ⟨b3, o3, none⟩) M.vals.length c2) := fun x => row_vals (HLQ.out x.1 (Ext.trans (Ext.trans (Ext.drew u5) (Ext.drew u5.drew)) x.2))
                have k4 : ∀ x : Above u5.drew.drew, x.1.cell? ⟨w.heap.size, 1, none⟩ = some (.slice (some ⟨b1, o1, none⟩) M.keys.length c1) := fun x => row_keys (HLQ.out x.1 (Ext.trans (Ext.trans (Ext.drew u5) (Ext.drew u5.drew)) x.2))
                refine wp_region_segs [([0, 1, 2, 3, 4, 5, 6, 7, 8, 9, 10], 11)] [12, 13] (by kernel_rfl) (by kernel_rfl) (by kernel_rfl) (by kernel_rfl) (fun _ _ d _ _ h => by cases d <;> exact h) ?_
                refine wpSegs_next (by simp [pickOps]; rfl) ?_
                repeat (go_big_quiet_step (fail))
                refine wpQuiet_nil ?_
                clear k1 k2 k3 k4
                refine wpOp_alone rfl rfl (fun K hK => ?_)
                go_simp
                refine (weight_any S1 S3 y.length e1 z.length e3 false _ (by omega) (by omega)).mono ?_
                rintro e u6 ⟨rfl, hb6⟩
                rw [← HZl.out]
                refine hK _ _ ⟨hb6, ?_⟩
                clear hK K
                refine wpSegs_last (by simp [pickOps]; rfl) ?_
                repeat (go_big_quiet_step (fail))
                refine wpQuiet_nil ?_
                go_wp2_with fail
                go_roundw
                case rel => exact ⟨i + 1, by omega, rfl, by rw [← hqn.out, Int.natCast_add], (HB.out.drew.drew).trans (hb6.mono HB.out.size)⟩
                case measure => simp [intOf]; omega
              · have hp0 : 0 < M.level := by have := HSH.out.start.lo; omega
                have hiv : i < M.kids.length := by have := (HSH.out.start.above hp0).1; omega
                have i2 : (i : Int) < (M.kids.length : Int) := by omega
                obtain ⟨b3, o3, hA3, hlt3, hc3⟩ := pt_at AA.kids i hiv
                obtain ⟨b4, o4, hA4, hlt4, hc4⟩ := pt_at MM.at_.kids i hiv
                subst hA3 hA4
                have HZl : Hid (g = wgt y.length 0 true) := by rw [hg.out]; unfold weightB wgt; rw [tsz_text, hyl, if_neg h0]; rfl
                obtain ⟨p, hp⟩ : ∃ p, Hid (p = M.kids.getD i Pt.zero) := ⟨_, rfl⟩
                have hps : p.sha.length = 32 := by rw [hp.out]; exact (getD_ok Hok.out.kidsB i).shaL
                rw [← hp.out] at hc3 hc4
                have HC3 := Lib.hid hc3
                have HC4 := Lib.hid hc4
                have t0 : (M.level == 0) = false := by simp [h0]
                clear hc3 hc4 AA MM AQ AV h0 hp0
                go_wp2_with fail
                clear q0
                have k3 : ∀ x : Above u5.drew, x.1.cell? ⟨w.heap.size, 3, none⟩ = some (.slice (some ⟨b3, o3, none⟩) M.kids.length c3) := fun x => row_kids (HLQ.out x.1 (Ext.trans (Ext.drew u5) x.2))
                have k4 : ∀ x : Above u5.drew, x.1.cell? ⟨w4.heap.size, 3, none⟩ = some (.slice (some ⟨b4, o4, none⟩) M.kids.length d3) := fun x => row_kids (HLV.out x.1 (Ext.trans (Ext.drew u5) x.2))
                refine wp_region_segs [] [0, 1, 2, 3, 5, 6, 7, 8, 4, 9, 10] (by kernel_rfl) (by kernel_rfl) (by kernel_rfl) (by kernel_rfl) (fun _ _ d _ _ h => by cases d <;> exact h) ?_
                refine wpSegs_last (by simp [pickOps]; rfl) ?_
                repeat (go_big_quiet_step (fail))
                refine wpQuiet_loadPs _ rfl rfl b4 (o4 + i * 36) rfl p hps (HC4.out.keep (Ext.drew u5) hlt4) hlt4 ?_
                refine wpQuiet_loadPs _ rfl rfl b3 (o3 + i * 36) rfl p hps (HC3.out.keep (Ext.drew u5) hlt3) hlt3 ?_
                refine Cut.wpQuiet_run rfl (.bool false) (fun x => exec_neq_self rfl hps rfl rfl x.1) ?_
                repeat (go_big_quiet_step (fail))
                refine wpQuiet_nil ?_
                clear k3 k4
                have q1 := row_keys (HLQ.out _ (Ext.drew u5))
                have q2 := HLC.out _ (Ext.drew u5)
                simp only [Act.put, List.setIfInBounds_toArray, List.set_cons_succ, List.set_cons_zero]
                go_wp2_with fail
                refine (weight_any S1 none y.length e1 0 0 true _ (by omega) (by omega)).mono ?_
                rintro e u6 ⟨rfl, hb6⟩
                rw [← HZl.out]
                clear q1 q2
                go_wp2_with fail
                go_roundw
                case rel => exact ⟨i + 1, by omega, rfl, by rw [← hqn.out, Int.natCast_add], (HB.out.drew).trans (hb6.mono HB.out.size)⟩
                case measure => simp [intOf]; omega
          · refine wpOp_alone rfl rfl (fun K hK => ?_)
            refine wp_one_el elB rfl (by decide) (by decide) _ rfl (.int .u8 0) rfl rfl ?_
            intro u1 r1 bz1
            have Z : Hid (Src .u8 u1 (some ⟨u0.heap.size, 0, none⟩) [0]) := row_bytes (l := [0]) r1
            have lt33 : u0.heap.size < u1.heap.size := r1.lt
            clear r1
            have HB1 := Lib.hid (HB0.out.trans (bz1.mono le0))
            have le1 : B ≤ u1.heap.size := Nat.le_trans HBs.out HB1.out.size
            refine hK _ _ ⟨(bz1.mono le0), ?_⟩
            clear hK K
            simp only [Act.put, List.getElem_toArray, List.getElem_cons_succ, List.getElem_cons_zero, List.setIfInBounds_toArray, List.set_cons_succ, List.set_cons_zero]
            refine wpTree_one (by simp [pickOps]; rfl) ?_
            refine wpQuiet_nil ?_
            refine wpOp_alone rfl rfl (fun K hK => ?_)
            refine wp_made rfl ?_
            have bz2 : Below u1.heap.size u1 (u1.alloc (.cells #[] 5)) := (Below.refl _ _).alloc (Nat.le_refl _) _
            have O26 := own_made u1 B le1
            have lt26 : u1.heap.size < (u1.alloc (.cells #[] 5)).heap.size := by rw [World.alloc]; simp
            have ad26 : ∀ a, (some ⟨u1.heap.size, 0, none⟩ : Option Addr) = some a → a.block = u1.heap.size := fun a ha => by injection ha with ha; rw [← ha]
            generalize u1.alloc (.cells #[] 5) = u2 at *
            have Z := Lib.hid (Z.out.keep bz2)
            have hzs : u1.heap.size ≤ u2.heap.size := bz2.size
            have HB2 := Lib.hid (HB1.out.trans (bz2.mono le1))
            have le2 : B ≤ u2.heap.size := Nat.le_trans HBs.out HB2.out.size
            refine hK _ _ ⟨(bz2.mono le1), ?_⟩
            clear hK K
            simp only [Act.put, List.getElem_toArray, List.getElem_cons_succ, List.getElem_cons_zero, List.setIfInBounds_toArray, List.set_cons_succ, List.set_cons_zero]
            refine wpTree_one (by simp [pickOps]; rfl) ?_
            refine wpQuiet_nil ?_
            refine wpOp_alone rfl rfl (fun K hK => ?_)
            refine wp_append_q (.tmp 118) (.tmp 123) rfl B (some ⟨u1.heap.size, 0, none⟩) 0 0 [] rfl rfl O26 S1 y.length e1 y rfl rfl (LS1.out u2 HB2.out) (by omega) le2 ?_
            intro A2' n2' c2' u3 hn2 ho2 hb3 hbt3 hsz3
            have HN2 := Lib.hid hn2
            clear hn2
            have Z := Lib.hid (hbt3.src hsz3 Z.out (fun _ s hs a ha => by injection hs with hs; injection ha with ha; rw [← hs, ← ha]; show u1.heap.size ≠ u0.heap.size; omega))
            have HB3 := Lib.hid (HB2.out.trans hb3)
            have le3 : B ≤ u3.heap.size := Nat.le_trans HBs.out HB3.out.size
            refine hK _ _ ⟨hb3, ?_⟩
            clear hK K
            simp only [Act.put, List.getElem_toArray, List.getElem_cons_succ, List.getElem_cons_zero, List.setIfInBounds_toArray, List.set_cons_succ, List.set_cons_zero]
            refine wpTree_one (by simp [pickOps]; rfl) ?_
            refine wpQuiet_nil ?_
            refine wpOp_alone rfl rfl (fun K hK => ?_)
            refine wp_append_q (.tmp 124) (.tmp 125) rfl B A2' n2' c2' ([] ++ y) rfl HN2.out ho2 (some ⟨u0.heap.size, 0, none⟩) 1 1 [0] rfl rfl Z.out (by rw [HN2.out, List.nil_append]; exact Nat.le_trans (Nat.add_le_add_right hkl' 1) (by omega)) le3 ?_
            intro A3' n3' c3' u4 hn3 ho3 hb4 hbt4 hsz4
            have HN3 := Lib.hid hn3
            clear hn3
            have HB4 := Lib.hid (HB3.out.trans hb4)
            have le4 : B ≤ u4.heap.size := Nat.le_trans HBs.out HB4.out.size
            refine hK _ _ ⟨hb4, ?_⟩
            clear hK K
            simp only [Act.put, List.getElem_toArray, List.getElem_cons_succ, List.getElem_cons_zero, List.setIfInBounds_toArray, List.set_cons_succ, List.set_cons_zero]
            refine wpTree_one (by simp [pickOps]; rfl) ?_
            refine wpQuiet_nil ?_
            refine wpOp_alone rfl rfl (fun K hK => ?_)
            go_simp
            have hkb : IsBytes ([] ++ y ++ [0]) := IsBytes.append (by rw [List.nil_append]; exact HYB.out) (IsBytes.cons (by omega) IsBytes.nil)
            refine (find_any M (some ⟨b2, o2, none⟩) d1 ks' C2 d2 C3 d3 A3' n3' c3' ([] ++ y ++ [0]) _ (LM.out u4 HB4.out).at_.keys Hok.out.keysB HN3.out ho3.src hkb).mono ?_
            rintro e u5 ⟨q2, rfl, hq2, hbv⟩
            have hle : (i : Int) ≤ q2 := find_more HRs.out hlt 0 [] (by rw [← HY.out]; rw [List.nil_append] at hq2; exact hq2)
            have hb5 := hbv.mono le4
            have t35 : decide (q2 < (i : Int)) = false := by simp; omega
            clear hq2 hkb
            have HB5 := Lib.hid (HB4.out.trans hb5)
            have le5 : B ≤ u5.heap.size := Nat.le_trans HBs.out HB5.out.size
            refine hK _ _ ⟨hb5, ?_⟩
            clear hK K
            try simp only [Act.put, List.getElem_toArray, List.getElem_cons_succ, List.getElem_cons_zero, List.setIfInBounds_toArray, List.set_cons_succ, List.set_cons_zero]
            refine wpTree_last (by simp [pickOps]; rfl) ?_
            go_simp
            repeat (go_big_quiet_step (fail))
            refine wpQuiet_nil ?_
            clear t35 hle Z LC2 LS2 LT1 LT2
            have HB := Lib.hid (HbB.out.trans (HB5.out.mono HBle.out))
            have HBw := Lib.hid (B6.out.trans (HB.out.mono B6.out.size))
            have AQ := LQ.out u5 HB5.out
            have AV := LV.out u5 HB5.out
            have AA := HAt.out.keep HBw.out
            have MM := M6.out.keep HB.out
            have q0 := row_level AQ
            have HLQ := Lib.hid (fun (u : World) (h : Ext u5 u) => LQ.out u (HB5.out.trans (h.mono le5)))
            have HLV := Lib.hid (fun (u : World) (h : Ext u5 u) => LV.out u (HB5.out.trans (h.mono le5)))
            have HLC := Lib.hid (fun (u : World) (h : Ext u5 u) => LC1.out u (HB5.out.trans (h.mono le5)))
            have HLS := Lib.hid (fun (u : World) (h : Ext u5 u) => LS1.out u (HB5.out.trans (h.mono le5)))
            have hyl : (M.key i).length = y.length := by rw [HY.out]; rfl
            obtain ⟨g, hg⟩ : ∃ g : Nat, Hid (g = weightB M i) := ⟨_, rfl⟩
            have hgb : g ≤ 1300 := by rw [hg.out]; exact weight_le HSH.out i hlt
            have hqg : IntKind.i64.wrap ((q : Int) + (g : Int)) = ((q + g : Nat) : Int) := by rw [IntWalk.i64_in _ (by omega)]; rw [Int.natCast_add]
            have hqn : Hid (q + g = 4 + sumW M (i + 1)) := by rw [hq.out, hg.out]; show _ = 4 + (sumW M i + weightB M i); omega
            have hii : IntKind.i64.wrap ((i : Int) + 1) = ((i + 1 : Nat) : Int) := by rw [IntWalk.i64_in _ (by omega)]; rw [Int.natCast_add]; rfl
            clear LQ LV LC1 LS1 LM HB1 HB2 HB3 HB4 HN2 HN3
            by_cases h0 : M.level = 0
            · have hiv : i < M.vals.length := by have := (HSH.out.start.leaf h0).1; omega
              have i2 : (i : Int) < (M.vals.length : Int) := by omega
              obtain ⟨b3, o3, v3, hA3, hlt3, hc3, S3, e3, hv3, hs3, _, _⟩ := AA.vals.at_ i hiv
              obtain ⟨b4, o4, v4, hA4, hlt4, hc4, S4, e4, hv4, hs4, _, _⟩ := MM.at_.vals.at_ i hiv
              subst hv3 hv4 hA3 hA4
              obtain ⟨z, HZ⟩ : ∃ z, Hid (z = M.vals.getD i []) := ⟨_, rfl⟩
              have hzl : z.length ≤ 1024 := by rw [HZ.out]; exact HSH.out.valLen h0 hlt
              have HZl : Hid (g = wgt y.length z.length false) := by rw [hg.out]; unfold weightB wgt; rw [tsz_text, tsz_text, hyl, HZ.out, if_pos h0]; rfl
              rw [← HZ.out] at hc3 hc4 hs3 hs4
              obtain ⟨U, hU⟩ : ∃ U : ByteArray, Hid (U = strOfNums z) := ⟨_, rfl⟩
              have t0 : (M.level == 0) = true := by simp [h0]
              have hc3' : u5.cell? ⟨b3, o3 + i, none⟩ = some (.slice S3 z.length e3) := hc3
              have hc4' : u5.cell? ⟨b4, o4 + i, none⟩ = some (.slice S4 z.length e4) := hc4
              have HC3 := Lib.hid (fun (u : World) (h : Ext u5 u) => (h.cell (p := ⟨b3, o3 + i, none⟩) hlt3).trans hc3')
              have HC4 := Lib.hid (fun (u : World) (h : Ext u5 u) => (h.cell (p := ⟨b4, o4 + i, none⟩) hlt4).trans hc4')
              have HS3 := Lib.hid (fun (u : World) (h : Ext u5 u) => hs3.keep h)
              have HS4 := Lib.hid (fun (u : World) (h : Ext u5 u) => hs4.keep h)
              clear hc3 hc4 hc3' hc4' hs3 hs4 hlt3 hlt4 AA MM AQ AV h0
              go_wp2_with fail
              clear q0
              have k1 : ∀ x : Above u5.drew, x.1.cell? ⟨b3, o3 + i, none⟩ = some (.slice S3 z.length e3) := fun x => HC3.out x.1 (Ext.trans (Ext.drew u5) x.2)
              have k2 : ∀ x : Above u5.drew, x.1.cell? ⟨b4, o4 + i, none⟩ = some (.slice S4 z.length e4) := fun x => HC4.out x.1 (Ext.trans (Ext.drew u5) x.2)
              have k3 : ∀ x : Above u5.drew, x.1.cell? ⟨w.heap.size, 2, none⟩ = some (.slice (some ⟨b3, o3, none⟩) M.vals.length c2) := fun x => row_vals (HLQ.out x.1 (Ext.trans (Ext.drew u5) x.2))
              have k4 : ∀ x : Above u5.drew, x.1.cell? ⟨w4.heap.size, 2, none⟩ = some (.slice (some ⟨b4, o4, none⟩) M.vals.length d2) := fun x => row_vals (HLV.out x.1 (Ext.trans (Ext.drew u5) x.2))
              have k5 : ∀ x : Above u5.drew, (convert 22 9 (.slice S3 z.length e3)).run Try.prog x.1 = .ok (.string U) x.1 := fun x => by rw [hU.out]; exact run_text x.1 S3 z.length e3 z rfl (HS3.out x.1 (Ext.trans (Ext.drew u5) x.2))
              have k6 : ∀ x : Above u5.drew, (convert 22 9 (.slice S4 z.length e4)).run Try.prog x.1 = .ok (.string U) x.1 := fun x => by rw [hU.out]; exact run_text x.1 S4 z.length e4 z rfl (HS4.out x.1 (Ext.trans (Ext.drew u5) x.2))
              refine wp_region_segs [] [0, 1, 2, 3, 4, 5, 6, 7, 8, 9, 10, 11, 12] (by kernel_rfl) (by kernel_rfl) (by kernel_rfl) (by kernel_rfl) (fun _ _ d _ _ h => by cases d <;> exact h) ?_
              refine wpSegs_last (by simp [pickOps]; rfl) ?_
              repeat (go_big_quiet_step (fail))
              refine wpQuiet_nil ?_
              clear k1 k2 k3 k4 k5 k6
              go_wp2_with fail
              have k1 : ∀ x : Above u5.drew.drew, x.1.cell? ⟨b3, o3 + i, none⟩ = some (.slice S3 z.length e3) := fun x => HC3.out x.1 (Ext.trans (Ext.trans (Ext.drew u5) (Ext.drew u5.drew)) x.2)
              have k2 : ∀ x : Above u5.drew.drew, x.1.cell? ⟨b1, o1 + i, none⟩ = some (.slice S1 y.length e1) := fun x => HLC.out x.1 (Ext.trans (Ext.trans (Ext.drew u5) (Ext.drew u5.drew)) x.2)
              have k3 : ∀ x : Above u5.drew.drew, x.1.cell? ⟨w.heap.size, 2, none⟩ = some (.slice (some ⟨b3, o3, none⟩) M.vals.length c2) := fun x => row_vals (HLQ.out x.1 (Ext.trans (Ext.trans (Ext.drew u5) (Ext.drew u5.drew)) x.2))
              have k4 : ∀ x : Above u5.drew.drew, x.1.cell? ⟨w.heap.size, 1, none⟩ = some (.slice (some ⟨b1, o1, none⟩) M.keys.length c1) := fun x => row_keys (HLQ.out x.1 (Ext.trans (Ext.trans (Ext.drew u5) (Ext.drew u5.drew)) x.2))
              refine wp_region_segs [([0, 1, 2, 3, 4, 5, 6, 7, 8, 9, 10], 11)] [12, 13] (by kernel_rfl) (by kernel_rfl) (by kernel_rfl) (by kernel_rfl) (fun _ _ d _ _ h => by cases d <;> exact h) ?_
              refine wpSegs_next (by simp [pickOps]; rfl) ?_
              repeat (go_big_quiet_step (fail))
              refine wpQuiet_nil ?_
              clear k1 k2 k3 k4
              refine wpOp_alone rfl rfl (fun K hK => ?_)
              go_simp
              refine (weight_any S1 S3 y.length e1 z.length e3 false _ (by omega) (by omega)).mono ?_
              rintro e u6 ⟨rfl, hb6⟩
              rw [← HZl.out]
              refine hK _ _ ⟨hb6, ?_⟩
              clear hK K
              refine wpSegs_last (by simp [pickOps]; rfl) ?_
              repeat (go_big_quiet_step (fail))
              refine wpQuiet_nil ?_
              go_wp2_with fail
              go_roundw
              case rel => exact ⟨i + 1, by omega, rfl, by rw [← hqn.out, Int.natCast_add], (HB.out.drew.drew).trans (hb6.mono HB.out.size)⟩
              case measure => simp [intOf]; omega
            · have hp0 : 0 < M.level := by have := HSH.out.start.lo; omega
              have hiv : i < M.kids.length := by have := (HSH.out.start.above hp0).1; omega
              have i2 : (i : Int) < (M.kids.length : Int) := by omega
              obtain ⟨b3, o3, hA3, hlt3, hc3⟩ := pt_at AA.kids i hiv
              obtain ⟨b4, o4, hA4, hlt4, hc4⟩ := pt_at MM.at_.kids i hiv
              subst hA3 hA4
              have HZl : Hid (g = wgt y.length 0 true) := by rw [hg.out]; unfold weightB wgt; rw [tsz_text, hyl, if_neg h0]; rfl
              obtain ⟨p, hp⟩ : ∃ p, Hid (p = M.kids.getD i Pt.zero) := ⟨_, rfl⟩
              have hps : p.sha.length = 32 := by rw [hp.out]; exact (getD_ok Hok.out.kidsB i).shaL
              rw [← hp.out] at hc3 hc4
              have HC3 := Lib.hid hc3
              have HC4 := Lib.hid hc4
              have t0 : (M.level == 0) = false := by simp [h0]
              clear hc3 hc4 AA MM AQ AV h0 hp0
              go_wp2_with fail
              clear q0
              have k3 : ∀ x : Above u5.drew, x.1.cell? ⟨w.heap.size, 3, none⟩ = some (.slice (some ⟨b3, o3, none⟩) M.kids.length c3) := fun x => row_kids (HLQ.out x.1 (Ext.trans (Ext.drew u5) x.2))
              have k4 : ∀ x : Above u5.drew, x.1.cell? ⟨w4.heap.size, 3, none⟩ = some (.slice (some ⟨b4, o4, none⟩) M.kids.length d3) := fun x => row_kids (HLV.out x.1 (Ext.trans (Ext.drew u5) x.2))
              refine wp_region_segs [] [0, 1, 2, 3, 5, 6, 7, 8, 4, 9, 10] (by kernel_rfl) (by kernel_rfl) (by kernel_rfl) (by kernel_rfl) (fun _ _ d _ _ h => by cases d <;> exact h) ?_
              refine wpSegs_last (by simp [pickOps]; rfl) ?_
              repeat (go_big_quiet_step (fail))
              refine wpQuiet_loadPs _ rfl rfl b4 (o4 + i * 36) rfl p hps (HC4.out.keep (Ext.drew u5) hlt4) hlt4 ?_
              refine wpQuiet_loadPs _ rfl rfl b3 (o3 + i * 36) rfl p hps (HC3.out.keep (Ext.drew u5) hlt3) hlt3 ?_
              refine Cut.wpQuiet_run rfl (.bool false) (fun x => exec_neq_self rfl hps rfl rfl x.1) ?_
              repeat (go_big_quiet_step (fail))
              refine wpQuiet_nil ?_
              clear k3 k4
              have q1 := row_keys (HLQ.out _ (Ext.drew u5))
              have q2 := HLC.out _ (Ext.drew u5)
              simp only [Act.put, List.setIfInBounds_toArray, List.set_cons_succ, List.set_cons_zero]
              go_wp2_with fail
              refine (weight_any S1 none y.length e1 0 0 true _ (by omega) (by omega)).mono ?_
              rintro e u6 ⟨rfl, hb6⟩
              rw [← HZl.out]
              clear q1 q2
              go_wp2_with fail
              go_roundw
              case rel => exact ⟨i + 1, by omega, rfl, by rw [← hqn.out, Int.natCast_add], (HB.out.drew).trans (hb6.mono HB.out.size)⟩
              case measure => simp [intOf]; omega
        · obtain rfl : i = M.keys.length := by have := HI.out; omega
          have hkq : k ≤ q := by rw [hq.out, HK.out, HRt.out.2]; exact all_weight HSH.out Hok.out
          have hkm : k ≤ 4096 := by rw [HK.out, HRt.out.2]; exact HRt.out.1.len
          have t1 : decide ((k : Int) ≤ (q : Int)) = true := by simp; omega
          have t2 : decide ((k : Int) ≤ 4096) = true := by simp; omega
          have HBe := Lib.hid (B6.out.trans (HBr.out.mono B6.out.size))
          go_wp2_with fail
          go_ret
          exact ⟨rfl, HBe.out⟩
      -- the loop's end
    · have ne1 : (er == 0) = false := beq_eq_false_iff_ne.2 he
      have ne2 : (er != 0) = true := by rw [bne_iff_ne]; exact he
      have HNR : Hid (¬ Right n ∧ xs = []) := by
        rcases HP.out with ⟨_, _, h⟩ | ⟨h1, h2, _⟩
        · exact absurd h he
        · exact ⟨h1, h2⟩
      have hk0 : k = 0 := by rw [HK.out, HNR.out.2]; rfl
      subst hk0
      clear he
      go_wp2_with (first
        | (have hh := b4; clear hh; refine wpList_one_el elK rfl (by decide) (by decide) rfl _ rfl (.slice none 0 0) rfl rfl ?_; intro w5 r5 b5)
        | (refine wpList_one_el elK rfl (by decide) (by decide) rfl _ rfl (.slice none 0 0) rfl rfl ?_; intro w4 r4 b4)
        | (refine wpList_buildNKV ltP _ _ rfl rfl [[]] [[]] _ _ rfl rfl rfl rfl ?_))
      have at5 : NdAt w5 least (some ⟨w3.heap.size, 0, none⟩) 1 [.slice none 0 0] (some ⟨w4.heap.size, 0, none⟩) 1 [.slice none 0 0] none 0 := ⟨nil_rows (r4.keep b5), nil_rows r5, PSrc.none_, Nat.le_refl _, by unfold maxLen; omega⟩
      have HR5 := Lib.hid ((HR3.out.keep b4).keep b5)
      have b34 := b4.trans (b5.mono b4.size)
      have B5 := Lib.hid (B3.out.trans (b34.mono B3.out.size))
      clear r4 b4 r5 b5 b34 HR3 B3
      refine (nput_any at5 least_ok).mono ?_
      rintro e w6 ⟨S6, k6, d6, xs6, er6, rfl, hk6, hp6, ho6, hb6⟩
      obtain ⟨rfl, h5⟩ := least_put hp6
      rw [h5] at hk6
      subst hk6
      have HR6 := Lib.hid (HR5.out.keep hb6)
      have B6 := Lib.hid (B5.out.trans (hb6.mono B5.out.size))
      clear h5 hp6 ho6 hb6 HR5 B5 at5
      go_wp2_with (refine wpList_loadN ltP _ rfl rfl _ rfl HR6.out ?_)
      refine (nright_any (HAt.out.keep B6.out) Hok.out).mono ?_
      rintro e w7 ⟨x7, rfl, h7, hb7⟩
      have hx7 : x7 = false := by
        cases x7 with
        | false => rfl
        | true => exact absurd (h7.1 rfl) HNR.out.1
      subst hx7
      have B7 := Lib.hid (B6.out.trans (hb7.mono B6.out.size))
      clear h7 hb7 HR6 B6
      go_wp2_with fail
      go_ret
      exact ⟨rfl, B7.out⟩
end Lf
end Go.Proofs.Ytnoofmdhhlcbkaa

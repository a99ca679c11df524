/- LabelTorn's walk: any epoch, any next numbers, any cut. No conditions but those that stand in each lemma. -/
import Derived.Test.YtcolicmefehcnaaDoorLblChoose
import Derived.Test.YtcolicmefehcnaaDoorLblEq
import Derived.Test.YtcolicmefehcnaaDoorLblTorn
import Derived.Test.YtcolicmefehcnaaDoorMakeB
import Derived.Test.YtcolicmefehcnaaDoorMask
import Derived.IntWalk
namespace Go.Proofs.YtcolicmefehcnaaDoor
open Go.RowKit

instance (B : Nat) : Turns (Below B) where
  refl := fun w => Below.refl B w
  trans := fun h k => h.trans k
theorem cut_513 (a : Int) : ∃ t : Nat, (wrap64 (a.tmod 513 + 513)).tmod 513 = (t : Int) ∧ t ≤ 512 := by
  have hb : (0 : Int) < 513 := by omega
  have h1 := Int.tmod_lt_of_pos a hb
  have h2 : -(513 : Int) < a.tmod 513 := by
    have e := Int.neg_tmod (a := -a) (b := 513)
    rw [Int.neg_neg] at e
    have := Int.tmod_lt_of_pos (-a) hb
    omega
  rw [IntWalk.wrap64_in _ (by omega), Int.tmod_eq_emod_of_nonneg (by omega)]
  have h3 := Int.emod_nonneg (a.tmod 513 + 513) (Int.ne_of_gt hb)
  have h4 := Int.emod_lt_of_pos (a.tmod 513 + 513) hb
  exact ⟨_, (Int.toNat_of_nonneg h3).symm, by omega⟩
theorem src_from {w : World} {g c : Nat} {xs : List Int} (h : Src .u8 w (some ⟨g, 0, none⟩) xs) (j : Nat) (hj : j ≤ xs.length) (hc : xs.length ≤ c) : Src .u8 w (if c = j then some ⟨g, 0, none⟩ else some ⟨g, j, none⟩) (xs.drop j) := by
  have h1 := h.drop j c hj hc
  have hadd : (⟨g, 0, none⟩ : Addr).add j = ⟨g, j, none⟩ := by unfold Addr.add; split <;> simp_all
  rw [Option.map_some, hadd] at h1
  exact h1
/-- A walk is held here. -/
def Held (p : Prop) : Prop := p
theorem stop_at (t : Nat) {ops : Array Oper} {rest : List Oper} {o : Oper} {a : Act} {w : World} {Q : Exit → Act → World → Prop} (_ : o.dst = some t) (h : Held (wpList Tryd.prog ops Q (o :: rest) a w)) : wpList Tryd.prog ops Q (o :: rest) a w := h
set_option maxRecDepth 100000 in
set_option maxHeartbeats 8000000 in
theorem ltorn_any (a0 x y a2 : Int) (w : World) (ht : Tab w) :
    Calls Tryd.prog 6 #[.int .i64 a0, .agg #[.int .i64 x, .int .i64 y], .int .i64 a2] w fun e w' => e = .returned (.bool true) ∧ Below w.heap.size w w' := by
  have rA := Row.new w 47 #[.int .i64 x, .int .i64 y]
  have b1 : Below w.heap.size w (w.alloc (.cells #[.int .i64 x, .int .i64 y] 47)) := (Below.refl _ _).alloc (Nat.le_refl _) _
  have c0 := rA.cell (j := 0) rfl
  have HT := Lib.hid ht
  obtain ⟨M, hand0⟩ : ∃ M, bits .and .i64 a0 268435455 = M := ⟨_, rfl⟩
  obtain ⟨N0, hand1⟩ : ∃ M, bits .and .i64 x 65535 = M := ⟨_, rfl⟩
  obtain ⟨N1, hand2⟩ : ∃ M, bits .and .i64 y 65535 = M := ⟨_, rfl⟩
  have m0 := mask_and a0 268435455 (by omega)
  have m1 := mask_and x 65535 (by omega)
  have m2 := mask_and y 65535 (by omega)
  rw [show ((268435455 : Nat) : Int) = 268435455 from rfl, hand0] at m0
  rw [show ((65535 : Nat) : Int) = 65535 from rfl, hand1] at m1
  rw [show ((65535 : Nat) : Int) = 65535 from rfl, hand2] at m2
  obtain ⟨e, hs0⟩ : ∃ e, 1 + M = e := ⟨_, rfl⟩
  obtain ⟨n, hs1⟩ : ∃ n, 1 + N0 = n := ⟨_, rfl⟩
  obtain ⟨m, hs2⟩ : ∃ m, 1 + N1 = m := ⟨_, rfl⟩
  obtain ⟨t, hat, htl⟩ := cut_513 a2
  have he1 : 1 ≤ e := by omega
  have he2 : e ≤ 268435456 := by omega
  have hn1 : 1 ≤ n := by omega
  have hn2 : n ≤ 65536 := by omega
  have hm1 : 1 ≤ m := by omega
  have hm2 : m ≤ 65536 := by omega
  have hw0 : IntKind.i64.wrap e = e := IntWalk.i64_in _ (by omega)
  have hw1 : IntKind.i64.wrap n = n := IntWalk.i64_in _ (by omega)
  have hw2 : IntKind.i64.wrap m = m := IntWalk.i64_in _ (by omega)
  have hw3 : IntKind.i64.wrap (e + 1) = e + 1 := IntWalk.i64_in _ (by omega)
  have hw4 : IntKind.i64.wrap (e - 1) = e - 1 := IntWalk.i64_in _ (by omega)
  have HSe : Hid (∀ a b W, 1 ≤ a → a ≤ 268435457 → 1 ≤ b → b ≤ 65536 → Below w.heap.size w W → Calls Tryd.prog 7 #[.agg (lcells ⟨a, Pt.zero, b⟩)] W fun e w' => Below W.heap.size W w' ∧ ∃ g c, e = .returned (.tuple #[.slice (some ⟨g, 0, none⟩) 512 c, .int .i64 (a.tmod 2), .int .i64 0]) ∧ Own w' W.heap.size (some ⟨g, 0, none⟩) c (sealB ⟨a, Pt.zero, b⟩)) :=
    Lib.hid (fun a b W h1 h2 h3 h4 hW => seal_small a b h1 (by omega) h3 (by omega) W (HT.out.keep hW))
  have HCh := Lib.hid (torn_chosen (e := e) (n := n) (m := m) he1 he2 hn1 hn2 hm1 hm2 (cut := t) htl)
  have hp1 := tmod_two (e := e) (by omega)
  have hp2 := tmod_two (e := e + 1) (by omega)
  have hpar : ¬ e.tmod 2 = (e + 1).tmod 2 := by omega
  have hparB : (e.tmod 2 == (e + 1).tmod 2) = false := beq_eq_false_iff_ne.2 hpar
  have HE1 := Lib.hid he1
  have HE2 := Lib.hid he2
  have HN := Lib.hid (And.intro hn1 hn2)
  have HM := Lib.hid (And.intro hm1 hm2)
  have HTl := Lib.hid htl
  clear m0 m1 m2 hp1 hp2 hn1 hn2 hm1 hm2 ht he1 he2 htl
  go_enter Tryd.func6, Tryd.ntmps6
  go_wp2_with (first
    | (refine wpList_build2 ltL (.tmp 23) (.tmp 27) rfl rfl e n rfl rfl ?_)
    | (refine wpList_allocLg ltL 7 rfl rfl rfl (w.heap.size + 1) (alloc_size w _) ?_; intro w2 r2 hb2 _)
    | (refine wpList_storeL ltL rfl (.tmp 7) (.tmp 28) rfl (w.heap.size + 1) rfl ⟨e, Pt.zero, n⟩ rfl rfl Lb.zero rfl r2 ?_; intro w3 r7 o3; have hb3 := hb2.trans o3.below; have rA3 := rA.keepB hb3 (Nat.lt_succ_self _); have b3 := b1.trans (hb3.mono (Nat.le_succ _)); have c1 := rA3.cell (j := 1) rfl; clear rA b1 c0 hb2 r2 o3 hb3)
    | (refine wpList_build2 ltL (.tmp 30) (.tmp 34) rfl rfl (e + 1) m rfl rfl ?_)
    | (refine wpList_allocL ltL 8 rfl rfl rfl ?_; intro w4 r4 hb4 _)
    | (refine wpList_storeL ltL rfl (.tmp 8) (.tmp 35) rfl w3.heap.size rfl ⟨e + 1, Pt.zero, m⟩ rfl rfl Lb.zero rfl r4 ?_; intro w5 r8 o5; have hb5 := hb4.trans o5.below; have r75 := r7.keep hb5; have b5 := b3.trans (hb5.mono b3.size); clear r7 b3 c1 rA3 hb4 r4 o5 hb5)
    | (refine wpList_build2 ltL (.tmp 37) (.const (.int .i64 1)) rfl rfl (e - 1) 1 rfl rfl ?_)
    | (refine wpList_allocL ltL 9 rfl rfl rfl ?_; intro w6 r6 hb6 _)
    | (refine wpList_storeL ltL rfl (.tmp 9) (.tmp 38) rfl w5.heap.size rfl ⟨e - 1, Pt.zero, 1⟩ rfl rfl Lb.zero rfl r6 ?_; intro w7 r97 o7; have hb7 := hb6.trans o7.below; have r77 := r75.keep hb7; have r87 := r8.keep hb7; have b7 := b5.trans (hb7.mono b5.size); clear r75 r8 b5 hb6 r6 o7 hb7)
    | (refine wpList_loadL (.tmp 7) _ ltL rfl rfl (w.heap.size + 1) rfl ⟨e, Pt.zero, n⟩ rfl r77 ?_))
  refine (HSe.out e n _ (by have := HE1.out; omega) (by have := HE2.out; omega) HN.out.1 HN.out.2 b7).mono ?_
  rintro e9 w9 ⟨hb9, g10, c10, rfl, ho10⟩
  have r79 := r77.keep hb9
  have r89 := r87.keep hb9
  have r99 := r97.keep hb9
  have b9 := b7.trans (hb9.mono b7.size)
  have P10 := Lib.hid (ho10.more b7.size)
  clear r77 r87 r97 b7 hb9 ho10
  go_wp2_with (refine wpList_loadL (.tmp 8) _ ltL rfl rfl w3.heap.size rfl ⟨e + 1, Pt.zero, m⟩ rfl r89 ?_)
  refine (HSe.out (e + 1) m _ (by have := HE1.out; omega) (by have := HE2.out; omega) HM.out.1 HM.out.2 b9).mono ?_
  rintro e11 w11 ⟨hb11, g13, c13, rfl, ho13⟩
  have r711 := r79.keep hb11
  have r811 := r89.keep hb11
  have r911 := r99.keep hb11
  have P11 := Lib.hid (P10.out.keep hb11)
  have P13 := Lib.hid (ho13.more b9.size)
  have b11 := b9.trans (hb11.mono b9.size)
  clear r79 r89 r99 b9 hb11 ho13 P10
  go_upto_if 68 with (refine wpList_makeZ rfl (.const (.int .i64 512)) (.const (.int .i64 512)) rfl 512 (by omega) rfl rfl ?_; intro w12 rz hb12; have r712 := r711.keep hb12; have r812 := r811.keep hb12; have r912 := r911.keep hb12; have P12 := Lib.hid (P11.out.keep hb12); have P14 := Lib.hid (P13.out.keep hb12); have b12 := b11.trans (hb12.mono b11.size); clear r711 r811 r911 P11 P13 b11 hb12)
  have HZ := Lib.hid (show Src .u8 w12 (some ⟨w11.heap.size, 0, none⟩) (zerosL 512) from row_bytes rz)
  clear rz hand0 hand1 hand2 hs0 hs1 hs2 hat hw0 hw1 hw2 hw3 hw4 hpar hparB
  generalize e.tmod 2 = K1 at *
  generalize (e + 1).tmod 2 = K2 at *
  go_cut [12, 16] from 20 (fun u v wx => u = .int .i64 0 ∧ (∃ g c, v = .slice (some ⟨g, 0, none⟩) 512 c ∧ 512 ≤ c ∧ c ≤ maxLen ∧ Src .u8 wx (some ⟨g, 0, none⟩) (otherB e)) ∧ Below w12.heap.size w12 wx)
  case first =>
    by_cases h1 : 1 < e
    · have hd1 : decide (1 < e) = true := decide_eq_true h1
      have HOt := Lib.hid (show otherB e = sealB ⟨e - 1, Pt.zero, 1⟩ from if_pos h1)
      have HE3 := Lib.hid h1
      go_wp2_with (refine wpList_loadL (.tmp 9) _ ltL rfl rfl w5.heap.size rfl ⟨e - 1, Pt.zero, 1⟩ rfl r912 ?_)
      refine (HSe.out (e - 1) 1 _ (by have := HE3.out; omega) (by have := HE2.out; omega) (by omega) (by omega) b12).mono ?_
      rintro e13 w13 ⟨hb13, g16, c16, rfl, ho16⟩
      have hcap := ho16.cap
      rw [sealB_length _ rfl] at hcap
      have P16 := Lib.hid ho16.src
      clear ho16
      go_wp2_with fail
      go_meet
      exact ⟨rfl, ⟨g16, c16, rfl, hcap.1, hcap.2, by rw [HOt.out]; exact P16.out⟩, hb13⟩
    · have hd1 : decide (1 < e) = false := decide_eq_false h1
      have HOt := Lib.hid (show otherB e = zerosL 512 from if_neg h1)
      go_wp2_with fail
      go_meet
      exact ⟨rfl, ⟨w11.heap.size, 512, rfl, Nat.le_refl _, by unfold maxLen; omega, by rw [HOt.out]; exact HZ.out⟩, Below.refl _ _⟩
  case rest =>
  obtain ⟨rfl, ⟨g16, c16, rfl, hc16, hc16m, hs16⟩, hbc⟩ := hcut
  have r7c := r712.keep hbc
  have r8c := r812.keep hbc
  have P10c := Lib.hid (P12.out.keep hbc)
  have P13c := Lib.hid (P14.out.keep hbc)
  have bc := b12.trans (hbc.mono b12.size)
  have P16 := Lib.hid hs16
  clear r712 r812 r912 P12 P14 b12 HZ hbc hs16
  have hcap10 := P10c.out.cap
  have hcap13 := P13c.out.cap
  rw [sealB_length _ rfl] at hcap10 hcap13
  have d1 : (t : Int) ≤ (c13 : Int) := by have := HTl.out; omega
  have d2 : (0 : Int) ≤ (t : Int) := by omega
  have d3 : (t : Int) ≤ 512 := by have := HTl.out; omega
  have d4 : (512 : Int) ≤ (c16 : Int) := by omega
  go_wp2_with fail
  have bd := bc.drew
  have r7d := r7c.drew
  have r8d := r8c.drew
  have P10d := Lib.hid (P10c.out.keep (Ext.drew _))
  have P13d := Lib.hid (P13c.out.keep (Ext.drew _))
  have P16d := Lib.hid (P16.out.keep (Ext.drew _))
  clear bc r7c r8c P10c P13c P16
  refine wp_region_tree (Below wc.drew.heap.size) (.one [1, 2, 3, 5, 6, 7] 0 (.one [] 4 (.one [] 8 (.last [9])))) (by kernel_rfl) (by kernel_rfl) (by kernel_rfl) (fun _ _ d _ _ h => by cases d <;> exact h) ?_
  generalize wc.drew = W at *
  refine wpTree_one (by simp [pickOps]; rfl) ?_
  repeat (go_big_quiet_step (fail))
  refine wpQuiet_nil ?_
  refine wpOp_alone rfl rfl (fun K hK => ?_)
  go_simp
  have ba : Below W.heap.size W (W.alloc (.cells #[] 5)) := (Below.refl _ _).alloc (Nat.le_refl _) _
  refine hK _ _ ⟨ba, ?_⟩
  clear hK K
  have HK1 := Lib.hid ((P13d.out.src.take t).keep ba)
  have HL1 : Hid (t = ((sealB ⟨e + 1, Pt.zero, m⟩).take t).length) := Lib.hid (by rw [List.length_take, sealB_length _ rfl]; have := HTl.out; omega)
  refine wpTree_one (by simp [pickOps]; rfl) ?_
  repeat (go_big_quiet_step (fail))
  refine wpQuiet_nil ?_
  refine wpOp_alone rfl rfl (fun K hK => ?_)
  refine wp_append_src (.tmp 77) (.tmp 80) rfl W.heap.size _ 0 0 [] rfl rfl (own_made W _ (Nat.le_refl _)) _ t c13 ((sealB ⟨e + 1, Pt.zero, m⟩).take t) rfl HL1.out HK1.out (by have := HTl.out; omega) (alloc_le W _) ?_
  rintro v w14 ⟨A14, n14, c14, rfl, hn14, ho14, hb14⟩
  refine hK _ _ ⟨hb14, ?_⟩
  have b14 := ba.trans hb14
  have HN14 := Lib.hid (show n14 = t by rw [hn14, List.nil_append]; exact HL1.out.symm)
  rw [List.nil_append] at ho14
  have HO14 := Lib.hid ho14
  have HK2 := Lib.hid ((src_from P16d.out t (c := c16) (by rw [otherB_length]; have := HTl.out; omega) (by rw [otherB_length]; exact hc16)).keep b14)
  have HL2 : Hid (512 - t = ((otherB e).drop t).length) := Lib.hid (by rw [List.length_drop, otherB_length])
  clear hK K hn14 ho14 hb14 ba HK1
  go_simp
  refine wpTree_one (by simp [pickOps]; rfl) ?_
  repeat (go_big_quiet_step (fail))
  refine wpQuiet_nil ?_
  refine wpOp_alone rfl rfl (fun K hK => ?_)
  refine wp_append_src (.tmp 81) (.tmp 84) rfl W.heap.size A14 n14 c14 ((sealB ⟨e + 1, Pt.zero, m⟩).take t) rfl (HN14.out.trans HL1.out) HO14.out _ (512 - t) (c16 - t) ((otherB e).drop t) rfl HL2.out HK2.out (by have := HTl.out; have := HN14.out; omega) b14.size ?_
  rintro v w15 ⟨A15, n15, c15, rfl, hn15, ho15, hb15⟩
  refine hK _ _ ⟨hb15, ?_⟩
  have b15 := b14.trans hb15
  have HN15 := Lib.hid (show n15 = 512 from hn15.trans (tornB_length e m t HTl.out))
  have hcap15 := ho15.cap
  rw [show ((sealB ⟨e + 1, Pt.zero, m⟩).take t ++ (otherB e).drop t).length = 512 from tornB_length e m t HTl.out] at hcap15
  have PT := Lib.hid (show Src .u8 w15 A15 (tornB e m t) from ho15.src)
  have r715 := r7d.keep b15
  have r815 := r8d.keep b15
  have P10e := Lib.hid (P10d.out.keep b15)
  have P13e := Lib.hid (P13d.out.keep b15)
  have be := bd.trans (b15.mono bd.size)
  clear hK K hn15 ho15 hb15 b14 b15 HN14 HO14 HK2 HL1 HL2 r7d r8d P10d P13d P16d bd
  go_simp
  refine wpTree_last (by simp [pickOps]; rfl) ?_
  repeat (go_big_quiet_step (fail))
  refine wpQuiet_nil ?_
  obtain rfl : n15 = 512 := HN15.out
  obtain ⟨r, hev, hod, hrs, hnz, hcase⟩ := HCh.out
  have HRs := Lib.hid hrs
  have HCase := Lib.hid hcase
  have HC0 : Hid (K1 = 0 → ∀ W', Below w15.heap.size w15 W' → Calls Tryd.prog 11 #[.slice (some ⟨g10, 0, none⟩) 512 c10, .slice A15 512 c15] W' fun e' w' => e' = .returned (.tuple #[.agg (lcells r), .bool true]) ∧ Below W'.heap.size W' w') :=
    Lib.hid (fun hk W' hW => by
      refine (choose_any (some ⟨g10, 0, none⟩) 512 c10 (sealB ⟨e, Pt.zero, n⟩) A15 512 c15 (tornB e m t) W' (HT.out.keep (be.trans (hW.mono be.size))) (sealB_length _ rfl).symm (P10e.out.src.keep hW) (sealB_bytes _ Pt.zero_ok.shaB) hcap10.1 (by have := hcap10.2; unfold maxLen at this; omega) (tornB_length e m t HTl.out).symm (PT.out.keep hW) (tornB_bytes e m t) hcap15.1 (by have := hcap15.2; unfold maxLen at this; omega)).mono ?_
      rintro e' w' ⟨rfl, hb⟩
      rw [hev hk, hnz]
      exact ⟨rfl, hb⟩)
  have HC1 : Hid (¬ K1 = 0 → ∀ W', Below w15.heap.size w15 W' → Calls Tryd.prog 11 #[.slice A15 512 c15, .slice (some ⟨g10, 0, none⟩) 512 c10] W' fun e' w' => e' = .returned (.tuple #[.agg (lcells r), .bool true]) ∧ Below W'.heap.size W' w') :=
    Lib.hid (fun hk W' hW => by
      refine (choose_any A15 512 c15 (tornB e m t) (some ⟨g10, 0, none⟩) 512 c10 (sealB ⟨e, Pt.zero, n⟩) W' (HT.out.keep (be.trans (hW.mono be.size))) (tornB_length e m t HTl.out).symm (PT.out.keep hW) (tornB_bytes e m t) hcap15.1 (by have := hcap15.2; unfold maxLen at this; omega) (sealB_length _ rfl).symm (P10e.out.src.keep hW) (sealB_bytes _ Pt.zero_ok.shaB) hcap10.1 (by have := hcap10.2; unfold maxLen at this; omega)).mono ?_
      rintro e' w' ⟨rfl, hb⟩
      rw [hod hk, hnz]
      exact ⟨rfl, hb⟩)
  clear hev hod hrs hnz hcase HCh hcap15 hcap10 hcap13 d1 d2 d3 d4 HSe P10e hc16 hc16m
  generalize (if c16 = t then some (⟨g16, 0, none⟩ : Addr) else some ⟨g16, t, none⟩) = S84 at *
  go_upto_if 87 with (refine wpList_allocL ltL 18 rfl rfl rfl ?_; intro w16 r18 hb16 _)
  go_cut [19] from 20 (fun u wx => u = .bool true ∧ Row wx w15.heap.size 27 (lcells r) ∧ Below w15.heap.size w15 wx)
  case first =>
    by_cases hk : K1 = 0
    · have hkb : (K1 == 0) = true := by rw [hk]; rfl
      have HCk := Lib.hid (HC0.out hk)
      clear HC0 HC1
      subst hk
      go_wp2_with fail
      refine (HCk.out _ hb16).mono ?_
      rintro e17 w17 ⟨rfl, hb17⟩
      have r187 := r18.keep hb17
      have b17 := hb16.trans (hb17.mono hb16.size)
      clear r18 hb16 hb17
      go_wp2_with (refine wpList_storeL ltL rfl (.tmp 18) (.tmp 92) rfl w15.heap.size rfl r rfl HRs.out Lb.zero rfl r187 ?_; intro w18 r188 o18; have b18 := b17.trans o18.below; clear r187 b17 o18)
      go_meet
      exact ⟨rfl, r188, b18⟩
    · have hkb : (K1 == 0) = false := beq_eq_false_iff_ne.2 hk
      have HCk := Lib.hid (HC1.out hk)
      clear HC0 HC1
      go_wp2_with fail
      refine (HCk.out _ hb16).mono ?_
      rintro e17 w17 ⟨rfl, hb17⟩
      have r187 := r18.keep hb17
      have b17 := hb16.trans (hb17.mono hb16.size)
      clear r18 hb16 hb17
      go_wp2_with (refine wpList_storeL ltL rfl (.tmp 18) (.tmp 98) rfl w15.heap.size rfl r rfl HRs.out Lb.zero rfl r187 ?_; intro w18 r188 o18; have b18 := b17.trans o18.below; clear r187 b17 o18)
      go_meet
      exact ⟨rfl, r188, b18⟩
  case rest =>
  obtain ⟨rfl, r18, hbz⟩ := hcut
  have r7z := r715.keep hbz
  have r8z := r815.keep hbz
  have bz := be.trans (hbz.mono be.size)
  have PTz := Lib.hid (PT.out.keep hbz)
  have P13z := Lib.hid (P13e.out.keep hbz).src
  clear r715 r815 be hbz PT P13e HC0 HC1 HRs
  have HLA : Hid ((⟨e, Pt.zero, n⟩ : Lb).root.sha.length = 32) := Lib.hid rfl
  have HLB : Hid ((⟨e + 1, Pt.zero, m⟩ : Lb).root.sha.length = 32) := Lib.hid rfl
  have HSn : Hid (Lb.same ⟨e + 1, Pt.zero, m⟩ ⟨e, Pt.zero, n⟩ = false) := Lib.hid (Lb.same_not fun h => by have := congrArg Lb.epoch h; have h' : e + 1 = e := this; omega)
  have HSe : Hid ((sealB ⟨e + 1, Pt.zero, m⟩).length = 512) := Lib.hid (sealB_length _ rfl)
  clear HE1 HE2 HN HM HN15
  generalize (⟨e, Pt.zero, n⟩ : Lb) = LA at *
  generalize (⟨e + 1, Pt.zero, m⟩ : Lb) = LB at *
  generalize w15.heap.size = G18 at *
  generalize w3.heap.size = G8 at *
  generalize w.heap.size + 1 = G7 at *
  rcases HCase.out with ⟨hr, hlt⟩ | ⟨hr, htb⟩
  · have hd1 : decide ((t : Int) < 512) = true := decide_eq_true (by omega)
    have hd2 : (t : Int) < 512 := by omega
    clear HCase hlt
    rw [hr] at r18
    clear hr
    go_upto_region 21 with fail
    iterate 7 (first | go_values | go_skip | go_guarded | go_step | go_upon)
    refine wpList_loadL (.tmp 18) _ ltL rfl rfl G18 rfl LA HLA.out r18 ?_
    refine wpList_loadL (.tmp 7) _ ltL rfl rfl G7 rfl LA HLA.out r7z ?_
    refine wpList_eqlL ltL guardL (.tmp 102) (.tmp 103) _ rfl rfl LA LA rfl rfl HLA.out HLA.out true (Lb.same_self _) ?_
    go_simp
    go_wp2_with fail
    go_ret
    exact ⟨rfl, bz⟩
  · rw [htb] at PTz
    rw [hr] at r18
    clear hr
    have tx := run_text wc A15 512 c15 (sealB LB) HSe.out.symm PTz.out
    have ty := run_text wc (some ⟨g13, 0, none⟩) 512 c13 (sealB LB) HSe.out.symm P13z.out
    clear HCase htb PTz P13z HSe
    generalize strOfNums (sealB LB) = S at *
    by_cases hlt : t < 512
    · have hd1 : decide ((t : Int) < 512) = true := decide_eq_true (by omega)
      have hd2 : (t : Int) < 512 := by omega
      clear hlt
      go_upto_region 21 with fail
      iterate 7 (first | go_values | go_skip | go_guarded | go_step | go_upon)
      refine wpList_loadL (.tmp 18) _ ltL rfl rfl G18 rfl LB HLB.out r18 ?_
      refine wpList_loadL (.tmp 7) _ ltL rfl rfl G7 rfl LA HLA.out r7z ?_
      refine wpList_eqlL ltL guardL (.tmp 102) (.tmp 103) _ rfl rfl LB LA rfl rfl HLB.out HLA.out false HSn.out ?_
      go_simp
      iterate 3 (first | go_values | go_skip | go_guarded | go_step | go_upon)
      refine wpList_loadL (.tmp 18) _ ltL rfl rfl G18 rfl LB HLB.out r18 ?_
      refine wpList_loadL (.tmp 8) _ ltL rfl rfl G8 rfl LB HLB.out r8z ?_
      refine wpList_eqlL ltL guardL (.tmp 106) (.tmp 107) _ rfl rfl LB LB rfl rfl HLB.out HLB.out true (Lb.same_self _) ?_
      go_simp
      go_wp2_with fail
      go_ret
      exact ⟨rfl, bz⟩
    · have hd1 : decide ((t : Int) < 512) = false := decide_eq_false (by omega)
      have hd2 : ¬ (t : Int) < 512 := by omega
      clear hlt
      go_upto_region 21 with fail
      iterate 7 (first | go_values | go_skip | go_guarded | go_step | go_upon)
      refine wpList_loadL (.tmp 18) _ ltL rfl rfl G18 rfl LB HLB.out r18 ?_
      refine wpList_loadL (.tmp 7) _ ltL rfl rfl G7 rfl LA HLA.out r7z ?_
      refine wpList_eqlL ltL guardL (.tmp 102) (.tmp 103) _ rfl rfl LB LA rfl rfl HLB.out HLA.out false HSn.out ?_
      go_simp
      iterate 3 (first | go_values | go_skip | go_guarded | go_step | go_upon)
      refine wpList_loadL (.tmp 18) _ ltL rfl rfl G18 rfl LB HLB.out r18 ?_
      refine wpList_loadL (.tmp 8) _ ltL rfl rfl G8 rfl LB HLB.out r8z ?_
      refine wpList_eqlL ltL guardL (.tmp 106) (.tmp 107) _ rfl rfl LB LB rfl rfl HLB.out HLB.out true (Lb.same_self _) ?_
      go_simp
      go_wp2_with (with_reducible refine stop_at 122 rfl ?_)
      unfold Held
      refine wpList_loadL (.tmp 18) _ ltL rfl rfl G18 rfl LB HLB.out r18 ?_
      refine wpList_loadL (.tmp 8) _ ltL rfl rfl G8 rfl LB HLB.out r8z ?_
      refine wpList_eqlL ltL guardL (.tmp 122) (.tmp 123) _ rfl rfl LB LB rfl rfl HLB.out HLB.out true (Lb.same_self _) ?_
      go_simp
      go_wp2_with fail
      go_ret
      exact ⟨rfl, bz⟩
end Go.Proofs.YtcolicmefehcnaaDoor

/- Choose: of any two sectors the label that counts, or none; nothing that was there is written. No conditions but those that stand in each lemma. -/
import Derived.Test.YtcolicmefehcnaaDoorLblOpen
namespace Go.Proofs.YtcolicmefehcnaaDoor
open Go.RowKit

theorem wpQuiet_neqL {T : TypeId} (hT : LT T) {R : World → World → Prop} {ops : Array Oper} {rest : List Oper} {op : Oper} {a : Act} {w : World} {K : Act → Prop} (hw : Region.wanted op (yielded ops a.tmps) = true) (x y : Operand) (S : TypeId) (ho : op.op = .binOp .neq T x y S)
    (p q : Lb) (hx : a.eval x = .agg (lcells p)) (hy : a.eval y = .agg (lcells q)) (hp : p.root.sha.length = 32) (hq : q.root.sha.length = 32) (hg : Tryd.prog.eqGuardType Tryd.prog.depth T = false)
    (h : wpQuiet Tryd.prog ops (ClR R w) K rest (a.put op.dst (.bool (!Lb.same p q)))) : wpQuiet Tryd.prog ops (ClR R w) K (op :: rest) a := by
  unfold wpQuiet
  rw [if_pos hw]
  refine ⟨.bool (!Lb.same p q), fun w' _ => ?_, h⟩
  unfold Oper.quietAt execOp
  simp only [ho, hx, hy, Sem.run_bind, run_eqGuard_agg _ _ _ _ _ _ _ hg, neq_lbs hT w' p q hp hq, Result.andThen_ok, Sem.run_pure]
  exact ⟨rfl, rfl⟩
/-- The call's variables: the answer, none, the best so far, and the two sectors. -/
def CSt (w : World) (g6 g7 gS : Nat) (s1 s2 : Value) (best : Lb) (W : World) : Prop :=
  Row W w.heap.size 27 (lcells Lb.zero) ∧ Row W g6 27 (lcells Lb.zero) ∧ Row W g7 27 (lcells best) ∧ Row W gS 28 #[s1, s2] ∧ Below w.heap.size w W ∧ w.heap.size < g6 ∧ g6 < g7 ∧ g7 < gS
section
variable {w W W' : World} {g6 g7 gS : Nat} {s1 s2 : Value} {best : Lb}
theorem CSt.keep (h : CSt w g6 g7 gS s1 s2 best W) (hb : Below W.heap.size W W') : CSt w g6 g7 gS s1 s2 best W' :=
  ⟨h.1.keep hb, h.2.1.keep hb, h.2.2.1.keep hb, h.2.2.2.1.keep hb, h.2.2.2.2.1.trans (hb.mono h.2.2.2.2.1.size), h.2.2.2.2.2⟩
theorem CSt.ltS (h : CSt w g6 g7 gS s1 s2 best W) : gS < W.heap.size := h.2.2.2.1.lt
theorem CSt.only {g : Nat} (h : CSt w g6 g7 gS s1 s2 best W) (hb : Only g W W') (hg : gS < g) : CSt w g6 g7 gS s1 s2 best W' := by
  obtain ⟨a1, a2, a3, a4, a5, a6, a7, a8⟩ := h
  exact ⟨hb.row a1 (by omega), hb.row a2 (by omega), hb.row a3 (by omega), hb.row a4 (by omega), a5.trans (hb.below.mono (by omega)), a6, a7, a8⟩
theorem CSt.set7 {l : Lb} (h : CSt w g6 g7 gS s1 s2 best W) (hb : Only g7 W W') (hr : Row W' g7 27 (lcells l)) : CSt w g6 g7 gS s1 s2 l W' := by
  obtain ⟨a1, a2, _, a4, a5, a6, a7, a8⟩ := h
  exact ⟨hb.row a1 (by omega), hb.row a2 (by omega), hr, hb.row a4 (by omega), a5.trans (hb.below.mono (by omega)), a6, a7, a8⟩
end
/-- The best so far behind k sectors. -/
def bestAt (xs ys : List Int) : Nat → Lb
  | 0 => Lb.zero
  | 1 => stepC 0 Lb.zero (openL xs)
  | _ => chooseL xs ys
theorem bestAt_ok {xs ys : List Int} (hx : IsBytes xs) (hy : IsBytes ys) (k : Nat) : (bestAt xs ys k).Ok := by
  have h1 := stepC_ok (k := 0) Lb.zero_ok (openL_ok xs hx)
  match k with
  | 0 => exact Lb.zero_ok
  | 1 => exact h1
  | _ + 2 => exact stepC_ok h1 (openL_ok ys hy)
/-- At a round's head: k sectors are gone over. -/
def ChAt (w : World) (g6 g7 gS : Nat) (s1 s2 : Value) (xs ys : List Int) (iv : Value) (wr : World) : Prop :=
  ∃ k : Nat, k ≤ 2 ∧ iv = .int .i64 (k : Int) ∧ CSt w g6 g7 gS s1 s2 (bestAt xs ys k) wr
theorem Tryd.resultsChoose : Tryd.f11.results = #[.cell 4 27, .tmp 5] := by kernel_rfl
/-- What Choose answers. -/
def ChooseEnds (xs ys : List Int) (w : World) (e : Ending) (w' : World) : Prop := e = .returned (.tuple #[.agg (lcells (chooseL xs ys)), .bool (!Lb.same (chooseL xs ys) Lb.zero)]) ∧ Below w.heap.size w w'
set_option maxRecDepth 100000 in
set_option maxHeartbeats 8000000 in
theorem choose_any (A : Option Addr) (n c : Nat) (xs : List Int) (B : Option Addr) (m d : Nat) (ys : List Int) (w : World) (ht : Tab w) (hn : n = xs.length) (hs : Src .u8 w A xs) (hx : IsBytes xs) (hnc : n ≤ c) (hc : c ≤ 9223372036854775807) (hm : m = ys.length) (hsy : Src .u8 w B ys) (hy : IsBytes ys) (hmd : m ≤ d) (hdm : d ≤ 9223372036854775807) :
    Calls Tryd.prog 11 #[.slice A n c, .slice B m d] w (ChooseEnds xs ys w) := by
  have HSec : Hid (∀ k : Nat, k < 2 → ∃ A' n' c' zs, (#[Value.slice A n c, Value.slice B m d] : Array Value)[k]? = some (.slice A' n' c') ∧ bestAt xs ys (k + 1) = stepC k (bestAt xs ys k) (openL zs) ∧ (openL zs).Ok ∧ ∀ W, Below w.heap.size w W → Calls Tryd.prog 9 #[.slice A' n' c'] W (OpenEnds zs W)) :=
    Lib.hid (fun k hk => by
      rcases k with _ | _ | k
      · exact ⟨A, n, c, xs, rfl, rfl, openL_ok xs hx, fun W hW => open_any A n c xs W (ht.keep hW) hn (hs.keep hW) hx hnc hc⟩
      · exact ⟨B, m, d, ys, rfl, rfl, openL_ok ys hy, fun W hW => open_any B m d ys W (ht.keep hW) hm (hsy.keep hW) hy hmd hdm⟩
      · omega)
  have HBo := Lib.hid (bestAt_ok hx hy)
  clear ht hn hs hx hnc hc hm hsy hy hmd hdm
  go_enter Tryd.func11, Tryd.ntmps11
  go_wp2_with (first
    | (refine wpList_allocL ltL 4 rfl rfl rfl ?_; intro w1 r4 b1 z1; have l1 : w.heap.size < w1.heap.size := (by omega); clear z1)
    | (refine wpList_build0 ltL rfl rfl ?_)
    | (refine wpList_allocL ltL 6 rfl rfl rfl ?_; intro w2 r6 hb2 z2; have r4' := r4.keep hb2; have b2 := b1.trans (hb2.mono b1.size); have l2 : w1.heap.size < w2.heap.size := (by omega); clear r4 b1 hb2 z2)
    | (refine wpList_storeL ltL rfl (.tmp 6) (.tmp 12) rfl w1.heap.size rfl Lb.zero rfl rfl Lb.zero rfl r6 ?_; intro w3 q6 o3; have q4 := o3.row r4' (by omega); have b3 := b2.trans (o3.below.mono (by omega)); have lt6 := q6.lt; clear r6 r4' b2 o3)
    | (refine wpList_loadL (.tmp 6) _ ltL rfl rfl w1.heap.size rfl Lb.zero rfl q6 ?_)
    | (refine wpList_allocL ltL 7 rfl rfl rfl ?_; intro w4 r7 hb4 z4; have p4 := q4.keep hb4; have p6 := q6.keep hb4; have b4 := b3.trans (hb4.mono b3.size); have l4 : w3.heap.size < w4.heap.size := (by omega); clear q4 q6 hb4 b3 z4)
    | (refine wpList_storeL ltL rfl (.tmp 7) (.tmp 13) rfl w3.heap.size rfl Lb.zero rfl rfl Lb.zero rfl r7 ?_; intro w5 s7 o5; have s4 := o5.row p4 (by omega); have s6 := o5.row p6 (by omega); have b5 := b4.trans (o5.below.mono (by omega)); have lt7 := s7.lt; clear p4 p6 r7 b4 o5))
  have hbS : Below w5.heap.size w5 (w5.alloc (.cells #[.slice A n c, .slice B m d] 28)) := (Below.refl _ _).alloc (Nat.le_refl _) _
  have start : ChAt w w1.heap.size w3.heap.size w5.heap.size (.slice A n c) (.slice B m d) xs ys (.int .i64 0) (w5.alloc (.cells #[.slice A n c, .slice B m d] 28)) :=
    ⟨0, by omega, rfl, s4.keep hbS, s6.keep hbS, s7.keep hbS, Row.new _ _ _, b5.trans (hbS.mono b5.size), by omega, by omega, lt7⟩
  clear s4 s6 s7 b5 hbS
  generalize w1.heap.size = g6 at *
  generalize w3.heap.size = g7 at *
  generalize hgS : w5.heap.size = gS at *
  generalize w5.alloc (.cells #[.slice A n c, .slice B m d] 28) = w6 at *
  go_loopw [18] (fun iv wr => ChAt w g6 g7 gS (.slice A n c) (.slice B m d) xs ys iv wr) (fun iv _ => 2 - (intOf iv).toNat)
  case atStart => exact start
  case round =>
    clear start
    obtain ⟨k, hk, rfl, st⟩ := hrel
    by_cases hlt : k < 2
    · have gk : (k : Int) < 2 := by omega
      obtain ⟨A', n', c', zs, hcell, hstep, hok, hopen⟩ := HSec.out k hlt
      have HStep := Lib.hid hstep
      have HOp := Lib.hid hopen
      have HXs := Lib.hid hok.root.shaL
      have HBs := Lib.hid (HBo.out k).root.shaL
      have c0 : wr.cell? ⟨gS, k, none⟩ = some (.slice A' n' c') := st.2.2.2.1.cell hcell
      clear hcell hstep hopen hok
      go_wp2_with fail
      refine (HOp.out _ st.2.2.2.2.1).mono ?_
      rintro e w8 ⟨rfl, hb8⟩
      have st8 := st.keep hb8
      clear st hb8 c0 HOp
      generalize openL zs = X at *
      generalize openE zs = E at *
      generalize bestAt xs ys k = bst at *
      have lt8 := st8.ltS
      go_wp2_with (first
        | (refine wpList_allocL ltL 10 rfl rfl rfl ?_; intro w9 r9 hb9 z9; have st9 := st8.keep hb9; clear st8 hb9)
        | (refine wpList_storeL ltL rfl (.tmp 10) (.tmp 26) rfl w8.heap.size rfl X rfl HXs.out Lb.zero rfl r9 ?_; intro w10 r10 o10; have st10 := st9.only o10 lt8; clear st9 r9 o10)
        | (refine wpList_loadL (.tmp 10) _ ltL rfl rfl w8.heap.size rfl X HXs.out r10 ?_))
      refine (place_any X _).mono ?_
      rintro e w11 ⟨rfl, hb11⟩
      have st11 := st10.keep hb11
      have r11 := r10.keep hb11
      have ce := lrow_epoch r11
      have cb := lrow_epoch st11.2.2.1
      clear st10 r10 hb11
      cases hp : (X.epoch.tmod 2 == (k : Int)) with
      | false =>
        have hne : ¬ X.epoch.tmod 2 = (k : Int) := fun e => by rw [e] at hp; simp at hp
        have HR := Lib.hid (show bestAt xs ys (k + 1) = bst by rw [HStep.out]; unfold stepC; rw [if_neg (fun h => hne h.1)])
        go_wp2_with fail
        go_roundw
        case rel => exact ⟨k + 1, by omega, by go_num, by rw [HR.out]; exact st11⟩
        case measure => simp [intOf]; omega
      | true =>
        have heq : X.epoch.tmod 2 = (k : Int) := eq_of_beq hp
        have Heq := Lib.hid heq
        cases hd3 : decide (bst.epoch < X.epoch) with
        | false =>
          have hne : ¬ bst.epoch < X.epoch := of_decide_eq_false hd3
          have HR := Lib.hid (show bestAt xs ys (k + 1) = bst by rw [HStep.out]; unfold stepC; rw [if_neg (fun h => hne h.2)])
          clear heq hne
          go_wp2_with fail
          go_roundw
          case rel => exact ⟨k + 1, by omega, by go_num, by rw [HR.out]; exact st11⟩
          case measure => simp [intOf]; omega
        | true =>
          have HR := Lib.hid (show bestAt xs ys (k + 1) = X by rw [HStep.out]; unfold stepC; rw [if_pos ⟨heq, of_decide_eq_true hd3⟩])
          clear heq
          go_wp2_with (first
            | (refine wpList_loadL (.tmp 10) _ ltL rfl rfl w8.heap.size rfl X HXs.out r11 ?_)
            | (refine wpList_storeL ltL rfl (.tmp 7) (.tmp 39) rfl g7 rfl X rfl HXs.out bst HBs.out st11.2.2.1 ?_; intro w12 r12 o12; have st12 := st11.set7 o12 r12; clear st11 r11 ce cb o12))
          go_roundw
          case rel => exact ⟨k + 1, by omega, by go_num, by rw [HR.out]; exact st12⟩
          case measure => simp [intOf]; omega
    · obtain rfl : k = 2 := by omega
      have HC := Lib.hid (show bestAt xs ys 2 = chooseL xs ys from rfl)
      have HCs := Lib.hid (HBo.out 2).root.shaL
      rw [HC.out] at st HCs
      clear hlt hk HSec HBo
      obtain ⟨C, hC⟩ : ∃ C, C = chooseL xs ys := ⟨_, rfl⟩
      rw [← hC] at st HCs
      have HCe := Lib.hid hC
      clear hC HC
      go_wp2_with fail
      refine wp_region_tree (Only w.heap.size) (.one [0, 1, 2, 3] 4 (.last [5])) (by kernel_rfl) (by kernel_rfl) (by kernel_rfl) (fun _ _ d _ _ h => by cases d <;> exact h) ?_
      have stD : CSt w g6 g7 gS (.slice A n c) (.slice B m d) C wr.drew := st.keep (Ext.drew _)
      clear st
      generalize wr.drew = WD at *
      have H7 : Hid (∀ g : AboveR (Only w.heap.size) WD, Cells g.1 g7 0 (lcells C)) := Lib.hid (fun g => (g.2.row stD.2.2.1 (by have := stD.2.2.2.2.2; omega)).cells)
      have H6 : Hid (∀ g : AboveR (Only w.heap.size) WD, Cells g.1 g6 0 (lcells Lb.zero)) := Lib.hid (fun g => (g.2.row stD.2.1 (by have := stD.2.2.2.2.2; omega)).cells)
      refine wpTree_one (by simp [pickOps]; rfl) ?_
      refine wpQuiet_load_cellsR rfl 27 (.tmp 7) rfl g7 0 rfl (lcells C) _ H7.out ltL.struct rfl (lb_size ltL HCs.out) ?_
      refine wpQuiet_load_cellsR rfl 27 (.tmp 7) rfl g7 0 rfl (lcells C) _ H7.out ltL.struct rfl (lb_size ltL HCs.out) ?_
      refine wpQuiet_load_cellsR rfl 27 (.tmp 6) rfl g6 0 rfl (lcells Lb.zero) _ H6.out ltL.struct rfl (lb_size ltL rfl) ?_
      refine wpQuiet_neqL ltL rfl (.tmp 42) (.tmp 43) 27 rfl C Lb.zero rfl rfl HCs.out rfl (by kernel_rfl) ?_
      refine wpQuiet_nil ?_
      refine wpOp_alone rfl rfl (fun K hK => ?_)
      refine wp_storeL ltL (.tmp 4) (.tmp 41) rfl w.heap.size rfl C rfl HCs.out Lb.zero rfl stD.1 ?_
      intro wz rz oz
      have bz := stD.2.2.2.2.1.trans oz.below
      refine hK _ _ ⟨oz, ?_⟩
      clear hK K H7 H6
      go_simp
      refine wpTree_last (by simp [pickOps]; rfl) ?_
      repeat (go_big_quiet_step (fail))
      refine wpQuiet_nil ?_
      go_wp2_with fail
      refine bodyPost_ret (v := .tuple #[.agg (lcells C), .bool (!Lb.same C Lb.zero)]) ?_ rfl ?_
      · exact results_cell_tmp_row Tryd.resultsChoose _ _ w.heap.size 27 (lcells C) (0, 0) _ rfl rz ltL.struct rfl (lb_size ltL HCs.out)
      · exact ⟨by rw [HCe.out], bz⟩
end Go.Proofs.YtcolicmefehcnaaDoor

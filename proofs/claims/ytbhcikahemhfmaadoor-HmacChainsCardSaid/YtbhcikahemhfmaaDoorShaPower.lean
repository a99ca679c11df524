/- The document's power: a square, or a cube, in parts of 32 bits against its bound, as the plain reckoning has it. -/
import Derived.Test.YtbhcikahemhfmaaDoorShaRoot
import Derived.Test.YtbhcikahemhfmaaDoorShaArr
import Derived.Test.YtbhcikahemhfmaaDoorShaSpread
import Derived.BigQuiet
import Derived.Deep.QuietTactic
namespace Go.Proofs.YtbhcikahemhfmaaDoor.Sha3
open Go.RowKit

theorem in64 (x : Int) (h0 : 0 ≤ x) (h : x < 18446744073709551616) : IntKind.u64.wrap x = x := by
  rw [IntKind.wrap_u64]; omega
/-- Numbers of 64 bits as cells. -/
def qcells (xs : List Int) : Array Value := (xs.map (Value.int .u64)).toArray
theorem qcells_size (xs : List Int) : (qcells xs).size = xs.length := by simp [qcells]
theorem qcells_at (xs : List Int) (j : Nat) (h : j < xs.length) : (qcells xs)[j]? = some (.int .u64 (xs.getD j 0)) := by
  simp [qcells, List.getD_eq_getElem?_getD, List.getElem?_eq_getElem h]
theorem qcells_set (xs : List Int) (j : Nat) (x : Int) : (qcells xs).setIfInBounds j (.int .u64 x) = qcells (xs.set j x) := by
  simp [qcells, List.map_set]
/-- The parts from number k down against the bound's. -/
def cmpB (l m : List Int) : Nat → Bool
  | 0 => true
  | k + 1 => if l.getD k 0 = m.getD k 0 then cmpB l m k else decide (l.getD k 0 < m.getD k 0)
theorem cmpB_leB (l0 l1 l2 l3 m0 m1 m2 m3 : Int) : cmpB [l0, l1, l2, l3] [m0, m1, m2, m3] 4 = leB l3 l2 l1 l0 m3 m2 m1 m0 := rfl
/-- At a round's head of the comparison: the parts from k on are alike. -/
def CmpAt (w : World) (A B : Nat) (L M : List Int) (R : Bool) (i : Value) (wr : World) : Prop :=
  ∃ (k : Nat) (q : Int), i = .int .i64 q ∧ k ≤ 4 ∧ q = (k : Int) - 1 ∧ cmpB L M k = R ∧ Row wr A 39 (qcells L) ∧ Row wr B 39 (qcells M) ∧ Below w.heap.size w wr
theorem rows2 (w : World) (A B : Array Value) (ta tb : TypeId) :
    Row ((w.alloc (.cells A ta)).alloc (.cells B tb)) w.heap.size ta A ∧ Row ((w.alloc (.cells A ta)).alloc (.cells B tb)) (w.heap.size + 1) tb B ∧ Below w.heap.size w ((w.alloc (.cells A ta)).alloc (.cells B tb)) := by
  have h1 := Row.new w ta A
  have h2 := Row.new (w.alloc (.cells A ta)) tb B
  simp at h2
  exact ⟨h1.old _, h2, ((Below.refl _ _).alloc (Nat.le_refl _) _).alloc (by simp) _⟩
set_option maxRecDepth 100000 in
set_option maxHeartbeats 1000000 in
theorem power_sq (m p : Int) (w : World) (h0 : 0 ≤ m) (h1 : m < 68719476736) :
    Calls Tryd.prog 36 #[.int .u64 m, .bool false, .int .u64 p] w fun e w' => e = .returned (.bool (powerB m p false)) ∧ Below w.heap.size w w' := by
  obtain ⟨R, hR⟩ : ∃ R, powerB m p false = R := ⟨_, rfl⟩
  obtain ⟨a, ha⟩ : ∃ a, m / 4294967296 = a := ⟨_, rfl⟩
  obtain ⟨b, hb⟩ : ∃ b, m % 4294967296 = b := ⟨_, rfl⟩
  have a0 : 0 ≤ a := by omega
  have a1 : a ≤ 15 := by omega
  have b0 : 0 ≤ b := by omega
  have b1 : b ≤ 4294967295 := by omega
  obtain ⟨s, hs⟩ : ∃ s, b * b = s := ⟨_, rfl⟩
  obtain ⟨g, hg⟩ : ∃ g, 2 * a * b = g := ⟨_, rfl⟩
  obtain ⟨v, hv⟩ : ∃ v, a * a = v := ⟨_, rfl⟩
  have s0 : 0 ≤ s := hs ▸ Int.mul_nonneg b0 b0
  have s1 : s ≤ 4294967295 * 4294967295 := hs ▸ Int.mul_le_mul b1 b1 b0 (by omega)
  have g0 : 0 ≤ g := hg ▸ Int.mul_nonneg (by omega) b0
  have g1 : g ≤ 30 * 4294967295 := hg ▸ Int.mul_le_mul (by omega) b1 b0 (by omega)
  have v0 : 0 ≤ v := hv ▸ Int.mul_nonneg a0 a0
  have v1 : v ≤ 15 * 15 := hv ▸ Int.mul_le_mul a1 a1 a0 (by omega)
  obtain ⟨sd, hsd⟩ : ∃ x, s / 4294967296 = x := ⟨_, rfl⟩
  obtain ⟨sm, hsm⟩ : ∃ x, s % 4294967296 = x := ⟨_, rfl⟩
  obtain ⟨c, hc⟩ : ∃ x, sd + g = x := ⟨_, rfl⟩
  obtain ⟨cd, hcd⟩ : ∃ x, c / 4294967296 = x := ⟨_, rfl⟩
  obtain ⟨cm, hcm⟩ : ∃ x, c % 4294967296 = x := ⟨_, rfl⟩
  obtain ⟨d, hd⟩ : ∃ x, cd + v = x := ⟨_, rfl⟩
  have q1 := in64 s s0 (by omega)
  have q2 : s.tdiv 4294967296 = sd := by rw [Int.tdiv_eq_ediv_of_nonneg s0]; exact hsd
  have q3 : s.tmod 4294967296 = sm := by rw [Int.tmod_eq_emod_of_nonneg s0]; exact hsm
  have q4 := in64 sd (by omega) (by omega)
  have q5 := in64 g g0 (by omega)
  have q6 : IntKind.u64.wrap (sd + g) = c := by rw [in64 _ (by omega) (by omega)]; exact hc
  have q7 : c.tdiv 4294967296 = cd := by rw [Int.tdiv_eq_ediv_of_nonneg (by omega)]; exact hcd
  have q8 : c.tmod 4294967296 = cm := by rw [Int.tmod_eq_emod_of_nonneg (by omega)]; exact hcm
  have q9 := in64 cd (by omega) (by omega)
  have q10 := in64 v v0 (by omega)
  have q11 : IntKind.u64.wrap (cd + v) = d := by rw [in64 _ (by omega) (by omega)]; exact hd
  have HP := Lib.hid hR
  have HR : cmpB [sm, cm, d, 0] [0, 0, p, 0] 4 = R := by
    rw [cmpB_leB, ← hR]
    show _ = leB 0 (sq2 (m / 4294967296) (m % 4294967296)) (sq1 (m / 4294967296) (m % 4294967296)) (sq0 (m % 4294967296)) 0 p 0 0
    unfold sq2 sq1 sq0 sqC
    rw [ha, hb, hs, hg, hv, hsd, hsm, hc, hcd, hcm, hd]
  have HRh := Lib.hid HR
  clear HR hsd hsm hc hcd hcm hd hR s0 s1 g0 g1 v0 v1
  go_enter Tryd.func36, Tryd.ntmps36
  go_wp2_with fail
  clear q1 q2 q3 q4 q5 q6 q7 q8 q9 q10 q11 hs hg hv ha hb a0 a1 b0 b1
  go_loopw [17] (fun i wr => CmpAt w w.heap.size (w.heap.size + 1) [sm, cm, d, 0] [0, 0, p, 0] R i wr) (fun i _ => (intOf i + 1).toNat)
  case atStart => exact ⟨4, 3, rfl, Nat.le_refl _, by omega, HRh.out, (rows2 _ _ _ _ _).1, (rows2 _ _ _ _ _).2.1, (rows2 _ _ _ _ _).2.2⟩
  case round =>
    obtain ⟨k, q, rfl, hk, hq, hR, r1, r2, hbl⟩ := hrel
    have HC := Lib.hid hR
    clear hR
    rcases Nat.eq_zero_or_pos k with rfl | hkp
    · obtain rfl : q = -1 := by omega
      clear hq hk
      go_wp2_with fail
      go_ret
      exact ⟨by rw [HP.out, ← HC.out]; rfl, hbl⟩
    · obtain ⟨j, rfl⟩ : ∃ j, k = j + 1 := ⟨k - 1, by omega⟩
      obtain rfl : q = (j : Int) := by omega
      clear hq
      have c1 := r1.cell (qcells_at [sm, cm, d, 0] j (by rw [show ([sm, cm, d, 0] : List Int).length = 4 from rfl]; omega))
      have c2 := r2.cell (qcells_at [0, 0, p, 0] j (by rw [show ([0, 0, p, 0] : List Int).length = 4 from rfl]; omega))
      have HS := Lib.hid (show (if ([sm, cm, d, 0] : List Int).getD j 0 = ([0, 0, p, 0] : List Int).getD j 0 then cmpB [sm, cm, d, 0] [0, 0, p, 0] j else decide (([sm, cm, d, 0] : List Int).getD j 0 < ([0, 0, p, 0] : List Int).getD j 0)) = R from HC.out)
      generalize ([sm, cm, d, 0] : List Int).getD j 0 = x at *
      generalize ([0, 0, p, 0] : List Int).getD j 0 = y at *
      have hj : (j : Int) < 4 := by omega
      have hj0 : (0 : Int) ≤ (j : Int) := by omega
      clear HC
      by_cases hxy : x = y
      · subst hxy
        have HT := Lib.hid (show cmpB [sm, cm, d, 0] [0, 0, p, 0] j = R by rw [← HS.out, if_pos rfl])
        clear HS
        go_wp2_with fail
        go_quiet (fail)
        go_wp2_with fail
        refine ⟨⟨j, _, rfl, by omega, rfl, HT.out, r1.drewN _, r2.drewN _, below_drewN hbl _⟩, ?_⟩
        simp [intOf]
      · have HT := Lib.hid (show decide (x < y) = R by rw [← HS.out, if_neg hxy])
        have e1 : (x != y) = true := by simpa using hxy
        have e2 : (x == y) = false := by simpa using hxy
        clear HS
        go_wp2_with fail
        go_quiet (fail)
        go_wp2_with fail
        go_quiet (fail)
        go_wp2_with fail
        go_ret
        exact ⟨by rw [HP.out, ← HT.out]; rfl, below_drewN (below_drewN hbl _) _⟩
/-- What is carried into round i of the cube, and the part that it leaves. -/
def kAt (L : List Int) (a b : Int) : Nat → Int
  | 0 => 0
  | i + 1 => cuK i (L.getD i 0) (L.getD (i - 1) 0) a b (kAt L a b i)
def nAt (L : List Int) (a b : Int) (i : Nat) : Int := cuX i (L.getD i 0) (L.getD (i - 1) 0) a b (kAt L a b i) % 4294967296
def nsAt (L : List Int) (a b : Int) : List Int := [nAt L a b 0, nAt L a b 1, nAt L a b 2, nAt L a b 3]
theorem nsAt_getD (L : List Int) (a b : Int) (i : Nat) (h : i < 4) : (nsAt L a b).getD i 0 = nAt L a b i := by
  match i, h with
  | 0, _ => rfl
  | 1, _ => rfl
  | 2, _ => rfl
  | 3, _ => rfl
/-- At a round's head of the cube's loop. -/
def CubAt (w : World) (L N : List Int) (K : Nat → Int) (kv i : Value) (wr : World) : Prop :=
  ∃ (k : Nat) (c : Int), i = .int .i64 k ∧ kv = .int .u64 c ∧ k ≤ 4 ∧ K k = c ∧ 0 ≤ c ∧ c ≤ 8589934592 ∧ Row wr w.heap.size 39 (qcells L) ∧ Row wr (w.heap.size + 1 + 1) 39 (qcells (over N [0, 0, 0, 0] k)) ∧ Below w.heap.size w wr
theorem row_nextq {w : World} {g k : Nat} {N : List Int} (h : Row w g 39 (qcells (over N [0, 0, 0, 0] k))) (hl : N.length = 4) (hk : k < 4) {x : Int} (hx : N.getD k 0 = x) :
    Row (w.setCell ⟨g, k, none⟩ (.int .u64 x)) g 39 (qcells (over N [0, 0, 0, 0] (k + 1))) := by
  rw [← over_set N [0, 0, 0, 0] 0 k (by rw [hl]; rfl) (by omega), hx, ← qcells_set]
  exact h.set k _
set_option maxRecDepth 100000 in
set_option maxHeartbeats 2000000 in
theorem power_cu (m p : Int) (w : World) (h0 : 0 ≤ m) (h1 : m < 68719476736) :
    Calls Tryd.prog 36 #[.int .u64 m, .bool true, .int .u64 p] w fun e w' => e = .returned (.bool (powerB m p true)) ∧ Below w.heap.size w w' := by
  obtain ⟨R, hR⟩ : ∃ R, powerB m p true = R := ⟨_, rfl⟩
  obtain ⟨a, ha⟩ : ∃ a, m / 4294967296 = a := ⟨_, rfl⟩
  obtain ⟨b, hb⟩ : ∃ b, m % 4294967296 = b := ⟨_, rfl⟩
  have a0 : 0 ≤ a := by omega
  have a1 : a ≤ 15 := by omega
  have b0 : 0 ≤ b := by omega
  have b1 : b ≤ 4294967295 := by omega
  obtain ⟨s, hs⟩ : ∃ s, b * b = s := ⟨_, rfl⟩
  obtain ⟨g, hg⟩ : ∃ g, 2 * a * b = g := ⟨_, rfl⟩
  obtain ⟨v, hv⟩ : ∃ v, a * a = v := ⟨_, rfl⟩
  have s0 : 0 ≤ s := hs ▸ Int.mul_nonneg b0 b0
  have s1 : s ≤ 4294967295 * 4294967295 := hs ▸ Int.mul_le_mul b1 b1 b0 (by omega)
  have g0 : 0 ≤ g := hg ▸ Int.mul_nonneg (by omega) b0
  have g1 : g ≤ 30 * 4294967295 := hg ▸ Int.mul_le_mul (by omega) b1 b0 (by omega)
  have v0 : 0 ≤ v := hv ▸ Int.mul_nonneg a0 a0
  have v1 : v ≤ 15 * 15 := hv ▸ Int.mul_le_mul a1 a1 a0 (by omega)
  obtain ⟨sd, hsd⟩ : ∃ x, s / 4294967296 = x := ⟨_, rfl⟩
  obtain ⟨sm, hsm⟩ : ∃ x, s % 4294967296 = x := ⟨_, rfl⟩
  obtain ⟨c, hc⟩ : ∃ x, sd + g = x := ⟨_, rfl⟩
  obtain ⟨cd, hcd⟩ : ∃ x, c / 4294967296 = x := ⟨_, rfl⟩
  obtain ⟨cm, hcm⟩ : ∃ x, c % 4294967296 = x := ⟨_, rfl⟩
  obtain ⟨d, hd⟩ : ∃ x, cd + v = x := ⟨_, rfl⟩
  have q1 := in64 s s0 (by omega)
  have q2 : s.tdiv 4294967296 = sd := by rw [Int.tdiv_eq_ediv_of_nonneg s0]; exact hsd
  have q3 : s.tmod 4294967296 = sm := by rw [Int.tmod_eq_emod_of_nonneg s0]; exact hsm
  have q4 := in64 sd (by omega) (by omega)
  have q5 := in64 g g0 (by omega)
  have q6 : IntKind.u64.wrap (sd + g) = c := by rw [in64 _ (by omega) (by omega)]; exact hc
  have q7 : c.tdiv 4294967296 = cd := by rw [Int.tdiv_eq_ediv_of_nonneg (by omega)]; exact hcd
  have q8 : c.tmod 4294967296 = cm := by rw [Int.tmod_eq_emod_of_nonneg (by omega)]; exact hcm
  have q9 := in64 cd (by omega) (by omega)
  have q10 := in64 v v0 (by omega)
  have q11 : IntKind.u64.wrap (cd + v) = d := by rw [in64 _ (by omega) (by omega)]; exact hd

  obtain ⟨L, hL⟩ : ∃ L : List Int, [sm, cm, d, 0] = L := ⟨_, rfl⟩
  obtain ⟨N, hN⟩ : ∃ N : List Int, nsAt L a b = N := ⟨_, rfl⟩
  have HP := Lib.hid hR
  have HR : cmpB N [0, 0, 0, p] 4 = R := by
    rw [← hN, ← hL, ← hR]
    show cmpB [_, _, _, _] _ 4 = _
    rw [cmpB_leB]
    show _ = leB (cuX 3 0 (sq2 (m / 4294967296) (m % 4294967296)) (m / 4294967296) (m % 4294967296) _ % 4294967296) _ _ _ p 0 0 0
    have e0 : sq0 (m % 4294967296) = sm := by unfold sq0; rw [hb, hs, hsm]
    have e1 : sq1 (m / 4294967296) (m % 4294967296) = cm := by unfold sq1 sqC; rw [ha, hb, hs, hg, hsd, hc, hcm]
    have e2 : sq2 (m / 4294967296) (m % 4294967296) = d := by unfold sq2 sqC; rw [ha, hb, hs, hg, hv, hsd, hc, hcd, hd]
    rw [e0, e1, e2, ha, hb]
    rfl
  have HLb : Hid (∀ j : Nat, 0 ≤ L.getD j 0 ∧ L.getD j 0 ≤ 4294967295) := Lib.hid (by
    intro j
    rw [← hL]
    match j with
    | 0 => exact ⟨show 0 ≤ sm by omega, show sm ≤ _ by omega⟩
    | 1 => exact ⟨show 0 ≤ cm by omega, show cm ≤ _ by omega⟩
    | 2 => exact ⟨show 0 ≤ d by omega, show d ≤ _ by omega⟩
    | 3 => exact ⟨by simp, by simp⟩
    | j + 4 => exact ⟨by simp, by simp⟩)
  have HNl : Hid (N.length = 4) := Lib.hid (by rw [← hN]; rfl)
  have HLl : Hid (L.length = 4) := Lib.hid (by rw [← hL]; rfl)
  have HNa : Hid (∀ i, i < 4 → N.getD i 0 = nAt L a b i) := Lib.hid (fun i hi => by rw [← hN]; exact nsAt_getD L a b i hi)
  have Hl : Hid (#[Value.int .u64 sm, Value.int .u64 cm, Value.int .u64 d, Value.int .u64 0] = qcells L) := Lib.hid (by rw [← hL]; rfl)
  have HRh := Lib.hid HR
  clear HR hsd hsm hc hcd hcm hd hR s0 s1 g0 g1 v0 v1 hL hN
  go_enter Tryd.func36, Tryd.ntmps36
  go_wp2_with fail
  clear q1 q2 q3 q4 q5 q6 q7 q8 q9 q10 q11 hs hg hv
  rw [Hl.out]
  go_loopw [13, 14] (fun kv i wr => CubAt w L N (kAt L a b) kv i wr) (fun _ i _ => 4 - (intOf i).toNat)
  case atStart => exact ⟨0, 0, rfl, rfl, by omega, rfl, by omega, by omega, (rows3 _ _ _ _ _ _ _).1, by rw [over_none]; exact (rows3 _ _ _ _ _ _ _).2.2.1, (rows3 _ _ _ _ _ _ _).2.2.2⟩
  case round =>
    obtain ⟨k, c0, rfl, rfl, hk, hK, k0, k1, r1, r3, hbl⟩ := hrel
    have HK := Lib.hid hK
    clear hK
    by_cases hk4 : k < 4
    · have c1 := r1.cell (qcells_at L k (by rw [HLl.out]; omega))
      have c2 := r1.cell (qcells_at L (k - 1) (by rw [HLl.out]; omega))
      have cn := r3.cell (qcells_at (over N [0, 0, 0, 0] k) k (by rw [over_length _ _ _ (by rw [HNl.out]; rfl), HNl.out]; omega))
      have fn := r3.free k
      obtain ⟨l0, l1⟩ := HLb.out k
      obtain ⟨m0, m1⟩ := HLb.out (k - 1)
      have HX := Lib.hid (show N.getD k 0 = cuX k (L.getD k 0) (L.getD (k - 1) 0) a b c0 % 4294967296 by rw [HNa.out k hk4]; unfold nAt; rw [HK.out])
      have HY := Lib.hid (show kAt L a b (k + 1) = cuK k (L.getD k 0) (L.getD (k - 1) 0) a b c0 by show cuK k _ _ a b (kAt L a b k) = _; rw [HK.out])
      generalize L.getD k 0 = x at *
      generalize L.getD (k - 1) 0 = z at *
      generalize (over N [0, 0, 0, 0] k).getD k 0 = old at *
      obtain ⟨y, hy⟩ : ∃ y, x * b = y := ⟨_, rfl⟩
      obtain ⟨t, ht⟩ : ∃ t, z * a = t := ⟨_, rfl⟩
      have y0 : 0 ≤ y := hy ▸ Int.mul_nonneg l0 b0
      have y1 : y ≤ 4294967295 * 4294967295 := hy ▸ Int.mul_le_mul l1 b1 b0 (by omega)
      have t0 : 0 ≤ t := ht ▸ Int.mul_nonneg m0 a0
      have t1 : t ≤ 4294967295 * 15 := ht ▸ Int.mul_le_mul m1 a1 a0 (by omega)
      obtain ⟨yd, hyd⟩ : ∃ u, y / 4294967296 = u := ⟨_, rfl⟩
      obtain ⟨ym, hym⟩ : ∃ u, y % 4294967296 = u := ⟨_, rfl⟩
      have q1 := in64 y y0 (by omega)
      have q2 : y.tdiv 4294967296 = yd := by rw [Int.tdiv_eq_ediv_of_nonneg y0]; exact hyd
      have q3 : y.tmod 4294967296 = ym := by rw [Int.tmod_eq_emod_of_nonneg y0]; exact hym
      have q4 := in64 yd (by omega) (by omega)
      have q5 := in64 t t0 (by omega)
      have hkk : (k : Int) < 4 := by omega
      have hcases : k = 0 ∨ (1 ≤ k ∧ k < 3) ∨ k = 3 := by omega
      rcases hcases with rfl | ⟨hk1, hk3⟩ | rfl
      · obtain ⟨x2, hx2⟩ : ∃ u, c0 + ym = u := ⟨_, rfl⟩
        have q6 : IntKind.u64.wrap (c0 + ym) = x2 := by rw [in64 _ (by omega) (by omega)]; exact hx2
        have q7 := in64 x2 (by omega) (by omega)
        rw [show ((0 : Nat) : Int) = (0 : Int) from rfl]
        obtain ⟨nn, hnn⟩ : ∃ u, x2 % 4294967296 = u := ⟨_, rfl⟩
        obtain ⟨qq, hqq⟩ : ∃ u, x2 / 4294967296 = u := ⟨_, rfl⟩
        obtain ⟨kn, hkn⟩ : ∃ u, yd + qq = u := ⟨_, rfl⟩
        have q8 : x2.tmod 4294967296 = nn := by rw [Int.tmod_eq_emod_of_nonneg (by omega)]; exact hnn
        have q9 : x2.tdiv 4294967296 = qq := by rw [Int.tdiv_eq_ediv_of_nonneg (by omega)]; exact hqq
        have q10 := in64 qq (by omega) (by omega)
        have q11 : IntKind.u64.wrap (yd + qq) = kn := by rw [in64 _ (by omega) (by omega)]; exact hkn
        have q12 := in64 kn (by omega) (by omega)
        have z0 : 0 ≤ kn := by omega
        have z1 : kn ≤ 8589934592 := by omega
        have HN2 := Lib.hid (show N.getD 0 0 = nn by rw [HX.out]; unfold cuX; rw [if_pos (by omega), if_neg (by omega), Int.add_zero, hy, hym, hx2, hnn])
        have HK2 := Lib.hid (show kAt L a b (0 + 1) = kn by rw [HY.out]; unfold cuK cuX; rw [if_pos (by omega), if_pos (by omega), if_neg (by omega), Int.add_zero, hy, hym, hyd, hx2, hqq, hkn])
        have Z0 := Lib.hid z0
        have Z1 := Lib.hid z1
        clear hyd hym hnn hqq hkn y0 y1 t0 t1 l0 l1 m0 m1 k0 k1 HX HY z0 z1 hkk hk hk4
        go_wp2_with fail
        refine ⟨⟨0 + 1, kn, by go_num, rfl, by omega, HK2.out, Z0.out, Z1.out, r1.other (by omega) _ _, row_nextq r3 HNl.out (by omega) HN2.out, hbl.setCell (p := ⟨w.heap.size + 1 + 1, 0, none⟩) (by show w.heap.size ≤ w.heap.size + 1 + 1; omega) _⟩, ?_⟩
        simp [intOf]
      · obtain ⟨x1, hx1⟩ : ∃ u, c0 + ym = u := ⟨_, rfl⟩
        obtain ⟨x2, hx2⟩ : ∃ u, x1 + t = u := ⟨_, rfl⟩
        have q6 : IntKind.u64.wrap (c0 + ym) = x1 := by rw [in64 _ (by omega) (by omega)]; exact hx1
        have q7 := in64 x1 (by omega) (by omega)
        have q6b : IntKind.u64.wrap (x1 + t) = x2 := by rw [in64 _ (by omega) (by omega)]; exact hx2
        have q7b := in64 x2 (by omega) (by omega)
        have hk3i : (k : Int) < 3 := by omega
        have hk1i : (0 : Int) < (k : Int) := by omega
        obtain ⟨j, hj⟩ : ∃ j : Nat, k - 1 = j := ⟨_, rfl⟩
        rw [hj] at c2
        have hji : (k : Int) - 1 = (j : Int) := by omega
        have hj4 : (j : Int) < 4 := by omega
        obtain ⟨nn, hnn⟩ : ∃ u, x2 % 4294967296 = u := ⟨_, rfl⟩
        obtain ⟨qq, hqq⟩ : ∃ u, x2 / 4294967296 = u := ⟨_, rfl⟩
        obtain ⟨kn, hkn⟩ : ∃ u, yd + qq = u := ⟨_, rfl⟩
        have q8 : x2.tmod 4294967296 = nn := by rw [Int.tmod_eq_emod_of_nonneg (by omega)]; exact hnn
        have q9 : x2.tdiv 4294967296 = qq := by rw [Int.tdiv_eq_ediv_of_nonneg (by omega)]; exact hqq
        have q10 := in64 qq (by omega) (by omega)
        have q11 : IntKind.u64.wrap (yd + qq) = kn := by rw [in64 _ (by omega) (by omega)]; exact hkn
        have q12 := in64 kn (by omega) (by omega)
        have z0 : 0 ≤ kn := by omega
        have z1 : kn ≤ 8589934592 := by omega
        have HN2 := Lib.hid (show N.getD k 0 = nn by rw [HX.out]; unfold cuX; rw [if_pos (by omega), if_pos (by omega), hy, hym, hx1, ht, hx2, hnn])
        have HK2 := Lib.hid (show kAt L a b (k + 1) = kn by rw [HY.out]; unfold cuK cuX; rw [if_pos (by omega), if_pos (by omega), if_pos (by omega), hy, hym, hyd, hx1, ht, hx2, hqq, hkn])
        have Z0 := Lib.hid z0
        have Z1 := Lib.hid z1
        clear hyd hym hnn hqq hkn y0 y1 t0 t1 l0 l1 m0 m1 k0 k1 HX HY z0 z1 hj
        go_wp2_with fail
        refine ⟨⟨k + 1, kn, by go_num, rfl, by omega, HK2.out, Z0.out, Z1.out, r1.other (by omega) _ _, row_nextq r3 HNl.out (by omega) HN2.out, hbl.setCell (p := ⟨w.heap.size + 1 + 1, k, none⟩) (by show w.heap.size ≤ w.heap.size + 1 + 1; omega) _⟩, ?_⟩
        simp [intOf]; omega
      · obtain ⟨x2, hx2⟩ : ∃ u, c0 + t = u := ⟨_, rfl⟩
        have q6 : IntKind.u64.wrap (c0 + t) = x2 := by rw [in64 _ (by omega) (by omega)]; exact hx2
        have q7 := in64 x2 (by omega) (by omega)
        rw [show ((3 : Nat) : Int) = (3 : Int) from rfl]
        obtain ⟨nn, hnn⟩ : ∃ u, x2 % 4294967296 = u := ⟨_, rfl⟩
        obtain ⟨qq, hqq⟩ : ∃ u, x2 / 4294967296 = u := ⟨_, rfl⟩
        have q8 : x2.tmod 4294967296 = nn := by rw [Int.tmod_eq_emod_of_nonneg (by omega)]; exact hnn
        have q9 : x2.tdiv 4294967296 = qq := by rw [Int.tdiv_eq_ediv_of_nonneg (by omega)]; exact hqq
        have q10 := in64 qq (by omega) (by omega)
        have z0 : 0 ≤ qq := by omega
        have z1 : qq ≤ 8589934592 := by omega
        have HN2 := Lib.hid (show N.getD 3 0 = nn by rw [HX.out]; unfold cuX; rw [if_neg (by omega), if_pos (by omega), ht, hx2, hnn])
        have HK2 := Lib.hid (show kAt L a b (3 + 1) = qq by rw [HY.out]; unfold cuK cuX; rw [if_neg (by omega), if_neg (by omega), if_pos (by omega), ht, hx2, hqq, Int.zero_add])
        have Z0 := Lib.hid z0
        have Z1 := Lib.hid z1
        clear hyd hym hnn hqq y0 y1 t0 t1 l0 l1 m0 m1 k0 k1 HX HY z0 z1 hkk hk hk4
        go_wp2_with fail
        refine ⟨⟨3 + 1, qq, by go_num, rfl, by omega, HK2.out, Z0.out, Z1.out, r1.other (by omega) _ _, row_nextq r3 HNl.out (by omega) HN2.out, hbl.setCell (p := ⟨w.heap.size + 1 + 1, 3, none⟩) (by show w.heap.size ≤ w.heap.size + 1 + 1; omega) _⟩, ?_⟩
        simp [intOf]
    · obtain rfl : k = 4 := by omega
      rw [show ((4 : Nat) : Int) = (4 : Int) from rfl]
      rw [over_all N _ 4 (by rw [HNl.out]; rfl) (by rw [HNl.out]; omega)] at r3
      have HM : Hid (#[Value.int .u64 0, Value.int .u64 0, Value.int .u64 0, Value.int .u64 p] = qcells [0, 0, 0, p]) := Lib.hid rfl
      clear ha hb a0 a1 b0 b1 k0 k1 r1
      go_wp2_with fail
      rw [HM.out]
      have v3 := r3.old (.cells (qcells [0, 0, 0, p]) 39)
      have v4 := Row.new wr 39 (qcells [0, 0, 0, p])
      have vb := hbl.alloc hbl.size (.cells (qcells [0, 0, 0, p]) 39)
      clear r3 hbl
      generalize wr.alloc (.cells (qcells [0, 0, 0, p]) 39) = w5 at *
      generalize wr.heap.size = V at *
      go_loopw [17] (fun i wr => CmpAt w (w.heap.size + 1 + 1) V N [0, 0, 0, p] R i wr) (fun i _ => (intOf i + 1).toNat)
      case atStart => exact ⟨4, 3, rfl, Nat.le_refl _, by omega, HRh.out, v3, v4, vb⟩
      case round =>
        obtain ⟨k, q, rfl, hk, hq, hR, r1, r2, hbl⟩ := hrel
        have HC := Lib.hid hR
        clear hR
        rcases Nat.eq_zero_or_pos k with rfl | hkp
        · obtain rfl : q = -1 := by omega
          clear hq hk
          go_wp2_with fail
          go_ret
          exact ⟨by rw [HP.out, ← HC.out]; rfl, hbl⟩
        · obtain ⟨j, rfl⟩ : ∃ j, k = j + 1 := ⟨k - 1, by omega⟩
          obtain rfl : q = (j : Int) := by omega
          clear hq
          have c1 := r1.cell (qcells_at N j (by rw [HNl.out]; omega))
          have c2 := r2.cell (qcells_at [0, 0, 0, p] j (by rw [show ([0, 0, 0, p] : List Int).length = 4 from rfl]; omega))
          have HS := Lib.hid (show (if N.getD j 0 = ([0, 0, 0, p] : List Int).getD j 0 then cmpB N [0, 0, 0, p] j else decide (N.getD j 0 < ([0, 0, 0, p] : List Int).getD j 0)) = R from HC.out)
          generalize N.getD j 0 = x at *
          generalize ([0, 0, 0, p] : List Int).getD j 0 = y at *
          have hj : (j : Int) < 4 := by omega
          have hj0 : (0 : Int) ≤ (j : Int) := by omega
          clear HC
          by_cases hxy : x = y
          · subst hxy
            have HT := Lib.hid (show cmpB N [0, 0, 0, p] j = R by rw [← HS.out, if_pos rfl])
            clear HS
            go_wp2_with fail
            go_quiet (fail)
            go_wp2_with fail
            refine ⟨⟨j, _, rfl, by omega, rfl, HT.out, r1.drewN _, r2.drewN _, below_drewN hbl _⟩, ?_⟩
            simp [intOf]
          · have HT := Lib.hid (show decide (x < y) = R by rw [← HS.out, if_neg hxy])
            have e1 : (x != y) = true := by simpa using hxy
            have e2 : (x == y) = false := by simpa using hxy
            clear HS
            go_wp2_with fail
            go_quiet (fail)
            go_wp2_with fail
            go_quiet (fail)
            go_wp2_with fail
            go_ret
            exact ⟨by rw [HP.out, ← HT.out]; rfl, below_drewN (below_drewN hbl _) _⟩
end Go.Proofs.YtbhcikahemhfmaaDoor.Sha3

/- The document's Cut, for any row and any bound; and its Greatest, for any ends and any row of at most 65536 sizes. No conditions but those that stand in each lemma. -/
import Derived.Test.YtejcpfplmlpilaaPartCut
import Derived.Test.YtejcpfplmlpilaaPartGreat
namespace Go.Proofs.Ytejcpfplmlpilaa
open Go.RowKit
namespace Part

/-- At a round's head, of the loop that looks at each size. -/
def EachAt (w : World) (l : List Int) (most : Int) (bv iv : Value) (wr : World) : Prop :=
  ∃ (k : Nat) (b : Int), k ≤ l.length ∧ iv = .int .i64 (k : Int) ∧ bv = .int .i64 b ∧ 0 ≤ b ∧ b ≤ most ∧ (∀ j, j < k → 0 ≤ l.getD j 0 ∧ l.getD j 0 ≤ b) ∧ (b = 0 ∨ ∃ j, j < k ∧ b = l.getD j 0) ∧ w = wr
/-- .. of the loop that looks for the bound. -/
def BoundAt (w : World) (l : List Int) (most t : Int) (bv : Value) (wr : World) : Prop :=
  ∃ b : Int, bv = .int .i64 b ∧ t ≤ b ∧ b ≤ most ∧ (∀ c, t ≤ c → c < b → many most l (l.length - 1) < many c l (l.length - 1)) ∧ Below w.heap.size w wr
set_option maxRecDepth 100000 in
set_option maxHeartbeats 8000000 in
theorem rcut_any (A : Option Addr) (n c : Nat) (l : List Int) (most : Int) (w : World) (hn : n = l.length) (hs : NumSrc w A l) (hl : n ≤ 9223372036854775807) :
    Calls Try.prog 8 #[.slice A n c, .int .i64 most] w (GivesCut w l most) := by
  have Hn := Lib.hid hn
  have Hs := Lib.hid hs
  clear hn hs
  rcases Nat.eq_zero_or_pos n with h1 | h1
  · have HF := Lib.hid (show ¬ Fit l most from fun h => by have := h.pos; have := Hn.out; omega)
    subst h1
    go_enter Try.func8, Try.ntmps8
    go_wp2_with fail
    go_ret
    exact GivesCut.none_ HF.out (Below.refl _ _)
  have hn0 : ¬ (n : Int) = 0 := by omega
  by_cases h2 : n > 65536
  · have HF := Lib.hid (show ¬ Fit l most from fun h => by have := h.len; have := Hn.out; omega)
    go_enter Try.func8, Try.ntmps8
    go_wp2_with fail
    go_ret
    exact GivesCut.none_ HF.out (Below.refl _ _)
  by_cases h3 : most < 1
  · have HF := Lib.hid (show ¬ Fit l most from fun h => by have := h.one; omega)
    go_enter Try.func8, Try.ntmps8
    go_wp2_with fail
    go_ret
    exact GivesCut.none_ HF.out (Below.refl _ _)
  by_cases h4 : most > 1073741824
  · have HF := Lib.hid (show ¬ Fit l most from fun h => by have := h.top; omega)
    go_enter Try.func8, Try.ntmps8
    go_wp2_with fail
    go_ret
    exact GivesCut.none_ HF.out (Below.refl _ _)
  have hn9 : ¬ (n : Int) > 65536 := by omega
  have hm1 : 1 ≤ most := by omega
  have hm2 : most ≤ 1073741824 := by omega
  go_enter Try.func8, Try.ntmps8
  go_wp2_with fail
  go_loopw [5, 6] (fun bv iv wr => EachAt w l most bv iv wr) (fun _ i _ => n - (intOf i).toNat)
  case atStart => exact ⟨0, 0, Nat.zero_le _, rfl, rfl, by omega, by omega, fun j hj => absurd hj (by omega), .inl rfl, rfl⟩
  case round =>
    obtain ⟨k, b, hk, rfl, rfl, hb0, hb1, hall, hin, rfl⟩ := hrel
    have HA := Lib.hid hall
    have HI := Lib.hid hin
    clear hall hin
    by_cases hlt : k < l.length
    · obtain ⟨b0, o, rfl, hbl, hcell⟩ := Hs.out (by omega)
      have c0 := hcell k hlt
      have hkn : k < n := by have := Hn.out; omega
      clear hcell
      have HE := Lib.hid (show Fit l most → 0 ≤ l.getD k 0 ∧ l.getD k 0 ≤ most from fun h => h.each k)
      have HS := Lib.hid (show ∀ c : Int, b ≤ c → 0 ≤ l.getD k 0 → l.getD k 0 ≤ c → ∀ j, j < k + 1 → 0 ≤ l.getD j 0 ∧ l.getD j 0 ≤ c from fun c hbc hx0 hxc j hj => by
        by_cases e : j = k
        · rw [e]; exact ⟨hx0, hxc⟩
        · have := HA.out j (by omega); omega)
      obtain ⟨x, hx⟩ : ∃ x, l.getD k 0 = x := ⟨_, rfl⟩
      rw [hx] at c0 HE HS
      have HX := Lib.hid hx
      clear hx
      by_cases g1 : x < 0
      · have HF := Lib.hid (show ¬ Fit l most from fun h => by have := HE.out h; omega)
        go_wp2_with fail
        go_ret
        exact GivesCut.none_ HF.out (Below.refl _ _)
      by_cases g2 : x > most
      · have HF := Lib.hid (show ¬ Fit l most from fun h => by have := HE.out h; omega)
        go_wp2_with fail
        go_ret
        exact GivesCut.none_ HF.out (Below.refl _ _)
      by_cases g3 : x > b
      · have HQ := Lib.hid (HS.out x (by omega) (by omega) (by omega))
        go_wp2_with fail
        go_roundw
        case rel => exact ⟨k + 1, x, by omega, by go_num, rfl, by omega, by omega, HQ.out, .inr ⟨k, by omega, HX.out.symm⟩, rfl⟩
        case measure => simp [intOf]; omega
      · have HQ := Lib.hid (HS.out b (by omega) (by omega) (by omega))
        go_wp2_with fail
        go_roundw
        case rel => exact ⟨k + 1, b, by omega, by go_num, rfl, hb0, hb1, HQ.out, HI.out.elim .inl fun ⟨j, hj, e⟩ => .inr ⟨j, by omega, e⟩, rfl⟩
        case measure => simp [intOf]; omega
    · obtain rfl : k = n := by have := Hn.out; omega
      have HZ := Lib.hid (show Sized l b from fun j => by
        rcases Nat.lt_or_ge j l.length with hj | hj
        · exact HA.out j (by have := Hn.out; omega)
        · rw [getD_out hj]; omega)
      have HM := Lib.hid (show ∀ c, (∀ i, l.getD i 0 ≤ c) → b ≤ c from fun c hc => by
        rcases HI.out with h | ⟨j, _, h⟩
        · have := hc 0; have := HZ.out 0; omega
        · rw [h]; exact hc j)
      have HF := Lib.hid (show Fit l most from ⟨by have := Hn.out; omega, by have := Hn.out; omega, hm1, hm2, fun j => by have := HZ.out j; omega⟩)
      clear HA HI
      go_wp2_with fail
      refine (greedy_any A k c l most _ Hn.out Hs.out (by omega) h1 hm2 HF.out.each).mono ?_
      rintro e w1 ⟨A1, n1, c1, rfl, ho1, hb1'⟩
      have HN1 := Lib.hid (show n1 = many most l (l.length - 1) by rw [ho1.1, ends_count])
      have HL1 := Lib.hid (show n1 ≤ 65536 by
        have h5 := (st_gst most l (l.length - 1)).1
        have h6 := st_few (gcut most l) l (l.length - 1)
        have h7 := HN1.out
        have h8 := Hn.out
        omega)
      have hn1 := HL1.out
      clear ho1
      go_wp2_with fail
      go_loopw [5] (fun bv wr => BoundAt w l most b bv wr) (fun bv _ => (most - intOf bv).toNat)
      case atStart => exact ⟨b, rfl, Int.le_refl _, hb1, fun c h3 h4 => absurd h4 (by omega), hb1'⟩
      case round =>
        obtain ⟨d, rfl, hbd, hdm, hlow, hbw⟩ := hrel
        have HLo := Lib.hid hlow
        clear hlow
        have HZd := Lib.hid (show Sized l d from fun j => by have := HZ.out j; omega)
        go_wp2_with fail
        refine (greedy_any A k c l d _ Hn.out (Hs.out.keepB hbw) (by omega) h1 (by omega) HZd.out).mono ?_
        rintro e w2 ⟨A2, n2, c2, rfl, ho2, hb2⟩
        have HN2 := Lib.hid (show n2 = many d l (l.length - 1) by rw [ho2.1, ends_count])
        have HB2 := Lib.hid (hbw.trans (hb2.mono hbw.size))
        have HL2 := Lib.hid (show n2 ≤ 65536 by
          have h5 := (st_gst d l (l.length - 1)).1
          have h6 := st_few (gcut d l) l (l.length - 1)
          have h7 := HN2.out
          have h8 := Hn.out
          omega)
        have hn2 := HL2.out
        clear ho2 hb2
        by_cases hgo : n2 > n1
        · have hgi : (n2 : Int) > (n1 : Int) := by omega
          have hdl : d < most := by
            rcases Int.lt_or_le d most with h | h
            · exact h
            · have e : d = most := by omega
              have h7 := HN2.out
              have h8 := HN1.out
              rw [e] at h7
              omega
          have HL := Lib.hid (show ∀ c, b ≤ c → c < d + 1 → many most l (l.length - 1) < many c l (l.length - 1) from fun c h5 h6 => by
            rcases Int.lt_or_le c d with h | h
            · exact HLo.out c h5 h
            · rw [show c = d by omega, ← HN1.out, ← HN2.out]; exact hgo)
          go_wp2_with fail
          go_roundw
          case rel => exact ⟨d + 1, rfl, by omega, by omega, HL.out, HB2.out⟩
          case measure => simp [intOf]; omega
        · have hgi : ¬ (n2 : Int) > (n1 : Int) := by omega
          have HL := Lib.hid (show Least l (l.length - 1) most d from ⟨HZd.out.top, hdm, by rw [← HN1.out, ← HN2.out]; omega, fun c hc hm => by
            rcases Int.lt_or_le c d with h | h
            · have := HLo.out c (HM.out c hc) h; omega
            · exact h⟩)
          go_wp2_with fail
          refine (greedy_any A k c l d _ Hn.out (Hs.out.keepB HB2.out) (by omega) h1 (by omega) HZd.out).mono ?_
          rintro e w3 ⟨A3, n3, c3, rfl, ho3, hb3⟩
          have HO3 := Lib.hid (ho3.more HB2.out.size)
          have HB3 := Lib.hid (HB2.out.trans (hb3.mono HB2.out.size))
          clear ho3 hb3
          go_wp2_with fail
          go_ret
          exact ⟨_, .inr ⟨HF.out, d, HL.out, rfl⟩, A3, n3, c3, rfl, HO3.out, HB3.out⟩

/-- At a round's head, of the loop over the ends. -/
def REndsAt (w : World) (es : List Int) (iv : Value) (wr : World) : Prop :=
  ∃ k : Nat, 1 ≤ k ∧ k ≤ es.length ∧ iv = .int .i64 (k : Int) ∧ (∀ i, i < k → prevE es i < es.getD i 0) ∧ Below w.heap.size w wr
/-- .. of the loop over the sizes. -/
def RGreatAt (w : World) (l es : List Int) (tv sv kv iv : Value) (wr : World) : Prop :=
  ∃ (i k : Nat) (s t : Int), i ≤ l.length ∧ k < es.length ∧ iv = .int .i64 (i : Int) ∧ kv = .int .i64 (k : Int) ∧ sv = .int .i64 s ∧ tv = .int .i64 t ∧ (∀ j, j < i → 0 ≤ l.getD j 0 ∧ l.getD j 0 ≤ 1073741824) ∧
    ((i = 0 ∧ k = 0) ∨ prevE es k < i) ∧ (i : Int) ≤ es.getD k 0 ∧ s = (T (cutE es) l i).1 ∧ t = (T (cutE es) l i).2 ∧ 0 ≤ s ∧ s ≤ t ∧ t ≤ 1073741824 * (i : Int) ∧ Below w.heap.size w wr
theorem getD_lastE {es : List Int} (h : 0 < es.length) : prevE es es.length = es.getD (es.length - 1) 0 := by unfold prevE; rw [if_neg (by omega)]
set_option maxRecDepth 100000 in
set_option maxHeartbeats 8000000 in
theorem rgreat_any (A : Option Addr) (n c : Nat) (l : List Int) (A2 : Option Addr) (n2 c2 : Nat) (es : List Int) (w : World) (hn : n = l.length) (hs : NumSrc w A l) (hl : n ≤ 65536) (hn2 : n2 = es.length) (hs2 : NumSrc w A2 es) (hl2 : n2 ≤ 9223372036854775807) :
    Calls Try.prog 10 #[.slice A n c, .slice A2 n2 c2] w fun e w' => ∃ r, TopIs l es r ∧ e = .returned (.int .i64 r) ∧ Below w.heap.size w w' := by
  have Hn := Lib.hid hn
  have Hs := Lib.hid hs
  have Hn2 := Lib.hid hn2
  have Hs2 := Lib.hid hs2
  clear hn hs hn2 hs2
  rcases Nat.eq_zero_or_pos n2 with h1 | h1
  · have HQ := Lib.hid (show TopIs l es 0 from by
      by_cases h : RiseP es l.length ∧ Sized l 1073741824
      · refine .inr ⟨h.1, h.2, ?_⟩
        have h3 := h.1.last
        rw [← Hn2.out, h1, prevE_zero] at h3
        rw [show l.length = 0 by omega]; rfl
      · exact .inl ⟨h, rfl⟩)
    subst h1
    go_enter Try.func10, Try.ntmps10
    go_wp2_with fail
    go_ret
    exact ⟨0, HQ.out, rfl, Below.refl _ _⟩
  have hn0 : ¬ (n2 : Int) = 0 := by omega
  have hl3 : n2 - 1 < n2 := by omega
  have hli : (0 : Int) ≤ (n2 : Int) - 1 := by omega
  obtain ⟨b2, o2, rfl, hbl2, hcell2⟩ := Hs2.out (by have := Hn2.out; omega)
  have HC2 := Lib.hid hcell2
  clear hcell2
  have cl : w.cell? ⟨b2, o2 + (n2 - 1), none⟩ = some (.int .i64 (es.getD (n2 - 1) 0)) := HC2.out (n2 - 1) (by have := Hn2.out; omega)
  have cz : w.cell? ⟨b2, o2, none⟩ = some (.int .i64 (es.getD 0 0)) := HC2.out 0 (by have := Hn2.out; omega)
  have HL := Lib.hid (show prevE es es.length = es.getD (n2 - 1) 0 by rw [Hn2.out]; exact getD_lastE (by have := Hn2.out; omega))
  obtain ⟨x, hx⟩ : ∃ x, es.getD (n2 - 1) 0 = x := ⟨_, rfl⟩
  obtain ⟨y, hy⟩ : ∃ y, es.getD 0 0 = y := ⟨_, rfl⟩
  rw [hx] at cl HL
  rw [hy] at cz
  have HY := Lib.hid hy
  clear hx hy
  by_cases h2 : ¬ x = (n : Int)
  · have HQ := Lib.hid (show TopIs l es 0 from .inl ⟨fun h => by have h3 := h.1.last; rw [HL.out, ← Hn.out] at h3; exact h2 h3, rfl⟩)
    go_enter Try.func10, Try.ntmps10
    go_wp2_with fail
    go_ret
    exact ⟨0, HQ.out, rfl, Below.refl _ _⟩
  obtain rfl : x = (n : Int) := by omega
  clear h2
  by_cases h3 : y < 1
  · have HQ := Lib.hid (show TopIs l es 0 from .inl ⟨fun h => by have h4 := h.1.up 0 (by have := Hn2.out; omega); rw [HY.out, prevE_zero] at h4; omega, rfl⟩)
    go_enter Try.func10, Try.ntmps10
    go_wp2_with fail
    go_ret
    exact ⟨0, HQ.out, rfl, Below.refl _ _⟩
  have HL2 := Lib.hid (show prevE es es.length = (l.length : Int) by rw [HL.out, Hn.out])
  clear HL
  go_enter Try.func10, Try.ntmps10
  go_wp2_with fail
  go_loopw [5] (fun iv wr => REndsAt w es iv wr) (fun i _ => n2 - (intOf i).toNat)
  case atStart => exact ⟨1, Nat.le_refl _, by have := Hn2.out; omega, rfl, fun i hi => by rw [show i = 0 by omega, HY.out, prevE_zero]; omega, Below.refl _ _⟩
  case round =>
    obtain ⟨k, hk1, hk, rfl, hup, hb⟩ := hrel
    have HU := Lib.hid hup
    clear hup cl cz
    by_cases hlt : k < es.length
    · have hkn : k < n2 := by have := Hn2.out; omega
      have c0 := (hb.cell (p := ⟨b2, o2 + k, none⟩) hbl2).trans (HC2.out k hlt)
      have c1 := (hb.cell (p := ⟨b2, o2 + (k - 1), none⟩) hbl2).trans (HC2.out (k - 1) (by omega))
      have HP := Lib.hid (show prevE es k = es.getD (k - 1) 0 by unfold prevE; rw [if_neg (by omega)])
      have hki : (k : Int) < (n2 : Int) := by omega
      obtain ⟨u, hu⟩ : ∃ u, es.getD k 0 = u := ⟨_, rfl⟩
      obtain ⟨v, hv⟩ : ∃ v, es.getD (k - 1) 0 = v := ⟨_, rfl⟩
      rw [hu] at c0
      rw [hv] at c1 HP
      have HUU := Lib.hid hu
      clear hu hv
      have hj1 : k - 1 < n2 := by omega
      have hj2 : (k : Int) - 1 < (n2 : Int) := by omega
      have hj3 : 0 ≤ (k : Int) - 1 := by omega
      go_wp2_with fail
      go_quiet (fail)
      have hbd := below_drewN hb nq
      generalize wr.drewN nq = wd at *
      clear c0 c1 hb
      by_cases g : u ≤ v
      · have HQ := Lib.hid (show TopIs l es 0 from .inl ⟨fun h => by have h4 := h.1.up k hlt; rw [HUU.out, HP.out] at h4; omega, rfl⟩)
        go_wp2_with fail
        go_ret
        exact ⟨0, HQ.out, rfl, hbd⟩
      · have HN := Lib.hid (show ∀ i, i < k + 1 → prevE es i < es.getD i 0 from fun i hi => by
          by_cases e : i = k
          · rw [e, HUU.out, HP.out]; omega
          · exact HU.out i (by omega))
        go_wp2_with fail
        go_roundw
        case rel => exact ⟨k + 1, by omega, by omega, by go_num, HN.out, hbd⟩
        case measure => simp [intOf]; omega
    · obtain rfl : k = n2 := by have := Hn2.out; omega
      have HR := Lib.hid (show RiseP es l.length from ⟨fun i hi => HU.out i (by have := Hn2.out; omega), HL2.out⟩)
      clear HU HL2
      go_wp2_with fail
      go_loopw [6, 7, 8, 9] (fun tv sv kv iv wr => RGreatAt w l es tv sv kv iv wr) (fun _ _ _ i _ => n - (intOf i).toNat)
      case atStart => exact ⟨0, 0, 0, 0, Nat.zero_le _, by have := Hn2.out; omega, rfl, rfl, rfl, rfl, fun j hj => absurd hj (by omega), .inl ⟨rfl, rfl⟩, by rw [HY.out]; omega, rfl, rfl, by omega, by omega, by omega, hb⟩
      case round =>
        obtain ⟨i, q, s, t, hi, hq, rfl, rfl, rfl, rfl, hall, hpr, hnx, hs, ht, hs0, hst, htm, hbw⟩ := hrel
        have HA := Lib.hid hall
        have HPR := Lib.hid hpr
        have HS := Lib.hid hs
        have HT := Lib.hid ht
        clear hall hpr hs ht
        by_cases hlt2 : i < l.length
        · obtain ⟨b0, o, rfl, hbl, hcell⟩ := Hs.out (by omega)
          have c0 := (hbw.cell (p := ⟨b0, o + i, none⟩) hbl).trans (hcell i hlt2)
          have ce := (hbw.cell (p := ⟨b2, o2 + q, none⟩) hbl2).trans (HC2.out q hq)
          have hin : i < n := by have := Hn.out; omega
          have hqn : q < k := by have := Hn2.out; omega
          clear hcell
          have HSz := Lib.hid (show Sized l 1073741824 → 0 ≤ l.getD i 0 ∧ l.getD i 0 ≤ 1073741824 from fun h => h i)
          have HX := Lib.hid (show 0 ≤ l.getD i 0 → l.getD i 0 ≤ 1073741824 → ∀ j, j < i + 1 → 0 ≤ l.getD j 0 ∧ l.getD j 0 ≤ 1073741824 from fun g1 g2 j hj => by
            by_cases e : j = i
            · rw [e]; exact ⟨g1, g2⟩
            · exact HA.out j (by omega))
          have HT1 := Lib.hid (T_cut (cutE es) l i)
          have HT2 := Lib.hid (fun g1 : 0 ≤ l.getD i 0 => T_on (cutE es) l i (by
            rcases Nat.eq_zero_or_pos i with h0 | h0
            · rw [← h0]; exact g1
            · exact (HA.out 0 h0).1))
          have HC := Lib.hid (show 0 < i → (cutE es i = true ↔ (i : Int) = es.getD q 0) from fun h0 => HR.out.cut hq (HPR.out.resolve_left fun h => by omega) hnx)
          have HU := Lib.hid (HR.out.up q hq)
          have HPN := Lib.hid (prevE_next es q)
          have HMO := Lib.hid (show (i : Int) = es.getD q 0 → q + 1 < es.length ∧ (i : Int) < es.getD (q + 1) 0 from fun h => by
            have h5 : q + 1 < es.length := HR.out.more (k := q + 1) hq (by rw [prevE_next, ← h]; omega)
            have h6 := HR.out.up (q + 1) h5
            rw [prevE_next, ← h] at h6
            exact ⟨h5, h6⟩)
          rw [← HS.out, ← HT.out] at HT2
          rw [← HT.out] at HT1
          obtain ⟨x, hx⟩ : ∃ x, l.getD i 0 = x := ⟨_, rfl⟩
          obtain ⟨z, hz⟩ : ∃ z, es.getD q 0 = z := ⟨_, rfl⟩
          rw [hx] at c0 HSz HX HT1 HT2
          rw [hz] at ce HC HU HPN HMO hnx
          have HZZ := Lib.hid hz
          clear hx hz
          by_cases g1 : x < 0
          · have HQ := Lib.hid (show TopIs l es 0 from .inl ⟨fun h => by have := HSz.out h.2; omega, rfl⟩)
            go_wp2_with fail
            go_ret
            exact ⟨0, HQ.out, rfl, hbw⟩
          by_cases g2 : x > 1073741824
          · have HQ := Lib.hid (show TopIs l es 0 from .inl ⟨fun h => by have := HSz.out h.2; omega, rfl⟩)
            go_wp2_with fail
            go_ret
            exact ⟨0, HQ.out, rfl, hbw⟩
          have HX2 := Lib.hid (HX.out (by omega) (by omega))
          have hpos : 0 ≤ prevE es q := HR.out.pos q (by omega)
          by_cases g3 : (i : Int) = z
          · have hi0 : 0 < i := by have := HU.out; omega
            have HT3 := Lib.hid (HT1.out hi0 ((HC.out hi0).2 g3))
            have HM2 := Lib.hid (HMO.out g3)
            have HP2 := Lib.hid (show prevE es (q + 1) < ((i + 1 : Nat) : Int) by rw [HPN.out, ← g3]; omega)
            have HZ2 : Hid ((i : Int) = z) := Lib.hid g3
            subst g3
            by_cases g4 : x > t
            · have HM : max t x = x := by omega
              rw [HM] at HT3
              go_wp2_with fail
              go_roundw
              case rel => exact ⟨i + 1, q + 1, x, x, by omega, HM2.out.1, by go_num, by go_num, rfl, rfl, HX2.out, .inr HP2.out, by have := HM2.out.2; omega, by rw [HT3.out], by rw [HT3.out], by omega, by omega, by omega, hbw⟩
              case measure => simp [intOf]; omega
            · have HM : max t x = t := by omega
              rw [HM] at HT3
              go_wp2_with fail
              go_roundw
              case rel => exact ⟨i + 1, q + 1, x, t, by omega, HM2.out.1, by go_num, by go_num, rfl, rfl, HX2.out, .inr HP2.out, by have := HM2.out.2; omega, by rw [HT3.out], by rw [HT3.out], by omega, by omega, by omega, hbw⟩
              case measure => simp [intOf]; omega
          · have HT3 := Lib.hid (HT2.out (by omega) (by
              rcases Nat.eq_zero_or_pos i with h0 | h0
              · exact .inl h0
              · exact .inr fun h => g3 ((HC.out h0).1 h)))
            have HP2 := Lib.hid (show prevE es q < ((i + 1 : Nat) : Int) by
              rcases HPR.out with ⟨h5, h6⟩ | h5
              · rw [h6, prevE_zero]; omega
              · omega)
            by_cases g4 : s + x > t
            · have HM : max t (s + x) = s + x := by omega
              rw [HM] at HT3
              go_wp2_with fail
              go_roundw
              case rel => exact ⟨i + 1, q, s + x, s + x, by omega, hq, by go_num, rfl, rfl, rfl, HX2.out, .inr HP2.out, by rw [HZZ.out]; omega, by rw [HT3.out], by rw [HT3.out], by omega, by omega, by omega, hbw⟩
              case measure => simp [intOf]; omega
            · have HM : max t (s + x) = t := by omega
              rw [HM] at HT3
              go_wp2_with fail
              go_roundw
              case rel => exact ⟨i + 1, q, s + x, t, by omega, hq, by go_num, rfl, rfl, rfl, HX2.out, .inr HP2.out, by rw [HZZ.out]; omega, by rw [HT3.out], by rw [HT3.out], by omega, by omega, by omega, hbw⟩
              case measure => simp [intOf]; omega
        · obtain rfl : i = n := by have := Hn.out; omega
          have HQ := Lib.hid (show TopIs l es t from .inr ⟨HR.out, fun j => by
            rcases Nat.lt_or_ge j l.length with hj | hj
            · exact HA.out j (by have := Hn.out; omega)
            · rw [getD_out hj]; omega, by rw [HT.out, Hn.out]⟩)
          go_wp2_with fail
          go_ret
          exact ⟨t, HQ.out, rfl, hbw⟩
end Part
end Go.Proofs.Ytejcpfplmlpilaa

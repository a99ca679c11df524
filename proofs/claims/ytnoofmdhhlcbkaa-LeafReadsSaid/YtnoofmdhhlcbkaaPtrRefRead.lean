/- The document's None: for any pointer; nothing that was there is written. | The document's Read: any bytes are their pointer, or its error: as the program's. -/
import Derived.Test.YtnoofmdhhlcbkaaPtr
import Derived.Test.YtnoofmdhhlcbkaaPtrReadAny
import Derived.Test.YtnoofmdhhlcbkaaPtrRefRight
import Derived.Test.YtnoofmdhhlcbkaaTakeRef

namespace Go.Proofs.Ytnoofmdhhlcbkaa
open Go.RowKit

theorem none_false {p : Pt} (h : p.place ≠ 0 ∨ p.birth ≠ 0 ∨ p.len ≠ 0 ∨ p.crc ≠ 0 ∨ p.sha ≠ List.replicate 32 0) : false = p.none := by
  cases hn : p.none with
  | false => rfl
  | true =>
    have := (Pt.same_iff p Pt.zero).1 hn
    subst this
    simp [Pt.zero] at h
theorem none_true {p : Pt} (h0 : p.place = 0) (h1 : p.birth = 0) (h2 : p.len = 0) (h3 : p.crc = 0) (h4 : p.sha = List.replicate 32 0) : true = p.none := by
  have : p = Pt.zero := by cases p; simp_all [Pt.zero]
  rw [this]
  exact (Pt.same_self _).symm
/-- So many of the sum's bytes are zero. -/
def ZeroAt (l : List Int) (i : Value) : Prop := ∃ k : Nat, k ≤ 32 ∧ i = .int .i64 (k : Int) ∧ l.take k = List.replicate k 0
theorem zero_next {l : List Int} {k : Nat} (hk : k < l.length) (h : l.take k = List.replicate k 0) (hz : l.getD k 0 = 0) : l.take (k + 1) = List.replicate (k + 1) 0 := by
  rw [List.take_succ_eq_append_getElem hk, h, List.replicate_succ']
  rw [List.getD_eq_getElem?_getD, List.getElem?_eq_getElem hk] at hz
  rw [show l[k] = 0 from hz]

set_option maxHeartbeats 2000000 in
theorem refNone_any (p : Pt) (w : World) (hp : p.Ok) :
    Calls Try.prog 47 #[.agg (pcells p)] w fun e w' => e = .returned (.bool p.none) ∧ Below w.heap.size w w' := by
  have r1 := Row.new w 43 (pcells p)
  have b1 : Below w.heap.size w (w.alloc (.cells (pcells p) 43)) := (Below.refl _ _).alloc (Nat.le_refl _) _
  have c0 := row_place r1
  have c1 := row_birth r1
  have c2 := row_len r1
  have c3 := row_crc r1
  have Hs := Lib.hid (fun i (hi : i < p.sha.length) => r1.cell (pcells_sha p i hi))
  have Hl := Lib.hid hp.shaL
  clear hp r1
  by_cases h0 : p.place = 0
  · rw [h0] at c0
    by_cases h1 : p.birth = 0
    · rw [h1] at c1
      by_cases h2 : p.len = 0
      · rw [h2] at c2
        by_cases h3 : p.crc = 0
        · rw [h3] at c3
          have H0 := Lib.hid h0
          have H1 := Lib.hid h1
          have H2 := Lib.hid h2
          have H3 := Lib.hid h3
          clear h0 h1 h2 h3
          go_enter Try.func47, Try.ntmps47
          go_wp2_with fail
          go_loop [3] (fun i => ZeroAt p.sha i) (fun i => 32 - (intOf i).toNat)
          case atStart => exact ⟨0, by omega, rfl, by simp⟩
          case round =>
            obtain ⟨k, hk, rfl, hz⟩ := hrel
            have HZ := Lib.hid hz
            clear hz
            by_cases hlt : k < 32
            · have hk2 : k < p.sha.length := by have := Hl.out; omega
              have hc := Hs.out k hk2
              by_cases hx : p.sha.getD k 0 = 0
              · rw [hx] at hc
                have HX := Lib.hid hx
                clear hx
                go_wp2_with fail
                go_round
                case rel => exact ⟨k + 1, by omega, by go_num, zero_next hk2 HZ.out HX.out⟩
                case measure => simp [intOf]; omega
              · have HR := Lib.hid (none_false (p := p) (.inr (.inr (.inr (.inr (fun h => hx (by rw [h, List.getD_eq_getElem?_getD, List.getElem?_replicate, if_pos hlt]; rfl)))))))
                generalize p.sha.getD k 0 = x at *
                have hx1 : (x != 0) = true := by simpa using hx
                go_wp2_with fail
                go_ret
                exact ⟨by rw [← HR.out]; rfl, b1⟩
            · obtain rfl : k = 32 := by omega
              have HR := Lib.hid (none_true H0.out H1.out H2.out H3.out (by rw [← HZ.out, List.take_of_length_le (by rw [Hl.out]; exact Nat.le_refl _)]))
              go_wp2_with fail
              go_ret
              exact ⟨by rw [← HR.out]; rfl, b1⟩
        · have HR := Lib.hid (none_false (p := p) (.inr (.inr (.inr (.inl h3)))))
          have hx1 : (p.crc != 0) = true := by simpa using h3
          clear h0 h1 h2
          go_enter Try.func47, Try.ntmps47
          go_wp2_with fail
          go_ret
          exact ⟨by rw [← HR.out]; rfl, b1⟩
      · have HR := Lib.hid (none_false (p := p) (.inr (.inr (.inl h2))))
        have hx1 : (p.len != 0) = true := by simpa using h2
        clear h0 h1
        go_enter Try.func47, Try.ntmps47
        go_wp2_with fail
        go_ret
        exact ⟨by rw [← HR.out]; rfl, b1⟩
    · have HR := Lib.hid (none_false (p := p) (.inr (.inl h1)))
      have hx1 : (p.birth != 0) = true := by simpa using h1
      clear h0
      go_enter Try.func47, Try.ntmps47
      go_wp2_with fail
      go_ret
      exact ⟨by rw [← HR.out]; rfl, b1⟩
  · have HR := Lib.hid (none_false (p := p) (.inl h0))
    have hx1 : (p.place != 0) = true := by simpa using h0
    go_enter Try.func47, Try.ntmps47
    go_wp2_with fail
    go_ret
    exact ⟨by rw [← HR.out]; rfl, b1⟩
end Go.Proofs.Ytnoofmdhhlcbkaa

namespace Go.Proofs.Ytnoofmdhhlcbkaa
open Go.RowKit

theorem Try.resultsRefRead : Try.f29.results = #[.cell 2 43, .tmp 3] := by kernel_rfl
theorem built_pt (a b c d : Int) : Try.prog.built 43 [(0, .int .i64 a), (2, .int .i64 b), (1, .int .i64 c), (3, .int .u32 d)] = some (pcells ⟨a, c, b, d, List.replicate 32 0⟩) := by kernel_rfl
set_option maxHeartbeats 1000000 in
theorem refRead_small (A : Option Addr) (n c : Nat) (xs : List Int) (w : World) (hn : n = xs.length) (hl : n < 52) :
    Calls Try.prog 29 #[.slice A n c] w fun e w' => e = .returned (.tuple #[.agg (pcells (readPt xs)), .int .i64 (readErr xs)]) ∧ Below w.heap.size w w' := by
  have r1 := zero_row w
  have b1 := zero_below w
  have H1 := Lib.hid (show readPt xs = Pt.zero by unfold readPt; rw [if_pos (by omega)])
  have H2 := Lib.hid (show readErr xs = 10 by unfold readErr; rw [if_pos (by omega)])
  have Hz := Lib.hid zero_built
  have Hs := Lib.hid (pt_size (p := Pt.zero) rfl)
  have h1 := Lib.hid (pcells_one Pt.zero)
  have hd : decide ((n : Int) < 52) = true := by simp; omega
  have hd2 : decide (n < 52) = true := by simp; omega
  clear hn hl
  rw [H1.out, H2.out]
  generalize pcells Pt.zero = zs at *
  go_enter Try.func29, Try.ntmps29
  go_wp2_with (first
    | (refine wpList_build_eq rfl 43 #[] rfl [] (by simp) zs Hz.out ?_)
    | (refine wpList_store_row rfl 43 (.tmp 2) (.tmp 21) rfl w.heap.size zs rfl rfl 43 zs r1 Hs.out rfl h1.out ?_))
  refine bodyPost_ret (v := .tuple #[.agg zs, .int .i64 10]) ?_ rfl ?_
  · exact results_cell_tmp_row Try.resultsRefRead _ _ w.heap.size 43 zs (0, 0) _ rfl (r1.setRow zs) Try.underlying43 rfl Hs.out
  · exact ⟨rfl, below_setRow b1 (Nat.le_refl _) _⟩

theorem Row.cast {w : World} {g : Nat} {t : TypeId} {cs ds : Array Value} (h : Row w g t cs) (e : cs = ds) : Row w g t ds := e ▸ h
/-- The sum's bytes, so many of them laid. -/
def partB (ys : List Int) (k : Nat) : List Int := ys.take k ++ List.replicate (32 - k) 0
theorem partB_none (ys : List Int) : partB ys 0 = List.replicate 32 0 := by simp [partB]
theorem partB_all (ys : List Int) (h : ys.length = 32) : partB ys 32 = ys := by unfold partB; rw [List.take_of_length_le (by omega)]; simp
theorem partB_length (ys : List Int) (k : Nat) (h : ys.length = 32) (hk : k ≤ 32) : (partB ys k).length = 32 := by unfold partB; rw [List.length_append, List.length_take, List.length_replicate]; omega
theorem partB_set (ys : List Int) (k : Nat) (h : ys.length = 32) (hk : k < 32) : (partB ys k).set k (ys.getD k 0) = partB ys (k + 1) := by
  unfold partB
  have hl : (ys.take k).length = k := by rw [List.length_take]; omega
  rw [List.set_append_right _ _ (by rw [hl]; exact Nat.le_refl _), hl, Nat.sub_self, take_snoc_getD _ _ (by omega), show 32 - k = (32 - (k + 1)) + 1 by omega, List.replicate_succ, List.set_cons_zero, List.append_assoc]
  rfl
theorem psetAt (p : Pt) (k : Nat) (x : Int) : (pcells p).setIfInBounds (4 + k) (.int .u8 x) = pcells ⟨p.place, p.birth, p.len, p.crc, p.sha.set k x⟩ := by
  unfold pcells
  rw [show 4 + k = k + 1 + 1 + 1 + 1 by omega]
  simp [List.map_set]
/-- At a round's head: k bytes of the sum are laid. -/
def RdAt (w : World) (G : Nat) (V0 V1 V2 V3 : Int) (ys : List Int) (i : Value) (wr : World) : Prop :=
  ∃ k : Nat, k ≤ 32 ∧ i = .int .i64 (k : Int) ∧ Row wr G 43 (pcells ⟨V0, V2, V1, V3, partB ys k⟩) ∧ Row wr w.heap.size 43 (pcells Pt.zero) ∧ Below w.heap.size w wr

set_option maxRecDepth 100000 in
set_option maxHeartbeats 4000000 in
theorem refRead_big (b o n c : Nat) (xs : List Int) (w : World) (hn : n = xs.length) (hs : Src .u8 w (some ⟨b, o, none⟩) xs) (hx : IsBytes xs) (h : 52 ≤ n) (hnc : n ≤ c) (hc : c ≤ 9223372036854775807) :
    Calls Try.prog 29 #[.slice (some ⟨b, o, none⟩) n c] w fun e w' => e = .returned (.tuple #[.agg (pcells (readPt xs)), .int .i64 (readErr xs)]) ∧ Below w.heap.size w w' := by
  have hd : decide ((n : Int) < 52) = false := by simp; omega
  have hd2 : decide (n < 52) = false := by simp; omega
  have h52 : (52 : Int) ≤ (c : Int) := by omega
  have hc4 : 4 < c := by omega
  have HX := Lib.hid hx
  have HL := Lib.hid (show 52 ≤ xs.length by omega)
  have HC := Lib.hid (show xs.length ≤ c by omega)
  have HNn := Lib.hid hn
  have HS := Lib.hid hs
  have HM := Lib.hid hc
  clear hn hs h hx hnc hc
  go_enter Try.func29, Try.ntmps29
  go_wp2_with fail
  have q1 := zero_row w
  have b1 := zero_below w
  generalize w.alloc (.cells #[Value.int IntKind.i64 0, Value.int IntKind.i64 0, Value.int IntKind.i64 0, Value.int IntKind.u32 0, Value.int IntKind.u8 0, Value.int IntKind.u8 0, Value.int IntKind.u8 0, Value.int IntKind.u8 0, Value.int IntKind.u8 0, Value.int IntKind.u8 0, Value.int IntKind.u8 0, Value.int IntKind.u8 0, Value.int IntKind.u8 0, Value.int IntKind.u8 0, Value.int IntKind.u8 0, Value.int IntKind.u8 0, Value.int IntKind.u8 0, Value.int IntKind.u8 0, Value.int IntKind.u8 0, Value.int IntKind.u8 0, Value.int IntKind.u8 0, Value.int IntKind.u8 0, Value.int IntKind.u8 0, Value.int IntKind.u8 0, Value.int IntKind.u8 0, Value.int IntKind.u8 0, Value.int IntKind.u8 0, Value.int IntKind.u8 0, Value.int IntKind.u8 0, Value.int IntKind.u8 0, Value.int IntKind.u8 0, Value.int IntKind.u8 0, Value.int IntKind.u8 0, Value.int IntKind.u8 0, Value.int IntKind.u8 0, Value.int IntKind.u8 0] 43) = w1 at *
  refine (takeRef_any (some ⟨b, o, none⟩) 4 c (xs.take 4) 4 _ (by rw [List.length_take]; have := HL.out; omega) ((HS.out.take 4).keep b1) (HX.out.take 4) (by omega) (by omega) (by have := HM.out; omega) (by omega) (by omega)).mono ?_
  rintro e w2 ⟨A1, n1, c1, rfl, hn1, ho1, hb1⟩
  have q2 := q1.keep hb1
  have b2 := b1.trans (hb1.mono b1.size)
  have hV0 : takeNum (xs.take 4) 4 = numAt xs 0 4 := takeNum_full (xs.take 4) 4 (by rw [List.length_take]; have := HL.out; omega) (by omega) (by omega)
  rw [hV0]
  have v0 := numAt_lo xs 0 4
  have u0 := numAt_hi4 xs 0 HX.out
  obtain ⟨V0, hN0⟩ : ∃ V, V = numAt xs 0 4 := ⟨_, rfl⟩
  rw [← hN0] at v0 u0 ⊢
  have HN0 := Lib.hid hN0
  generalize takeOk (xs.take 4).length 4 = T0
  clear hV0 hN0 q1 b1 hb1 hn1 ho1
  go_wp2_with fail
  refine (takeRef_any (some ⟨b, o + 4, none⟩) 4 (c - 4) ((xs.drop 4).take 4) 4 _ (by rw [List.length_take, List.length_drop]; have := HL.out; omega) ((src_cut HS.out 4 4 (by have := HL.out; omega) HC.out).keep b2) ((HX.out.drop _).take _) (by omega) (by omega) (by have := HM.out; omega) (by omega) (by omega)).mono ?_
  rintro e w3 ⟨A2, n2, c2, rfl, hn2, ho2, hb2⟩
  have q3 := q2.keep hb2
  have b3 := b2.trans (hb2.mono b2.size)
  have hV1 : takeNum ((xs.drop 4).take 4) 4 = numAt xs 4 4 := takeNum_full ((xs.drop 4).take 4) 4 (by rw [List.length_take, List.length_drop]; have := HL.out; omega) (by omega) (by omega)
  rw [hV1]
  have v1 := numAt_lo xs 4 4
  have u1 := numAt_hi4 xs 4 HX.out
  obtain ⟨V1, hN1⟩ : ∃ V, V = numAt xs 4 4 := ⟨_, rfl⟩
  rw [← hN1] at v1 u1 ⊢
  have HN1 := Lib.hid hN1
  generalize takeOk ((xs.drop 4).take 4).length 4 = T1
  clear hV1 hN1 q2 b2 hb2 hn2 ho2
  go_wp2_with fail
  refine (takeRef_any (some ⟨b, o + 8, none⟩) 8 (c - 8) ((xs.drop 8).take 8) 8 _ (by rw [List.length_take, List.length_drop]; have := HL.out; omega) ((src_cut HS.out 8 8 (by have := HL.out; omega) HC.out).keep b3) ((HX.out.drop _).take _) (by omega) (by omega) (by have := HM.out; omega) (by omega) (by omega)).mono ?_
  rintro e w4 ⟨A3, n3, c3, rfl, hn3, ho3, hb3⟩
  have q4 := q3.keep hb3
  have b4 := b3.trans (hb3.mono b3.size)
  have hV2 : takeNum ((xs.drop 8).take 8) 8 = numAt xs 8 8 := takeNum_full ((xs.drop 8).take 8) 8 (by rw [List.length_take, List.length_drop]; have := HL.out; omega) (by omega) (by omega)
  rw [hV2]
  have v2 := numAt_lo xs 8 8
  have u2 := numAt_hi8 xs 8 HX.out
  obtain ⟨V2, hN2⟩ : ∃ V, V = numAt xs 8 8 := ⟨_, rfl⟩
  rw [← hN2] at v2 u2 ⊢
  have HN2 := Lib.hid hN2
  generalize takeOk ((xs.drop 8).take 8).length 8 = T2
  clear hV2 hN2 q3 b3 hb3 hn3 ho3
  go_wp2_with fail
  refine (takeRef_any (some ⟨b, o + 16, none⟩) 4 (c - 16) ((xs.drop 16).take 4) 4 _ (by rw [List.length_take, List.length_drop]; have := HL.out; omega) ((src_cut HS.out 16 4 (by have := HL.out; omega) HC.out).keep b4) ((HX.out.drop _).take _) (by omega) (by omega) (by have := HM.out; omega) (by omega) (by omega)).mono ?_
  rintro e w5 ⟨A4, n4, c4, rfl, hn4, ho4, hb4⟩
  have q5 := q4.keep hb4
  have b5 := b4.trans (hb4.mono b4.size)
  have hV3 : takeNum ((xs.drop 16).take 4) 4 = numAt xs 16 4 := takeNum_full ((xs.drop 16).take 4) 4 (by rw [List.length_take, List.length_drop]; have := HL.out; omega) (by omega) (by omega)
  rw [hV3]
  have v3 := numAt_lo xs 16 4
  have u3 := numAt_hi4 xs 16 HX.out
  obtain ⟨V3, hN3⟩ : ∃ V, V = numAt xs 16 4 := ⟨_, rfl⟩
  rw [← hN3] at v3 u3 ⊢
  have HN3 := Lib.hid hN3
  generalize takeOk ((xs.drop 16).take 4).length 4 = T3
  clear hV3 hN3 q4 b4 hb4 hn4 ho4
  clear v2 u2
  have uu2 : IntKind.i64.wrap V2 = i64w V2 := by rw [IntKind.wrap_i64]; rfl
  have HB := Lib.hid (built_pt V0 V1 (i64w V2) V3)
  have g1 := zero_row w5
  have bz := b5.trans ((zero_below w5).mono b5.size)
  have qz := q5.keep (zero_below w5)
  have hGP := q5.lt
  obtain ⟨ps, hps⟩ : ∃ ps, ps = pcells ⟨V0, i64w V2, V1, V3, List.replicate 32 0⟩ := ⟨_, rfl⟩
  rw [← hps] at HB
  have HSz : Hid ((Try.prog.info? 43).map (·.size) = some ps.size) := Lib.hid (by rw [hps]; exact pt_size rfl)
  have HS2 : Hid ((pcells Pt.zero).size = ps.size) := Lib.hid (by rw [hps, pcells_size, pcells_size]; rfl)
  have HS1 : Hid (ps.all (·.oneCell') = true) := Lib.hid (by rw [hps]; exact pcells_one _)
  have HPS := Lib.hid hps
  clear hps q5 b5
  go_wp2_with (first
    | (refine wpList_build_eq rfl 43 #[(0, .tmp 51), (2, .tmp 53), (1, .tmp 55), (3, .tmp 57)] rfl [(0, .int .i64 V0), (2, .int .i64 V1), (1, .int .i64 (i64w V2)), (3, .int .u32 V3)] (by simp; exact ⟨rfl, rfl, rfl, rfl⟩) ps HB.out ?_)
    | (refine wpList_store_row rfl 43 (.tmp 16) (.tmp 58) rfl w5.heap.size ps rfl rfl 43 (pcells Pt.zero) g1 HSz.out HS2.out HS1.out ?_))
  have g2 := (g1.setRow ps).cast HPS.out
  have p2 := qz.otherRow (b := w5.heap.size) (by omega) ps
  have b6 := below_setRow bz (b := w5.heap.size) (by omega) ps
  have HYL := Lib.hid (show ((xs.drop 20).take 32).length = 32 by rw [List.length_take, List.length_drop]; have := HL.out; omega)
  have HSb : Hid (∀ k, k < 32 → ∀ wr, Below w.heap.size w wr → wr.cell? ⟨b, o + (20 + k), none⟩ = some (.int .u8 (((xs.drop 20).take 32).getD k 0))) := Lib.hid (fun k hk wr hb => by
    obtain ⟨b', o', he, hbl, hcell⟩ := HS.out (by have := HL.out; omega)
    injection he with he
    injection he with hb' ho' _
    subst hb'; subst ho'
    rw [List.getD_eq_getElem?_getD, List.getElem?_take, if_pos hk, List.getElem?_drop, ← List.getD_eq_getElem?_getD]
    exact (hb.cell (p := ⟨b, o + (20 + k), none⟩) hbl).trans (hcell (20 + k) (by have := HL.out; omega)))
  clear g1 bz qz HB HSz HS2 HS1 HPS
  go_loopw [17] (fun i wr => RdAt w w5.heap.size V0 V1 (i64w V2) V3 ((xs.drop 20).take 32) i wr) (fun i _ => 32 - (intOf i).toNat)
  case atStart => exact ⟨0, by omega, rfl, by rw [partB_none]; exact g2, p2, b6⟩
  case round =>
    clear g2 p2 b6
    obtain ⟨k, hk, rfl, rg, rp, hb⟩ := hrel
    by_cases hlt : k < 32
    · have hc := HSb.out k hlt wr hb
      have hin0 : (0 : Int) ≤ 20 + (k : Int) := by omega
      have hin : (20 : Int) + (k : Int) < (n : Int) := by have := HNn.out; have := HL.out; omega
      have cg : wr.cell? ⟨w5.heap.size, 4 + k, none⟩ = some (.int .u8 ((partB ((xs.drop 20).take 32) k).getD k 0)) := rg.cell (pcells_sha ⟨V0, i64w V2, V1, V3, partB ((xs.drop 20).take 32) k⟩ k (by show k < (partB ((xs.drop 20).take 32) k).length; rw [partB_length _ _ HYL.out hk]; exact hlt))
      have fg := rg.free (4 + k)
      have HB2 := Lib.hid (partB_set ((xs.drop 20).take 32) k HYL.out hlt)
      have HPL := Lib.hid (partB_length ((xs.drop 20).take 32) k HYL.out hk)
      generalize ((xs.drop 20).take 32).getD k 0 = x at *
      go_wp2_with fail
      refine ⟨⟨k + 1, by omega, by go_num, ?_, rp.other (by omega) _ _, hb.setCell (p := ⟨w5.heap.size, 4 + k, none⟩) (Nat.le_of_lt hGP) _⟩, by simp [intOf]; omega⟩
      have := rg.set (4 + k) (.int .u8 x)
      rw [psetAt] at this
      rw [← HB2.out]
      exact this
    · obtain rfl : k = 32 := by omega
      have HRAW := Lib.hid (show (⟨V0, i64w V2, V1, V3, partB ((xs.drop 20).take 32) 32⟩ : Pt) = rawP xs by rw [partB_all _ HYL.out, HN0.out, HN1.out, HN2.out, HN3.out]; rfl)
      have q8 := rg.cast (congrArg pcells HRAW.out)
      have HOK := Lib.hid (rawP_ok xs HX.out HL.out)
      have HPS := Lib.hid (pt_size (rawP_sha xs HL.out))
      have HP1 := Lib.hid (pcells_one (rawP xs))
      have HRE := Lib.hid (show readErr xs = if readOk xs = true then 0 else 11 by unfold readErr; rw [if_neg (by have := HL.out; omega)])
      have HRP := Lib.hid (show readPt xs = if readOk xs = true then rawP xs else Pt.zero by unfold readPt; rw [if_neg (by have := HL.out; omega)])
      have HRO := Lib.hid (show readOk xs = ((rawP xs).none || (rawP xs).right) from rfl)
      obtain ⟨zs, hzs⟩ : ∃ zs, zs = pcells Pt.zero := ⟨_, rfl⟩
      have Hz : Hid (Try.prog.built 43 [] = some zs) := Lib.hid (by rw [hzs]; exact zero_built)
      have Hzs : Hid ((Try.prog.info? 43).map (·.size) = some zs.size) := Lib.hid (by rw [hzs]; exact pt_size rfl)
      have Hz1 : Hid (zs.all (·.oneCell') = true) := Lib.hid (by rw [hzs]; exact pcells_one Pt.zero)
      have z8 := rp.cast hzs.symm
      have HZS := Lib.hid hzs
      have HSZ : Hid (zs.size = (pcells (rawP xs)).size) := Lib.hid (Option.some.inj (Hzs.out.symm.trans HPS.out))
      clear hzs rg rp HRAW HSb HYL HN0 HN1 HN2 HN3 HX
      generalize rawP xs = rq at *
      go_wp2_with (refine wpList_load_cells rfl 43 (.tmp 16) rfl w5.heap.size 0 rfl (pcells rq) _ q8.cells Try.underlying43 rfl HPS.out ?_)
      refine (refNone_any rq _ HOK.out).mono ?_
      rintro e w8 ⟨rfl, hb8⟩
      have q9 := q8.keep hb8
      have z9 := z8.keep hb8
      have b8 := hb.trans (hb8.mono hb.size)
      clear q8 z8 hb hb8
      cases hN : rq.none with
      | true =>
        have HK := Lib.hid (show readOk xs = true by rw [HRO.out, hN]; rfl)
        have HE := Lib.hid (show readErr xs = 0 by rw [HRE.out, if_pos HK.out])
        have HQ := Lib.hid (show readPt xs = rq by rw [HRP.out, if_pos HK.out])
        clear hN
        go_wp2_with (first
          | (refine wpList_load_cells rfl 43 (.tmp 16) rfl w5.heap.size 0 rfl (pcells rq) _ q9.cells Try.underlying43 rfl HPS.out ?_)
          | (refine wpList_store_row rfl 43 (.tmp 2) (.tmp 80) rfl w.heap.size (pcells rq) rfl rfl 43 zs z9 HPS.out HSZ.out HP1.out ?_))
        refine bodyPost_ret (v := .tuple #[.agg (pcells rq), .int .i64 0]) ?_ rfl ?_
        · exact results_cell_tmp_row Try.resultsRefRead _ _ w.heap.size 43 (pcells rq) (0, 0) _ rfl (z9.setRow _) Try.underlying43 rfl HPS.out
        · exact ⟨by rw [HE.out, HQ.out], below_setRow b8 (Nat.le_refl _) _⟩
      | false =>
        cases hR : rq.right with
        | true =>
          have HK := Lib.hid (show readOk xs = true by rw [HRO.out, hN, hR]; rfl)
          have HE := Lib.hid (show readErr xs = 0 by rw [HRE.out, if_pos HK.out])
          have HQ := Lib.hid (show readPt xs = rq by rw [HRP.out, if_pos HK.out])
          have HRt := Lib.hid hR
          clear hN hR
          go_wp2_with (refine wpList_load_cells_w rfl 43 (.tmp 16) rfl w5.heap.size 0 rfl (pcells rq) _ q9.cells Try.underlying43 rfl HPS.out ?_)
          refine (refRight_any rq _ HOK.out).mono ?_
          rintro e w10 ⟨rfl, hb10⟩
          rw [HRt.out]
          have q10 := q9.keep hb10
          have z10 := z9.keep hb10
          have b10 := b8.trans (hb10.mono b8.size)
          clear q9 z9 b8 hb10
          go_wp2_with (first
            | (refine wpList_load_cells rfl 43 (.tmp 16) rfl w5.heap.size 0 rfl (pcells rq) _ q10.cells Try.underlying43 rfl HPS.out ?_)
            | (refine wpList_store_row rfl 43 (.tmp 2) (.tmp 80) rfl w.heap.size (pcells rq) rfl rfl 43 zs z10 HPS.out HSZ.out HP1.out ?_))
          refine bodyPost_ret (v := .tuple #[.agg (pcells rq), .int .i64 0]) ?_ rfl ?_
          · exact results_cell_tmp_row Try.resultsRefRead _ _ w.heap.size 43 (pcells rq) (0, 0) _ rfl (z10.setRow _) Try.underlying43 rfl HPS.out
          · exact ⟨by rw [HE.out, HQ.out], below_setRow b10 (Nat.le_refl _) _⟩
        | false =>
          have HK := Lib.hid (show ¬ readOk xs = true by rw [HRO.out, hN, hR]; decide)
          have HE := Lib.hid (show readErr xs = 11 by rw [HRE.out, if_neg HK.out])
          have HQ := Lib.hid (show readPt xs = Pt.zero by rw [HRP.out, if_neg HK.out])
          have HRt := Lib.hid hR
          clear hN hR
          go_wp2_with (refine wpList_load_cells_w rfl 43 (.tmp 16) rfl w5.heap.size 0 rfl (pcells rq) _ q9.cells Try.underlying43 rfl HPS.out ?_)
          refine (refRight_any rq _ HOK.out).mono ?_
          rintro e w10 ⟨rfl, hb10⟩
          rw [HRt.out]
          have z10 := z9.keep hb10
          have b10 := b8.trans (hb10.mono b8.size)
          clear q9 z9 b8 hb10
          go_wp2_with (first
            | (refine wpList_build_eq rfl 43 #[] rfl [] (by simp) zs Hz.out ?_)
            | (refine wpList_store_row rfl 43 (.tmp 2) (.tmp 79) rfl w.heap.size zs rfl rfl 43 zs z10 Hzs.out rfl Hz1.out ?_))
          refine bodyPost_ret (v := .tuple #[.agg zs, .int .i64 11]) ?_ rfl ?_
          · exact results_cell_tmp_row Try.resultsRefRead _ _ w.heap.size 43 zs (0, 0) _ rfl (z10.setRow _) Try.underlying43 rfl Hzs.out
          · exact ⟨by rw [HE.out, HQ.out, HZS.out], below_setRow b10 (Nat.le_refl _) _⟩
theorem refRead_any (A : Option Addr) (n c : Nat) (xs : List Int) (w : World) (hn : n = xs.length) (hs : Src .u8 w A xs) (hx : IsBytes xs) (hnc : n ≤ c) (hc : c ≤ 9223372036854775807) :
    Calls Try.prog 29 #[.slice A n c] w fun e w' => e = .returned (.tuple #[.agg (pcells (readPt xs)), .int .i64 (readErr xs)]) ∧ Below w.heap.size w w' := by
  by_cases h : n < 52
  · exact refRead_small A n c xs w hn h
  · obtain ⟨b, o, rfl, _, _⟩ := hs (by omega)
    exact refRead_big b o n c xs w hn hs hx (by omega) hnc hc
end Go.Proofs.Ytnoofmdhhlcbkaa

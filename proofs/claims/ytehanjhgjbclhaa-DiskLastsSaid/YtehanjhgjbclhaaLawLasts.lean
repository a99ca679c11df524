/- DiskLasts, for any arguments: true; nothing that was there is written. -/
import Derived.Test.YtehanjhgjbclhaaLastsNums
namespace Go.Proofs.Ytehanjhgjbclhaa
open Go.RowKit Go.Maps

set_option maxHeartbeats 8000000 in
set_option maxRecDepth 100000 in
theorem lasts_any (A0 A1 : Option Addr) (len0 cap0 K q : Nat) (xs keep : List Int) (x : Int) (w : World) (hl0 : xs.length = len0 * 2) (hs0 : Src .u8 w A0 xs) (hm0 : len0 ≤ maxLen) (hK : K = keep.length) (hKm : K ≤ maxLen) (hs1 : Src .i64 w A1 keep) :
    Calls Try.prog 4 #[.slice A0 len0 cap0, .slice A1 K q, .int .i64 x] w fun e w' => e = .returned (.bool true) ∧ Below w.heap.size w w' := by
  have hn16 := new_any w 16 (by decide) (by decide)
  rw [show ((16 : Nat) : Int) = 16 from rfl] at hn16
  obtain ⟨n, hn⟩ : ∃ n : Nat, min len0 16 = n := ⟨_, rfl⟩
  have en : min (len0 : Int) 16 = (n : Int) := by omega
  have n16 : (n : Int) ≤ 16 := by omega
  obtain ⟨F, hF, e1, e2, e3, e4⟩ := flushed_any x n (by omega)
  generalize hy : x.tmod ((n : Int) + 1) = y at *
  have Hl0 := Lib.hid hl0
  have Hs0 := Lib.hid hs0
  have Hm0 := Lib.hid hm0
  have HK := Lib.hid hK
  have HKm := Lib.hid hKm
  have Hs1 := Lib.hid hs1
  have Hn := Lib.hid hn
  have HF := Lib.hid hF
  clear hl0 hs0 hm0 hK hKm hs1 hn hF
  go_enter Try.func4, Try.ntmps4
  go_wp2_with fail
  refine hn16.mono ?_
  rintro e w1 ⟨p, B, M, rfl, hb1, hd⟩
  have Hd := Lib.hid hd
  have Hb := Lib.hid hb1
  clear hn16 hd hb1
  go_wp2_with fail
  have start : LastsAt w xs n F p B M (.int .i64 0) w1 := ⟨0, 0, _, _, Nat.zero_le _, rfl, Nat.le_refl _, .inl ⟨Nat.zero_le _, ent_none 0 _, rfl⟩, Hd.out, Hb.out⟩
  clear Hd Hb e1 e2 e3 e4 hy
  go_loopw [10] (fun iv wr => LastsAt w xs n F p B M iv wr) (fun iv _ => n - (intOf iv).toNat)
  case atStart => exact start
  case round =>
    clear start
    obtain ⟨i, k, ls, D, hi, rfl, hk, hh, hD, hb⟩ := hrel
    by_cases hlt : i < n
    · have gi : (i : Int) < n := by omega
      have hil : i < len0 := by have := Hn.out; omega
      have gl : (i : Int) < len0 := by omega
      obtain ⟨b0, o0, rfl, hb0, hc0⟩ := Hs0.out (by rw [Hl0.out]; omega)
      have ca : wr.cell? ⟨b0, o0 + i * 2, none⟩ = some (.int .u8 (xs.getD (i * 2) 0)) := (hb.cell (p := ⟨b0, o0 + i * 2, none⟩) hb0).trans (hc0 (i * 2) (by rw [Hl0.out]; omega))
      have cb : wr.cell? ⟨b0, o0 + i * 2 + 1, none⟩ = some (.int .u8 (xs.getD (i * 2 + 1) 0)) := (hb.cell (p := ⟨b0, o0 + i * 2 + 1, none⟩) hb0).trans (by have := hc0 (i * 2 + 1) (by rw [Hl0.out]; omega); rw [← Nat.add_assoc] at this; exact this)
      have Hsf := Lib.hid (show padS [xs.getD (i * 2) 0, xs.getD (i * 2 + 1) 0] = sfI xs i from rfl)
      generalize xs.getD (i * 2) 0 = x0 at *
      generalize xs.getD (i * 2 + 1) 0 = x1 at *
      have Hk := Lib.hid hk
      have Hh := Lib.hid hh
      have HD := Lib.hid hD
      have Hb := Lib.hid hb
      have Hlt := Lib.hid hlt
      have Hca := Lib.hid ca
      have Hcb := Lib.hid cb
      have h16 := Lib.hid (show i < 16 by omega)
      have hwb := Lib.hid hb0
      clear hk hh hD hb hlt hil hc0 hi ca cb hb0
      by_cases hF : i = F
      · subst hF
        have ca := Hca.out
        have cb := Hcb.out
        have gF : ((i : Int) == (i : Int)) = true := by simp
        go_wp2_with fail
        refine (flush_done HD.out (Int.le_refl 0) (by decide) rfl).mono ?_
        rintro e w3 ⟨rfl, hb3, hd3⟩
        have HD3 := Lib.hid hd3
        have HB3 := Lib.hid (Hb.out.trans hb3)
        have ca3 : w3.cell? ⟨b0, o0 + i * 2, none⟩ = some (.int .u8 x0) := (hb3.cell (p := ⟨b0, o0 + i * 2, none⟩) hwb.out).trans ca
        have cb3 : w3.cell? ⟨b0, o0 + i * 2 + 1, none⟩ = some (.int .u8 x1) := (hb3.cell (p := ⟨b0, o0 + i * 2 + 1, none⟩) hwb.out).trans cb
        clear ca cb hd3 hb3
        have ca := ca3
        have cb := cb3
        clear ca3 cb3
        have Hdw := Lib.hid HD3.out
        have Hbw := Lib.hid HB3.out
        have hwb2 : b0 < (w3).heap.size := by have := hwb.out; have := HB3.out.size; omega
        have da : ∀ g' : Above (w3).drew, g'.1.cell? ⟨b0, o0 + i * 2, none⟩ = some (.int .u8 x0) := fun g' => (g'.2.cell (p := ⟨b0, o0 + i * 2, none⟩) hwb2).trans ca
        have db : ∀ g' : Above (w3).drew, g'.1.cell? ⟨b0, o0 + i * 2 + 1, none⟩ = some (.int .u8 x1) := fun g' => (g'.2.cell (p := ⟨b0, o0 + i * 2 + 1, none⟩) hwb2).trans cb
        go_wp2_with fail
        refine wp_region_segsU 13 [([0, 1, 2, 3, 4, 5, 6, 7, 8, 9, 10, 11], 12)] [] [13, 14] (by kernel_rfl) (by kernel_rfl) ⟨by kernel_rfl, by decide⟩ (by kernel_rfl) (by kernel_rfl) (fun _ _ d _ _ h => by cases d <;> exact h) ?_
        refine wpSegsU_next (by simp [pickOps]; rfl) ?_
        repeat (go_big_quiet_step (fail))
        refine wpQuiet_nil ?_
        refine wpOp_alone rfl rfl (fun K' hK' => ?_)
        go_simp
        refine hK' _ _ ⟨(Below.refl _ _).alloc (Nat.le_refl _) _, ?_⟩
        clear hK' K'
        refine wpSegsU_last (by simp [pickOps]; rfl) ?_
        refine wpQuiet_nil ?_
        have hba := (Below.refl (w3).heap.size (w3)).alloc (Nat.le_refl _) (.cells #[Value.int IntKind.u8 x0, Value.int IntKind.u8 x1] 5)
        have hda := Lib.hid ((Hdw.out.keep hba).keep (Below.refl _ _).drew)
        have hsa := Lib.hid ((src_two (w3) x0 x1).keep (Below.refl _ _).drew)
        have hbb := Lib.hid ((Hbw.out.trans (hba.mono Hbw.out.size)).drew)
        clear hba da db ca cb
        unfold wpTail
        refine wpOp_alone rfl rfl (fun K' hK' => ?_)
        go_simp
        refine (write_done hda.out (Int.le_refl 0) (by decide) i ⟨by omega, by have := h16.out; omega⟩ _ 2 2 [x0, x1] rfl hsa.out (by simp) rfl (by have := Hk.out; have := h16.out; omega)).mono ?_
        rintro e w4 ⟨rfl, hb4, hd4⟩
        refine hK' _ _ ?_
        clear hK' K'
        rw [Hsf.out] at hd4
        have Hd4 := Lib.hid hd4
        have Hb4 := Lib.hid (hbb.out.trans hb4)
        clear hd4 hb4
        refine wpOp_alone rfl rfl (fun K' hK' => ?_)
        go_simp
        refine hK' _ _ ?_
        clear hK' K'
        unfold wpTail
        go_wp2_with fail
        go_roundw
        case rel => exact ⟨i + 1, _, _, _, by have := Hlt.out; omega, by go_num, by have := Hk.out; omega, head_next (mid_flush Hh.out (Nat.le_of_lt h16.out)), Hd4.out, Hb4.out⟩
        case measure => have := Hlt.out; simp [intOf]; omega
      · have gF : ((i : Int) == F) = false := by simp; omega
        have gF2 : ¬ ((i : Int) = F) := by omega
        have gF3 := Lib.hid hF
        have ca := Hca.out
        have cb := Hcb.out
        clear hF
        have Hdw := Lib.hid HD.out
        have Hbw := Lib.hid Hb.out
        have hwb2 : b0 < (wr).heap.size := by have := hwb.out; have := Hb.out.size; omega
        have da : ∀ g' : Above (wr).drew, g'.1.cell? ⟨b0, o0 + i * 2, none⟩ = some (.int .u8 x0) := fun g' => (g'.2.cell (p := ⟨b0, o0 + i * 2, none⟩) hwb2).trans ca
        have db : ∀ g' : Above (wr).drew, g'.1.cell? ⟨b0, o0 + i * 2 + 1, none⟩ = some (.int .u8 x1) := fun g' => (g'.2.cell (p := ⟨b0, o0 + i * 2 + 1, none⟩) hwb2).trans cb
        go_wp2_with fail
        refine wp_region_segsU 13 [([0, 1, 2, 3, 4, 5, 6, 7, 8, 9, 10, 11], 12)] [] [13, 14] (by kernel_rfl) (by kernel_rfl) ⟨by kernel_rfl, by decide⟩ (by kernel_rfl) (by kernel_rfl) (fun _ _ d _ _ h => by cases d <;> exact h) ?_
        refine wpSegsU_next (by simp [pickOps]; rfl) ?_
        repeat (go_big_quiet_step (fail))
        refine wpQuiet_nil ?_
        refine wpOp_alone rfl rfl (fun K' hK' => ?_)
        go_simp
        refine hK' _ _ ⟨(Below.refl _ _).alloc (Nat.le_refl _) _, ?_⟩
        clear hK' K'
        refine wpSegsU_last (by simp [pickOps]; rfl) ?_
        refine wpQuiet_nil ?_
        have hba := (Below.refl (wr).heap.size (wr)).alloc (Nat.le_refl _) (.cells #[Value.int IntKind.u8 x0, Value.int IntKind.u8 x1] 5)
        have hda := Lib.hid ((Hdw.out.keep hba).keep (Below.refl _ _).drew)
        have hsa := Lib.hid ((src_two (wr) x0 x1).keep (Below.refl _ _).drew)
        have hbb := Lib.hid ((Hbw.out.trans (hba.mono Hbw.out.size)).drew)
        clear hba da db ca cb
        unfold wpTail
        refine wpOp_alone rfl rfl (fun K' hK' => ?_)
        go_simp
        refine (write_done hda.out (Int.le_refl 0) (by decide) i ⟨by omega, by have := h16.out; omega⟩ _ 2 2 [x0, x1] rfl hsa.out (by simp) rfl (by have := Hk.out; have := h16.out; omega)).mono ?_
        rintro e w4 ⟨rfl, hb4, hd4⟩
        refine hK' _ _ ?_
        clear hK' K'
        rw [Hsf.out] at hd4
        have Hd4 := Lib.hid hd4
        have Hb4 := Lib.hid (hbb.out.trans hb4)
        clear hd4 hb4
        refine wpOp_alone rfl rfl (fun K' hK' => ?_)
        go_simp
        refine hK' _ _ ?_
        clear hK' K'
        unfold wpTail
        go_wp2_with fail
        go_roundw
        case rel => exact ⟨i + 1, _, _, _, by have := Hlt.out; omega, by go_num, by have := Hk.out; omega, head_next (mid_none Hh.out gF3.out), Hd4.out, Hb4.out⟩
        case measure => have := Hlt.out; simp [intOf]; omega
    · obtain rfl : n = i := by omega
      have hn16' : n ≤ 16 := by omega
      have Hk := Lib.hid hk
      have Hh := Lib.hid hh
      have HD := Lib.hid hD
      have Hb := Lib.hid hb
      clear hk hh hD hb hi hlt
      by_cases hFn : F = n
      · have gF : ((F : Int) == (n : Int)) = true := by simp [hFn]
        have Hmid : Hid (MidI xs F n (.map []) (flushS D ls)) := Lib.hid (by have h1 := Hh.out; rw [← hFn] at h1 ⊢; exact mid_flush h1 (by omega))
        clear hFn
        go_wp2_with fail
        refine (flush_done HD.out (Int.le_refl 0) (by decide) rfl).mono ?_
        rintro e w3 ⟨rfl, hb3, hd3⟩
        have HD3 := Lib.hid hd3
        have HB3 := Lib.hid (Hb.out.trans hb3)
        clear hd3 hb3
        obtain ⟨hE, hL⟩ := mid_end Hmid.out HF.out
        have hW := hE.waits HD3.out.waits
        have HE := Lib.hid hE
        have HLs := Lib.hid hL
        have HW := Lib.hid hW
        have hll : (flushS D ls).length = 16 := hL.1
        have hkept := hE.kept hW (flushS D ls) (by rw [hll]; have := HF.out; omega) keep (min K (n - F)) (by omega)
        have hwl : (waitsI (.map [])).length = n - F := by rw [hW, List.length_map, List.length_range]
        have hbytes := Lib.hid (fun (i k : Nat) (hk : k < 3) => found_at (K := K) hL HF.out hkept i k hk)
        clear hE hL hW hkept
        go_wp2_with fail
        refine (crash_any HD3.out (by have := Hk.out; have := hn16'; omega) A1 K q keep HK.out HKm.out (Hs1.out.keep HB3.out)).mono ?_
        rintro e w6 ⟨p', B', M', c', rfl, hb6, hd6⟩
        rw [hwl] at hd6
        have Hdd := Lib.hid (HD3.out.keep hb6)
        have Hb6 := Lib.hid (HB3.out.trans (hb6.mono HB3.out.size))
        have Hsz := Lib.hid hb6.size
        generalize keptS (.map []) (flushS D ls) (waitsI (.map [])) keep (min K (n - F)) = L at *
        have Hd6 := Lib.hid hd6
        clear hd6 hb6 hwl hll
        go_wp2_with fail
        refine (disk_waiting Hd6.out).mono ?_
        rintro e w7 ⟨rfl, hw7⟩
        rw [show ((Maps.size (DataW.map [] : DataW Unit) : Nat) : Int) = 0 from rfl]
        subst hw7
        obtain ⟨m, hm⟩ : ∃ m : Nat, n - F = m := ⟨_, rfl⟩
        have em : (n : Int) - (F : Int) = (m : Int) := by have := HF.out; omega
        have em2 : (m : Int) ≤ 16 := by omega
        go_wp2_with fail
        refine (disk_waiting Hdd.out).mono ?_
        rintro e w8 ⟨rfl, hw8⟩
        rw [HE.out.size_, hm]
        subst hw8
        clear hm
        go_wp2_with fail
        go_loopw [12] (fun iv wv => FoundAt w w3.heap.size p' B' M' c' L iv wv) (fun iv _ => 16 - (intOf iv).toNat)
        case atStart => exact ⟨0, by omega, rfl, Hd6.out, Hb6.out⟩
        case round =>
          clear Hdd
          obtain ⟨t, ht, rfl, hd, hb⟩ := hrel
          by_cases hlt : t < 16
          · have gt : (t : Int) < 16 := by omega
            go_wp2_with fail
            refine (read_any hd t hlt).mono ?_
            rintro e w9 ⟨g, rfl, hg, hb9, hrow, hlen⟩
            rw [flush_none] at hrow hlen
            have z0 := hbytes.out t 0 (by decide)
            have z1 := hbytes.out t 1 (by decide)
            have z2 := hbytes.out t 2 (by decide)
            rw [if_pos (by decide)] at z0 z1
            rw [if_neg (by decide)] at z2
            have v0 : w9.cell? ⟨g, 0, none⟩ = some (.int .u8 (wantI xs keep n F K t 0)) := by rw [← z0]; exact hrow.cell (bcells_at _ 0 (by omega))
            have v1 : w9.cell? ⟨g, 1, none⟩ = some (.int .u8 (wantI xs keep n F K t 1)) := by rw [← z1]; exact hrow.cell (bcells_at _ 1 (by omega))
            have v2 : w9.cell? ⟨g, 2, none⟩ = some (.int .u8 0) := by rw [← z2]; exact hrow.cell (bcells_at _ 2 (by omega))
            have Hg9 := Lib.hid hrow.lt
            have Hd9 := Lib.hid (hd.keep hb9)
            have Hb9 := Lib.hid (hb.trans (hb9.mono hb.size))
            have V0 := Lib.hid v0
            have V1 := Lib.hid v1
            have V2 := Lib.hid v2
            have Ht := Lib.hid hlt
            clear hd hb hb9 hrow hlen z0 z1 z2 v0 v1 v2 hg ht hlt
            have hrow10 : Row (w9.alloc (.cells #[.int .u8 0, .int .u8 0] 42)) w9.heap.size 42 #[.int .u8 0, .int .u8 0] := Row.new _ _ _
            have hb10 : Below w9.heap.size w9 (w9.alloc (.cells #[.int .u8 0, .int .u8 0] 42)) := (Below.refl _ _).alloc (Nat.le_refl _) _
            have R10 := Lib.hid hrow10
            have B10 := Lib.hid hb10
            clear hrow10 hb10
            by_cases hc1 : t < F
            · have gc : (t : Int) < F := by omega
              have htl : t < len0 := by have := Hn.out; have := HF.out; omega
              have gl : (t : Int) < len0 := by omega
              obtain ⟨b0, o0, rfl, hb0, hc0⟩ := Hs0.out (by rw [Hl0.out]; omega)
              have e0 : wantI xs keep n F K t 0 = xs.getD (t * 2) 0 := by unfold wantI; rw [if_pos hc1]; rfl
              have e1 : wantI xs keep n F K t 1 = xs.getD (t * 2 + 1) 0 := by unfold wantI; rw [if_pos hc1]
              have hcs : Cells (w9.alloc (.cells #[.int .u8 0, .int .u8 0] 42)) b0 (o0 + t * 2) #[.int .u8 (xs.getD (t * 2) 0), .int .u8 (xs.getD (t * 2 + 1) 0)] := pair_cells ((Hs0.out.keep Hb9.out).keep B10.out) (by rw [Hl0.out]; omega)
              have Hcs := Lib.hid hcs
              rw [e0] at V0
              rw [e1] at V1
              generalize xs.getD (t * 2) 0 = x0 at *
              generalize xs.getD (t * 2 + 1) 0 = x1 at *
              clear hcs hc0 hb0 htl hc1 e0 e1
              go_wp2_with (first
                | (refine wpList_load_cells rfl 42 (.tmp 120) rfl b0 (o0 + t * 2) rfl #[.int .u8 x0, .int .u8 x1] _ Hcs.out Try.underlying42 rfl Try.size42 ?_)
                | (refine wpList_store42 rfl (.tmp 15) (.tmp 121) rfl w9.heap.size rfl x0 x1 rfl 0 0 R10.out ?_; intro w11 r11 hb11; have R11 := Lib.hid r11; have B11 := Lib.hid (B10.out.trans hb11); clear r11 hb11))
              have u0 : w11.cell? ⟨g, 0, none⟩ = some (.int .u8 x0) := (B11.out.cell (p := ⟨g, 0, none⟩) Hg9.out).trans V0.out
              have u1 : w11.cell? ⟨g, 1, none⟩ = some (.int .u8 x1) := (B11.out.cell (p := ⟨g, 1, none⟩) Hg9.out).trans V1.out
              have u2 : w11.cell? ⟨g, 2, none⟩ = some (.int .u8 0) := (B11.out.cell (p := ⟨g, 2, none⟩) Hg9.out).trans V2.out
              have r0 : w11.cell? ⟨w9.heap.size, 0, none⟩ = some (.int .u8 x0) := R11.out.cell rfl
              have r1 : w11.cell? ⟨w9.heap.size, 1, none⟩ = some (.int .u8 x1) := R11.out.cell rfl
              have Hd11 := Lib.hid (Hd9.out.keep B11.out)
              have Hb11 := Lib.hid (Hb9.out.trans (B11.out.mono Hb9.out.size))
              clear R10 B10 R11 B11 Hcs V0 V1 V2 Hd9 Hb9 Hg9
              generalize w9.heap.size = hh at *
              go_quiet (fail)
              go_wp2_with fail
              exact ⟨⟨t + 1, by have := Ht.out; omega, by go_num, Hd11.out.keep (below_drewN (Below.refl _ _) _), below_drewN Hb11.out _⟩, by have := Ht.out; simp [intOf]; omega⟩
            · have gc : ¬ ((t : Int) < F) := by omega
              by_cases hc2 : t < n ∧ t - F < K
              · have gt2 : (t : Int) < n := by omega
                obtain ⟨d, hd⟩ : ∃ d : Nat, t - F = d := ⟨_, rfl⟩
                have ed : (t : Int) - F = (d : Int) := by omega
                have gd : (d : Int) < K := by omega
                have htl : t < len0 := by have := Hn.out; omega
                have gl : (t : Int) < len0 := by omega
                have hdk : d < keep.length := by have := HK.out; omega
                obtain ⟨b0, o0, rfl, hb0, hc0⟩ := Hs0.out (by rw [Hl0.out]; omega)
                obtain ⟨b1, o1, rfl, hb1, hk1⟩ := Hs1.out (by omega)
                have hw9 := Hb9.out.size
                have b09 : b0 < w9.heap.size := by omega
                have b19 : b1 < w9.heap.size := by omega
                have s0 : w9.cell? ⟨b0, o0 + t * 2, none⟩ = some (.int .u8 (xs.getD (t * 2) 0)) := (Hb9.out.cell (p := ⟨b0, o0 + t * 2, none⟩) hb0).trans (hc0 (t * 2) (by rw [Hl0.out]; omega))
                have s1 : w9.cell? ⟨b0, o0 + t * 2 + 1, none⟩ = some (.int .u8 (xs.getD (t * 2 + 1) 0)) := (Hb9.out.cell (p := ⟨b0, o0 + t * 2 + 1, none⟩) hb0).trans (by have := hc0 (t * 2 + 1) (by rw [Hl0.out]; omega); rw [← Nat.add_assoc] at this; exact this)
                have s2 : w9.cell? ⟨b1, o1 + d, none⟩ = some (.int .i64 (keep.getD d 0)) := (Hb9.out.cell (p := ⟨b1, o1 + d, none⟩) hb1).trans (hk1 d hdk)
                have e0 : wantI xs keep n F K t 0 = if 0 < keep.getD d 0 then xs.getD (t * 2) 0 else 0 := by unfold wantI; rw [if_neg hc1, if_pos hc2, hd]; rfl
                have e1 : wantI xs keep n F K t 1 = if 1 < keep.getD d 0 then xs.getD (t * 2 + 1) 0 else 0 := by unfold wantI; rw [if_neg hc1, if_pos hc2, hd]; rfl
                rw [e0] at V0
                rw [e1] at V1
                generalize xs.getD (t * 2) 0 = x0 at *
                generalize xs.getD (t * 2 + 1) 0 = x1 at *
                generalize keep.getD d 0 = yk at *
                have S0 : Hid ((w9.alloc (.cells #[.int .u8 0, .int .u8 0] 42)).cell? ⟨b0, o0 + t * 2, none⟩ = some (.int .u8 x0)) := Lib.hid ((B10.out.cell (p := ⟨b0, o0 + t * 2, none⟩) b09).trans s0)
                have S1 : Hid ((w9.alloc (.cells #[.int .u8 0, .int .u8 0] 42)).cell? ⟨b0, o0 + t * 2 + 1, none⟩ = some (.int .u8 x1)) := Lib.hid ((B10.out.cell (p := ⟨b0, o0 + t * 2 + 1, none⟩) b09).trans s1)
                have S2 : Hid ((w9.alloc (.cells #[.int .u8 0, .int .u8 0] 42)).cell? ⟨b1, o1 + d, none⟩ = some (.int .i64 yk)) := Lib.hid ((B10.out.cell (p := ⟨b1, o1 + d, none⟩) b19).trans s2)
                have U0 : Hid ((w9.alloc (.cells #[.int .u8 0, .int .u8 0] 42)).cell? ⟨g, 0, none⟩ = some (.int .u8 (if 0 < yk then x0 else 0))) := Lib.hid ((B10.out.cell (p := ⟨g, 0, none⟩) Hg9.out).trans V0.out)
                have U1 : Hid ((w9.alloc (.cells #[.int .u8 0, .int .u8 0] 42)).cell? ⟨g, 1, none⟩ = some (.int .u8 (if 1 < yk then x1 else 0))) := Lib.hid ((B10.out.cell (p := ⟨g, 1, none⟩) Hg9.out).trans V1.out)
                have U2 : Hid ((w9.alloc (.cells #[.int .u8 0, .int .u8 0] 42)).cell? ⟨g, 2, none⟩ = some (.int .u8 0)) := Lib.hid ((B10.out.cell (p := ⟨g, 2, none⟩) Hg9.out).trans V2.out)
                have Hd11 := Lib.hid (Hd9.out.keep B10.out)
                have Hb11 := Lib.hid (Hb9.out.trans (B10.out.mono Hb9.out.size))
                have hfd := Lib.hid (And.intro Hd9.out.obj.lt (And.intro Hd9.out.secs.lt Hd9.out.waits.lt))
                have Hw11 := Lib.hid hw9
                have B09 := Lib.hid b09
                have B19 := Lib.hid b19
                have starts : WantAt (w9.alloc (.cells #[.int .u8 0, .int .u8 0] 42)) w9.heap.size x0 x1 yk (.int .i64 0) (w9.alloc (.cells #[.int .u8 0, .int .u8 0] 42)) := ⟨0, by omega, rfl, R10.out, .inl rfl, Below.refl _ _⟩
                clear hc1 hc2 hd e0 e1 s0 s1 s2 hc0 hk1 hb0 hb1 hw9 b09 b19 htl hdk B10 R10 V0 V1 V2 Hd9 Hb9
                go_wp2_with fail
                generalize w9.alloc (.cells #[.int .u8 0, .int .u8 0] 42) = w11 at *
                generalize w9.heap.size = hh at *
                go_loopw [16] (fun iv wv => WantAt w11 hh x0 x1 yk iv wv) (fun iv _ => 2 - (intOf iv).toNat)
                case atStart => exact starts
                case round =>
                  clear starts
                  obtain ⟨r, hr, rfl, hrow, hry, hbl⟩ := hrel
                  have k0 : wr.cell? ⟨b0, o0 + t * 2, none⟩ = some (.int .u8 x0) := (hbl.cell (p := ⟨b0, o0 + t * 2, none⟩) B09.out).trans S0.out
                  have k1 : wr.cell? ⟨b0, o0 + t * 2 + 1, none⟩ = some (.int .u8 x1) := (hbl.cell (p := ⟨b0, o0 + t * 2 + 1, none⟩) B09.out).trans S1.out
                  have k2 : wr.cell? ⟨b1, o1 + d, none⟩ = some (.int .i64 yk) := (hbl.cell (p := ⟨b1, o1 + d, none⟩) B19.out).trans S2.out
                  have q0 := hrow.free 0
                  have q1 := hrow.free 1
                  have hr3 : r = 0 ∨ r = 1 ∨ r = 2 := by omega
                  rcases hr3 with rfl | rfl | rfl
                  · have r0 : wr.cell? ⟨hh, 0, none⟩ = some (.int .u8 0) := hrow.cell rfl
                    have r1 : wr.cell? ⟨hh, 1, none⟩ = some (.int .u8 0) := hrow.cell rfl
                    rw [show ((0 : Nat) : Int) = (0 : Int) from rfl]
                    by_cases hy0 : 0 < yk
                    · clear hry
                      have HROW := Lib.hid hrow
                      have HBL := Lib.hid hbl
                      have HY0 := Lib.hid hy0
                      clear hrow hbl
                      go_wp2_with fail
                      go_roundw
                      case rel => exact ⟨1, by omega, by go_num, HROW.out.set 0 _, .inr (by have := HY0.out; omega), HBL.out.setCell (p := ⟨hh, 0, none⟩) (Nat.le_refl _) _⟩
                      case measure => simp [intOf]
                    · have hy1 : ¬ (1 < yk) := by omega
                      clear hry
                      have Hd12 := Lib.hid (Hd11.out.keepB hbl hfd.out.1 hfd.out.2.1 hfd.out.2.2)
                      have Hb12 := Lib.hid (Hb11.out.trans (hbl.mono Hw11.out))
                      have u0 : wr.cell? ⟨g, 0, none⟩ = some (.int .u8 0) := by rw [hbl.cell (p := ⟨g, 0, none⟩) Hg9.out, U0.out, if_neg hy0]
                      have u1 : wr.cell? ⟨g, 1, none⟩ = some (.int .u8 0) := by rw [hbl.cell (p := ⟨g, 1, none⟩) Hg9.out, U1.out, if_neg hy1]
                      have u2 : wr.cell? ⟨g, 2, none⟩ = some (.int .u8 0) := (hbl.cell (p := ⟨g, 2, none⟩) Hg9.out).trans U2.out
                      clear hbl hrow
                      go_wp2_with fail
                      go_quiet (fail)
                      go_wp2_with fail
                      exact ⟨⟨t + 1, by have := Ht.out; omega, by go_num, Hd12.out.keep (below_drewN (Below.refl _ _) _), below_drewN Hb12.out _⟩, by have := Ht.out; simp [intOf]; omega⟩
                  · have r0 : wr.cell? ⟨hh, 0, none⟩ = some (.int .u8 x0) := hrow.cell rfl
                    have r1 : wr.cell? ⟨hh, 1, none⟩ = some (.int .u8 0) := hrow.cell rfl
                    have hy0 : 0 < yk := by rcases hry with h' | h' <;> omega
                    clear hry
                    rw [show ((1 : Nat) : Int) = (1 : Int) from rfl]
                    by_cases hy1 : 1 < yk
                    · have HROW := Lib.hid hrow
                      have HBL := Lib.hid hbl
                      have HY0 := Lib.hid hy1
                      clear hrow hbl
                      go_wp2_with fail
                      go_roundw
                      case rel => exact ⟨2, by omega, by go_num, HROW.out.set 1 _, .inr (by have := HY0.out; omega), HBL.out.setCell (p := ⟨hh, 1, none⟩) (Nat.le_refl _) _⟩
                      case measure => simp [intOf]
                    · have _u := hy1
                      have Hd12 := Lib.hid (Hd11.out.keepB hbl hfd.out.1 hfd.out.2.1 hfd.out.2.2)
                      have Hb12 := Lib.hid (Hb11.out.trans (hbl.mono Hw11.out))
                      have u0 : wr.cell? ⟨g, 0, none⟩ = some (.int .u8 x0) := by rw [hbl.cell (p := ⟨g, 0, none⟩) Hg9.out, U0.out, if_pos hy0]
                      have u1 : wr.cell? ⟨g, 1, none⟩ = some (.int .u8 0) := by rw [hbl.cell (p := ⟨g, 1, none⟩) Hg9.out, U1.out, if_neg hy1]
                      have u2 : wr.cell? ⟨g, 2, none⟩ = some (.int .u8 0) := (hbl.cell (p := ⟨g, 2, none⟩) Hg9.out).trans U2.out
                      clear hbl hrow
                      go_wp2_with fail
                      go_quiet (fail)
                      go_wp2_with fail
                      exact ⟨⟨t + 1, by have := Ht.out; omega, by go_num, Hd12.out.keep (below_drewN (Below.refl _ _) _), below_drewN Hb12.out _⟩, by have := Ht.out; simp [intOf]; omega⟩
                  · have r0 : wr.cell? ⟨hh, 0, none⟩ = some (.int .u8 x0) := hrow.cell rfl
                    have r1 : wr.cell? ⟨hh, 1, none⟩ = some (.int .u8 x1) := hrow.cell rfl
                    have hy1 : 1 < yk := by rcases hry with h' | h' <;> omega
                    have hy0 : 0 < yk := by omega
                    clear hry
                    rw [show ((2 : Nat) : Int) = (2 : Int) from rfl]
                    have Hd12 := Lib.hid (Hd11.out.keepB hbl hfd.out.1 hfd.out.2.1 hfd.out.2.2)
                    have Hb12 := Lib.hid (Hb11.out.trans (hbl.mono Hw11.out))
                    have u0 : wr.cell? ⟨g, 0, none⟩ = some (.int .u8 x0) := by rw [hbl.cell (p := ⟨g, 0, none⟩) Hg9.out, U0.out, if_pos hy0]
                    have u1 : wr.cell? ⟨g, 1, none⟩ = some (.int .u8 x1) := by rw [hbl.cell (p := ⟨g, 1, none⟩) Hg9.out, U1.out, if_pos hy1]
                    have u2 : wr.cell? ⟨g, 2, none⟩ = some (.int .u8 0) := (hbl.cell (p := ⟨g, 2, none⟩) Hg9.out).trans U2.out
                    clear hbl hrow
                    go_wp2_with fail
                    go_quiet (fail)
                    go_wp2_with fail
                    exact ⟨⟨t + 1, by have := Ht.out; omega, by go_num, Hd12.out.keep (below_drewN (Below.refl _ _) _), below_drewN Hb12.out _⟩, by have := Ht.out; simp [intOf]; omega⟩
              · have e0 : wantI xs keep n F K t 0 = 0 := by unfold wantI; rw [if_neg hc1, if_neg hc2]
                have e1 : wantI xs keep n F K t 1 = 0 := by unfold wantI; rw [if_neg hc1, if_neg hc2]
                rw [e0] at V0
                rw [e1] at V1
                clear e0 e1
                obtain ⟨d, hd⟩ : ∃ d : Nat, t - F = d := ⟨_, rfl⟩
                have ed : (t : Int) - F = (d : Int) := by omega
                have Hc := Lib.hid (show ¬ t < n ∨ ¬ d < K by omega)
                have w0 : (w9.alloc (.cells #[.int .u8 0, .int .u8 0] 42)).cell? ⟨g, 0, none⟩ = some (.int .u8 0) := (B10.out.cell (p := ⟨g, 0, none⟩) Hg9.out).trans V0.out
                have w1 : (w9.alloc (.cells #[.int .u8 0, .int .u8 0] 42)).cell? ⟨g, 1, none⟩ = some (.int .u8 0) := (B10.out.cell (p := ⟨g, 1, none⟩) Hg9.out).trans V1.out
                have w2 : (w9.alloc (.cells #[.int .u8 0, .int .u8 0] 42)).cell? ⟨g, 2, none⟩ = some (.int .u8 0) := (B10.out.cell (p := ⟨g, 2, none⟩) Hg9.out).trans V2.out
                have r0 : (w9.alloc (.cells #[.int .u8 0, .int .u8 0] 42)).cell? ⟨w9.heap.size, 0, none⟩ = some (.int .u8 0) := R10.out.cell rfl
                have r1 : (w9.alloc (.cells #[.int .u8 0, .int .u8 0] 42)).cell? ⟨w9.heap.size, 1, none⟩ = some (.int .u8 0) := R10.out.cell rfl
                have Hd11 := Lib.hid (Hd9.out.keep B10.out)
                have Hb11 := Lib.hid (Hb9.out.trans (B10.out.mono Hb9.out.size))
                clear hc1 hc2 hd R10 B10 V0 V1 V2 Hd9 Hb9 Hg9
                by_cases hc3 : t < n
                · have gt2 : (t : Int) < n := by omega
                  have gd : ¬ ((d : Int) < K) := by have := Hc.out; omega
                  clear hc3
                  go_wp2_with fail
                  generalize w9.alloc (.cells #[.int .u8 0, .int .u8 0] 42) = w11 at *
                  generalize w9.heap.size = hh at *
                  go_quiet (fail)
                  go_wp2_with fail
                  exact ⟨⟨t + 1, by have := Ht.out; omega, by go_num, Hd11.out.keep (below_drewN (Below.refl _ _) _), below_drewN Hb11.out _⟩, by have := Ht.out; simp [intOf]; omega⟩
                · have gt2 : ¬ ((t : Int) < n) := by omega
                  clear hc3
                  go_wp2_with fail
                  generalize w9.alloc (.cells #[.int .u8 0, .int .u8 0] 42) = w11 at *
                  generalize w9.heap.size = hh at *
                  go_quiet (fail)
                  go_wp2_with fail
                  exact ⟨⟨t + 1, by have := Ht.out; omega, by go_num, Hd11.out.keep (below_drewN (Below.refl _ _) _), below_drewN Hb11.out _⟩, by have := Ht.out; simp [intOf]; omega⟩
          · have g16 : t = 16 := by omega
            subst g16
            rw [show ((16 : Nat) : Int) = (16 : Int) from rfl]
            have Hb16 := Lib.hid hb
            clear hd hb ht hlt
            go_wp2_with fail
            go_ret
            exact ⟨rfl, Hb16.out⟩
      · have gF : ((F : Int) == n) = false := by simp; omega
        have gF2 : ¬ ((F : Int) = n) := by omega
        have gF3 := Lib.hid hFn
        clear hFn
        obtain ⟨hE, hL⟩ := mid_end (mid_none Hh.out (fun e => gF3.out e.symm)) HF.out
        have hW := hE.waits HD.out.waits
        have HE := Lib.hid hE
        have HLs := Lib.hid hL
        have HW := Lib.hid hW
        have hll : ls.length = 16 := hL.1
        have hkept := hE.kept hW ls (by rw [hll]; have := HF.out; omega) keep (min K (n - F)) (by omega)
        have hwl : (waitsI D).length = n - F := by rw [hW, List.length_map, List.length_range]
        have hbytes := Lib.hid (fun (i k : Nat) (hk : k < 3) => found_at (K := K) hL HF.out hkept i k hk)
        clear hE hL hW hkept
        go_wp2_with fail
        refine (crash_any HD.out (by have := Hk.out; have := hn16'; omega) A1 K q keep HK.out HKm.out (Hs1.out.keep Hb.out)).mono ?_
        rintro e w6 ⟨p', B', M', c', rfl, hb6, hd6⟩
        rw [hwl] at hd6
        have Hdd := Lib.hid (HD.out.keep hb6)
        have Hb6 := Lib.hid (Hb.out.trans (hb6.mono Hb.out.size))
        have Hsz := Lib.hid hb6.size
        generalize keptS D ls (waitsI D) keep (min K (n - F)) = L at *
        have Hd6 := Lib.hid hd6
        clear hd6 hb6 hwl hll
        go_wp2_with fail
        refine (disk_waiting Hd6.out).mono ?_
        rintro e w7 ⟨rfl, hw7⟩
        rw [show ((Maps.size (DataW.map [] : DataW Unit) : Nat) : Int) = 0 from rfl]
        subst hw7
        obtain ⟨m, hm⟩ : ∃ m : Nat, n - F = m := ⟨_, rfl⟩
        have em : (n : Int) - (F : Int) = (m : Int) := by have := HF.out; omega
        have em2 : (m : Int) ≤ 16 := by omega
        go_wp2_with fail
        refine (disk_waiting Hdd.out).mono ?_
        rintro e w8 ⟨rfl, hw8⟩
        rw [HE.out.size_, hm]
        subst hw8
        clear hm
        go_wp2_with fail
        go_loopw [12] (fun iv wv => FoundAt w wr.heap.size p' B' M' c' L iv wv) (fun iv _ => 16 - (intOf iv).toNat)
        case atStart => exact ⟨0, by omega, rfl, Hd6.out, Hb6.out⟩
        case round =>
          clear Hdd
          obtain ⟨t, ht, rfl, hd, hb⟩ := hrel
          by_cases hlt : t < 16
          · have gt : (t : Int) < 16 := by omega
            go_wp2_with fail
            refine (read_any hd t hlt).mono ?_
            rintro e w9 ⟨g, rfl, hg, hb9, hrow, hlen⟩
            rw [flush_none] at hrow hlen
            have z0 := hbytes.out t 0 (by decide)
            have z1 := hbytes.out t 1 (by decide)
            have z2 := hbytes.out t 2 (by decide)
            rw [if_pos (by decide)] at z0 z1
            rw [if_neg (by decide)] at z2
            have v0 : w9.cell? ⟨g, 0, none⟩ = some (.int .u8 (wantI xs keep n F K t 0)) := by rw [← z0]; exact hrow.cell (bcells_at _ 0 (by omega))
            have v1 : w9.cell? ⟨g, 1, none⟩ = some (.int .u8 (wantI xs keep n F K t 1)) := by rw [← z1]; exact hrow.cell (bcells_at _ 1 (by omega))
            have v2 : w9.cell? ⟨g, 2, none⟩ = some (.int .u8 0) := by rw [← z2]; exact hrow.cell (bcells_at _ 2 (by omega))
            have Hg9 := Lib.hid hrow.lt
            have Hd9 := Lib.hid (hd.keep hb9)
            have Hb9 := Lib.hid (hb.trans (hb9.mono hb.size))
            have V0 := Lib.hid v0
            have V1 := Lib.hid v1
            have V2 := Lib.hid v2
            have Ht := Lib.hid hlt
            clear hd hb hb9 hrow hlen z0 z1 z2 v0 v1 v2 hg ht hlt
            have hrow10 : Row (w9.alloc (.cells #[.int .u8 0, .int .u8 0] 42)) w9.heap.size 42 #[.int .u8 0, .int .u8 0] := Row.new _ _ _
            have hb10 : Below w9.heap.size w9 (w9.alloc (.cells #[.int .u8 0, .int .u8 0] 42)) := (Below.refl _ _).alloc (Nat.le_refl _) _
            have R10 := Lib.hid hrow10
            have B10 := Lib.hid hb10
            clear hrow10 hb10
            by_cases hc1 : t < F
            · have gc : (t : Int) < F := by omega
              have htl : t < len0 := by have := Hn.out; have := HF.out; omega
              have gl : (t : Int) < len0 := by omega
              obtain ⟨b0, o0, rfl, hb0, hc0⟩ := Hs0.out (by rw [Hl0.out]; omega)
              have e0 : wantI xs keep n F K t 0 = xs.getD (t * 2) 0 := by unfold wantI; rw [if_pos hc1]; rfl
              have e1 : wantI xs keep n F K t 1 = xs.getD (t * 2 + 1) 0 := by unfold wantI; rw [if_pos hc1]
              have hcs : Cells (w9.alloc (.cells #[.int .u8 0, .int .u8 0] 42)) b0 (o0 + t * 2) #[.int .u8 (xs.getD (t * 2) 0), .int .u8 (xs.getD (t * 2 + 1) 0)] := pair_cells ((Hs0.out.keep Hb9.out).keep B10.out) (by rw [Hl0.out]; omega)
              have Hcs := Lib.hid hcs
              rw [e0] at V0
              rw [e1] at V1
              generalize xs.getD (t * 2) 0 = x0 at *
              generalize xs.getD (t * 2 + 1) 0 = x1 at *
              clear hcs hc0 hb0 htl hc1 e0 e1
              go_wp2_with (first
                | (refine wpList_load_cells rfl 42 (.tmp 120) rfl b0 (o0 + t * 2) rfl #[.int .u8 x0, .int .u8 x1] _ Hcs.out Try.underlying42 rfl Try.size42 ?_)
                | (refine wpList_store42 rfl (.tmp 15) (.tmp 121) rfl w9.heap.size rfl x0 x1 rfl 0 0 R10.out ?_; intro w11 r11 hb11; have R11 := Lib.hid r11; have B11 := Lib.hid (B10.out.trans hb11); clear r11 hb11))
              have u0 : w11.cell? ⟨g, 0, none⟩ = some (.int .u8 x0) := (B11.out.cell (p := ⟨g, 0, none⟩) Hg9.out).trans V0.out
              have u1 : w11.cell? ⟨g, 1, none⟩ = some (.int .u8 x1) := (B11.out.cell (p := ⟨g, 1, none⟩) Hg9.out).trans V1.out
              have u2 : w11.cell? ⟨g, 2, none⟩ = some (.int .u8 0) := (B11.out.cell (p := ⟨g, 2, none⟩) Hg9.out).trans V2.out
              have r0 : w11.cell? ⟨w9.heap.size, 0, none⟩ = some (.int .u8 x0) := R11.out.cell rfl
              have r1 : w11.cell? ⟨w9.heap.size, 1, none⟩ = some (.int .u8 x1) := R11.out.cell rfl
              have Hd11 := Lib.hid (Hd9.out.keep B11.out)
              have Hb11 := Lib.hid (Hb9.out.trans (B11.out.mono Hb9.out.size))
              clear R10 B10 R11 B11 Hcs V0 V1 V2 Hd9 Hb9 Hg9
              generalize w9.heap.size = hh at *
              go_quiet (fail)
              go_wp2_with fail
              exact ⟨⟨t + 1, by have := Ht.out; omega, by go_num, Hd11.out.keep (below_drewN (Below.refl _ _) _), below_drewN Hb11.out _⟩, by have := Ht.out; simp [intOf]; omega⟩
            · have gc : ¬ ((t : Int) < F) := by omega
              by_cases hc2 : t < n ∧ t - F < K
              · have gt2 : (t : Int) < n := by omega
                obtain ⟨d, hd⟩ : ∃ d : Nat, t - F = d := ⟨_, rfl⟩
                have ed : (t : Int) - F = (d : Int) := by omega
                have gd : (d : Int) < K := by omega
                have htl : t < len0 := by have := Hn.out; omega
                have gl : (t : Int) < len0 := by omega
                have hdk : d < keep.length := by have := HK.out; omega
                obtain ⟨b0, o0, rfl, hb0, hc0⟩ := Hs0.out (by rw [Hl0.out]; omega)
                obtain ⟨b1, o1, rfl, hb1, hk1⟩ := Hs1.out (by omega)
                have hw9 := Hb9.out.size
                have b09 : b0 < w9.heap.size := by omega
                have b19 : b1 < w9.heap.size := by omega
                have s0 : w9.cell? ⟨b0, o0 + t * 2, none⟩ = some (.int .u8 (xs.getD (t * 2) 0)) := (Hb9.out.cell (p := ⟨b0, o0 + t * 2, none⟩) hb0).trans (hc0 (t * 2) (by rw [Hl0.out]; omega))
                have s1 : w9.cell? ⟨b0, o0 + t * 2 + 1, none⟩ = some (.int .u8 (xs.getD (t * 2 + 1) 0)) := (Hb9.out.cell (p := ⟨b0, o0 + t * 2 + 1, none⟩) hb0).trans (by have := hc0 (t * 2 + 1) (by rw [Hl0.out]; omega); rw [← Nat.add_assoc] at this; exact this)
                have s2 : w9.cell? ⟨b1, o1 + d, none⟩ = some (.int .i64 (keep.getD d 0)) := (Hb9.out.cell (p := ⟨b1, o1 + d, none⟩) hb1).trans (hk1 d hdk)
                have e0 : wantI xs keep n F K t 0 = if 0 < keep.getD d 0 then xs.getD (t * 2) 0 else 0 := by unfold wantI; rw [if_neg hc1, if_pos hc2, hd]; rfl
                have e1 : wantI xs keep n F K t 1 = if 1 < keep.getD d 0 then xs.getD (t * 2 + 1) 0 else 0 := by unfold wantI; rw [if_neg hc1, if_pos hc2, hd]; rfl
                rw [e0] at V0
                rw [e1] at V1
                generalize xs.getD (t * 2) 0 = x0 at *
                generalize xs.getD (t * 2 + 1) 0 = x1 at *
                generalize keep.getD d 0 = yk at *
                have S0 : Hid ((w9.alloc (.cells #[.int .u8 0, .int .u8 0] 42)).cell? ⟨b0, o0 + t * 2, none⟩ = some (.int .u8 x0)) := Lib.hid ((B10.out.cell (p := ⟨b0, o0 + t * 2, none⟩) b09).trans s0)
                have S1 : Hid ((w9.alloc (.cells #[.int .u8 0, .int .u8 0] 42)).cell? ⟨b0, o0 + t * 2 + 1, none⟩ = some (.int .u8 x1)) := Lib.hid ((B10.out.cell (p := ⟨b0, o0 + t * 2 + 1, none⟩) b09).trans s1)
                have S2 : Hid ((w9.alloc (.cells #[.int .u8 0, .int .u8 0] 42)).cell? ⟨b1, o1 + d, none⟩ = some (.int .i64 yk)) := Lib.hid ((B10.out.cell (p := ⟨b1, o1 + d, none⟩) b19).trans s2)
                have U0 : Hid ((w9.alloc (.cells #[.int .u8 0, .int .u8 0] 42)).cell? ⟨g, 0, none⟩ = some (.int .u8 (if 0 < yk then x0 else 0))) := Lib.hid ((B10.out.cell (p := ⟨g, 0, none⟩) Hg9.out).trans V0.out)
                have U1 : Hid ((w9.alloc (.cells #[.int .u8 0, .int .u8 0] 42)).cell? ⟨g, 1, none⟩ = some (.int .u8 (if 1 < yk then x1 else 0))) := Lib.hid ((B10.out.cell (p := ⟨g, 1, none⟩) Hg9.out).trans V1.out)
                have U2 : Hid ((w9.alloc (.cells #[.int .u8 0, .int .u8 0] 42)).cell? ⟨g, 2, none⟩ = some (.int .u8 0)) := Lib.hid ((B10.out.cell (p := ⟨g, 2, none⟩) Hg9.out).trans V2.out)
                have Hd11 := Lib.hid (Hd9.out.keep B10.out)
                have Hb11 := Lib.hid (Hb9.out.trans (B10.out.mono Hb9.out.size))
                have hfd := Lib.hid (And.intro Hd9.out.obj.lt (And.intro Hd9.out.secs.lt Hd9.out.waits.lt))
                have Hw11 := Lib.hid hw9
                have B09 := Lib.hid b09
                have B19 := Lib.hid b19
                have starts : WantAt (w9.alloc (.cells #[.int .u8 0, .int .u8 0] 42)) w9.heap.size x0 x1 yk (.int .i64 0) (w9.alloc (.cells #[.int .u8 0, .int .u8 0] 42)) := ⟨0, by omega, rfl, R10.out, .inl rfl, Below.refl _ _⟩
                clear hc1 hc2 hd e0 e1 s0 s1 s2 hc0 hk1 hb0 hb1 hw9 b09 b19 htl hdk B10 R10 V0 V1 V2 Hd9 Hb9
                go_wp2_with fail
                generalize w9.alloc (.cells #[.int .u8 0, .int .u8 0] 42) = w11 at *
                generalize w9.heap.size = hh at *
                go_loopw [16] (fun iv wv => WantAt w11 hh x0 x1 yk iv wv) (fun iv _ => 2 - (intOf iv).toNat)
                case atStart => exact starts
                case round =>
                  clear starts
                  obtain ⟨r, hr, rfl, hrow, hry, hbl⟩ := hrel
                  have k0 : wr.cell? ⟨b0, o0 + t * 2, none⟩ = some (.int .u8 x0) := (hbl.cell (p := ⟨b0, o0 + t * 2, none⟩) B09.out).trans S0.out
                  have k1 : wr.cell? ⟨b0, o0 + t * 2 + 1, none⟩ = some (.int .u8 x1) := (hbl.cell (p := ⟨b0, o0 + t * 2 + 1, none⟩) B09.out).trans S1.out
                  have k2 : wr.cell? ⟨b1, o1 + d, none⟩ = some (.int .i64 yk) := (hbl.cell (p := ⟨b1, o1 + d, none⟩) B19.out).trans S2.out
                  have q0 := hrow.free 0
                  have q1 := hrow.free 1
                  have hr3 : r = 0 ∨ r = 1 ∨ r = 2 := by omega
                  rcases hr3 with rfl | rfl | rfl
                  · have r0 : wr.cell? ⟨hh, 0, none⟩ = some (.int .u8 0) := hrow.cell rfl
                    have r1 : wr.cell? ⟨hh, 1, none⟩ = some (.int .u8 0) := hrow.cell rfl
                    rw [show ((0 : Nat) : Int) = (0 : Int) from rfl]
                    by_cases hy0 : 0 < yk
                    · clear hry
                      have HROW := Lib.hid hrow
                      have HBL := Lib.hid hbl
                      have HY0 := Lib.hid hy0
                      clear hrow hbl
                      go_wp2_with fail
                      go_roundw
                      case rel => exact ⟨1, by omega, by go_num, HROW.out.set 0 _, .inr (by have := HY0.out; omega), HBL.out.setCell (p := ⟨hh, 0, none⟩) (Nat.le_refl _) _⟩
                      case measure => simp [intOf]
                    · have hy1 : ¬ (1 < yk) := by omega
                      clear hry
                      have Hd12 := Lib.hid (Hd11.out.keepB hbl hfd.out.1 hfd.out.2.1 hfd.out.2.2)
                      have Hb12 := Lib.hid (Hb11.out.trans (hbl.mono Hw11.out))
                      have u0 : wr.cell? ⟨g, 0, none⟩ = some (.int .u8 0) := by rw [hbl.cell (p := ⟨g, 0, none⟩) Hg9.out, U0.out, if_neg hy0]
                      have u1 : wr.cell? ⟨g, 1, none⟩ = some (.int .u8 0) := by rw [hbl.cell (p := ⟨g, 1, none⟩) Hg9.out, U1.out, if_neg hy1]
                      have u2 : wr.cell? ⟨g, 2, none⟩ = some (.int .u8 0) := (hbl.cell (p := ⟨g, 2, none⟩) Hg9.out).trans U2.out
                      clear hbl hrow
                      go_wp2_with fail
                      go_quiet (fail)
                      go_wp2_with fail
                      exact ⟨⟨t + 1, by have := Ht.out; omega, by go_num, Hd12.out.keep (below_drewN (Below.refl _ _) _), below_drewN Hb12.out _⟩, by have := Ht.out; simp [intOf]; omega⟩
                  · have r0 : wr.cell? ⟨hh, 0, none⟩ = some (.int .u8 x0) := hrow.cell rfl
                    have r1 : wr.cell? ⟨hh, 1, none⟩ = some (.int .u8 0) := hrow.cell rfl
                    have hy0 : 0 < yk := by rcases hry with h' | h' <;> omega
                    clear hry
                    rw [show ((1 : Nat) : Int) = (1 : Int) from rfl]
                    by_cases hy1 : 1 < yk
                    · have HROW := Lib.hid hrow
                      have HBL := Lib.hid hbl
                      have HY0 := Lib.hid hy1
                      clear hrow hbl
                      go_wp2_with fail
                      go_roundw
                      case rel => exact ⟨2, by omega, by go_num, HROW.out.set 1 _, .inr (by have := HY0.out; omega), HBL.out.setCell (p := ⟨hh, 1, none⟩) (Nat.le_refl _) _⟩
                      case measure => simp [intOf]
                    · have _u := hy1
                      have Hd12 := Lib.hid (Hd11.out.keepB hbl hfd.out.1 hfd.out.2.1 hfd.out.2.2)
                      have Hb12 := Lib.hid (Hb11.out.trans (hbl.mono Hw11.out))
                      have u0 : wr.cell? ⟨g, 0, none⟩ = some (.int .u8 x0) := by rw [hbl.cell (p := ⟨g, 0, none⟩) Hg9.out, U0.out, if_pos hy0]
                      have u1 : wr.cell? ⟨g, 1, none⟩ = some (.int .u8 0) := by rw [hbl.cell (p := ⟨g, 1, none⟩) Hg9.out, U1.out, if_neg hy1]
                      have u2 : wr.cell? ⟨g, 2, none⟩ = some (.int .u8 0) := (hbl.cell (p := ⟨g, 2, none⟩) Hg9.out).trans U2.out
                      clear hbl hrow
                      go_wp2_with fail
                      go_quiet (fail)
                      go_wp2_with fail
                      exact ⟨⟨t + 1, by have := Ht.out; omega, by go_num, Hd12.out.keep (below_drewN (Below.refl _ _) _), below_drewN Hb12.out _⟩, by have := Ht.out; simp [intOf]; omega⟩
                  · have r0 : wr.cell? ⟨hh, 0, none⟩ = some (.int .u8 x0) := hrow.cell rfl
                    have r1 : wr.cell? ⟨hh, 1, none⟩ = some (.int .u8 x1) := hrow.cell rfl
                    have hy1 : 1 < yk := by rcases hry with h' | h' <;> omega
                    have hy0 : 0 < yk := by omega
                    clear hry
                    rw [show ((2 : Nat) : Int) = (2 : Int) from rfl]
                    have Hd12 := Lib.hid (Hd11.out.keepB hbl hfd.out.1 hfd.out.2.1 hfd.out.2.2)
                    have Hb12 := Lib.hid (Hb11.out.trans (hbl.mono Hw11.out))
                    have u0 : wr.cell? ⟨g, 0, none⟩ = some (.int .u8 x0) := by rw [hbl.cell (p := ⟨g, 0, none⟩) Hg9.out, U0.out, if_pos hy0]
                    have u1 : wr.cell? ⟨g, 1, none⟩ = some (.int .u8 x1) := by rw [hbl.cell (p := ⟨g, 1, none⟩) Hg9.out, U1.out, if_pos hy1]
                    have u2 : wr.cell? ⟨g, 2, none⟩ = some (.int .u8 0) := (hbl.cell (p := ⟨g, 2, none⟩) Hg9.out).trans U2.out
                    clear hbl hrow
                    go_wp2_with fail
                    go_quiet (fail)
                    go_wp2_with fail
                    exact ⟨⟨t + 1, by have := Ht.out; omega, by go_num, Hd12.out.keep (below_drewN (Below.refl _ _) _), below_drewN Hb12.out _⟩, by have := Ht.out; simp [intOf]; omega⟩
              · have e0 : wantI xs keep n F K t 0 = 0 := by unfold wantI; rw [if_neg hc1, if_neg hc2]
                have e1 : wantI xs keep n F K t 1 = 0 := by unfold wantI; rw [if_neg hc1, if_neg hc2]
                rw [e0] at V0
                rw [e1] at V1
                clear e0 e1
                obtain ⟨d, hd⟩ : ∃ d : Nat, t - F = d := ⟨_, rfl⟩
                have ed : (t : Int) - F = (d : Int) := by omega
                have Hc := Lib.hid (show ¬ t < n ∨ ¬ d < K by omega)
                have w0 : (w9.alloc (.cells #[.int .u8 0, .int .u8 0] 42)).cell? ⟨g, 0, none⟩ = some (.int .u8 0) := (B10.out.cell (p := ⟨g, 0, none⟩) Hg9.out).trans V0.out
                have w1 : (w9.alloc (.cells #[.int .u8 0, .int .u8 0] 42)).cell? ⟨g, 1, none⟩ = some (.int .u8 0) := (B10.out.cell (p := ⟨g, 1, none⟩) Hg9.out).trans V1.out
                have w2 : (w9.alloc (.cells #[.int .u8 0, .int .u8 0] 42)).cell? ⟨g, 2, none⟩ = some (.int .u8 0) := (B10.out.cell (p := ⟨g, 2, none⟩) Hg9.out).trans V2.out
                have r0 : (w9.alloc (.cells #[.int .u8 0, .int .u8 0] 42)).cell? ⟨w9.heap.size, 0, none⟩ = some (.int .u8 0) := R10.out.cell rfl
                have r1 : (w9.alloc (.cells #[.int .u8 0, .int .u8 0] 42)).cell? ⟨w9.heap.size, 1, none⟩ = some (.int .u8 0) := R10.out.cell rfl
                have Hd11 := Lib.hid (Hd9.out.keep B10.out)
                have Hb11 := Lib.hid (Hb9.out.trans (B10.out.mono Hb9.out.size))
                clear hc1 hc2 hd R10 B10 V0 V1 V2 Hd9 Hb9 Hg9
                by_cases hc3 : t < n
                · have gt2 : (t : Int) < n := by omega
                  have gd : ¬ ((d : Int) < K) := by have := Hc.out; omega
                  clear hc3
                  go_wp2_with fail
                  generalize w9.alloc (.cells #[.int .u8 0, .int .u8 0] 42) = w11 at *
                  generalize w9.heap.size = hh at *
                  go_quiet (fail)
                  go_wp2_with fail
                  exact ⟨⟨t + 1, by have := Ht.out; omega, by go_num, Hd11.out.keep (below_drewN (Below.refl _ _) _), below_drewN Hb11.out _⟩, by have := Ht.out; simp [intOf]; omega⟩
                · have gt2 : ¬ ((t : Int) < n) := by omega
                  clear hc3
                  go_wp2_with fail
                  generalize w9.alloc (.cells #[.int .u8 0, .int .u8 0] 42) = w11 at *
                  generalize w9.heap.size = hh at *
                  go_quiet (fail)
                  go_wp2_with fail
                  exact ⟨⟨t + 1, by have := Ht.out; omega, by go_num, Hd11.out.keep (below_drewN (Below.refl _ _) _), below_drewN Hb11.out _⟩, by have := Ht.out; simp [intOf]; omega⟩
          · have g16 : t = 16 := by omega
            subst g16
            rw [show ((16 : Nat) : Int) = (16 : Int) from rfl]
            have Hb16 := Lib.hid hb
            clear hd hb ht hlt
            go_wp2_with fail
            go_ret
            exact ⟨rfl, Hb16.out⟩
end Go.Proofs.Ytehanjhgjbclhaa

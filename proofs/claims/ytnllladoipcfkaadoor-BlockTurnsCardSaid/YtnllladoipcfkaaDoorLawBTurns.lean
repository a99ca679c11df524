/- BlockTurns' walk: where bits of a block are turned, it is not read; turned back, by a crash, it is. -/
import Derived.Test.YtnllladoipcfkaaDoorBlkWrite
import Derived.Test.YtnllladoipcfkaaDoorBlkNums
import Derived.Test.YtnllladoipcfkaaDoorTurnNums
import Derived.Test.YtnllladoipcfkaaDoorDiskCrash
namespace Go.Proofs.YtnllladoipcfkaaDoor
open Go.RowKit Go.Maps

theorem fits_five (n : Nat) (h1 : 1 ≤ n) (h2 : n ≤ 3000) : fitsI (placeP 5 9 n) 20 = 0 := by
  obtain ⟨m, hm, _⟩ := secs_nat n
  have h3 := secs_of hm h1 (by omega)
  unfold fitsI
  refine if_pos ⟨?_, ?_⟩
  · unfold Pt.right
    refine decide_eq_true ?_
    show _ ∧ _ ∧ _ ∧ _ ∧ _ ∧ _
    refine ⟨?_, ?_, ?_, ?_, ?_, ?_⟩
    · show (1 : Int) ≤ (n : Int); omega
    · show (n : Int) ≤ 65536; omega
    · show (1 : Int) ≤ 9; decide
    · show (9 : Int) ≤ _; decide
    · show (2 : Int) ≤ 5; decide
    · show (5 : Int) + secsOf (n : Int) ≤ 8192; rw [hm]; omega
  · show (5 : Int) + secsOf (n : Int) ≤ ((20 : Nat) : Int)
    rw [hm]
    omega
/-- What the turned bytes' sum is worth. -/
theorem turned_check (xs ys : List Int) (by_ : Wd) (hr : (ofP 5 9 xs).right = true) (h : (by_ = 0#32 ∧ ys = xs) ∨ ((uv (goW 0#32 ys) == uv (goW 0#32 xs)) = false ∧ (uv by_ == 0) = false)) :
    (by_ = 0#32 ∧ ys = xs ∧ checkP (ofP 5 9 xs) ys = 0) ∨ ((uv by_ == 0) = false ∧ checkP (ofP 5 9 xs) ys = 12) := by
  rcases h with ⟨h1, rfl⟩ | ⟨h1, h2⟩
  · exact .inl ⟨h1, rfl, own_check hr⟩
  · refine .inr ⟨h2, ?_⟩
    unfold checkP
    rw [if_pos hr, if_neg]
    intro e
    have e2 : uv (goW 0#32 ys) = uv (goW 0#32 xs) := congrArg Pt.crc ((Pt.same_iff _ _).1 e)
    rw [e2] at h1
    simp at h1

/-- At a round's head: the bits below k are turned. -/
def BTAt (w : World) (xs : List Int) (t : Nat) (b : Wd) (G g c : Nat) (i : Value) (wr : World) : Prop :=
  ∃ (k : Nat) (ys : List Int), k ≤ 32 ∧ i = .int .i64 k ∧ ys.length = xs.length ∧ IsBytes ys ∧ (b = 0#32 → ys = xs) ∧ foldW (~~~0#32) ys = foldW (~~~0#32) xs ^^^ stepsW (8 * xs.length - t) (lowW b k) ∧ Own wr G (some ⟨g, 0, none⟩) c ys ∧ Only g w wr

set_option maxRecDepth 100000 in
set_option maxHeartbeats 8000000 in
theorem bturns_mid (A0 : Option Addr) (n c0 : Nat) (xs : List Int) (a : Int) (by_ : Wd) (w : World) (ht : Tabs w) (hn : n = xs.length) (hs : Src .u8 w A0 xs) (hx : IsBytes xs) (hl4 : 4 ≤ n) (hl : n ≤ 3000) :
    Calls Tryd.prog 5 #[.slice A0 n c0, .int .i64 a, .int .u32 (uv by_)] w fun e w' => e = .returned (.bool true) ∧ Below w.heap.size w w' := by
  obtain ⟨m, hm, hm2⟩ := secs_nat n
  have hm3 := secs_of hm (by omega) (by omega)
  have hfit := fits_five n (by omega) hl
  have hqo : (ofP 5 9 xs).Ok := ofP_ok (by decide) (by decide) (by decide) (by decide) (by omega)
  have hQF : fitsI (ofP 5 9 xs) 20 = 0 := (fits_of hn).trans hfit
  have hQR : (ofP 5 9 xs).right = true := (fits_right hQF).1
  -- Write of bytes of this length, from a block of the call's own
  have HW := Lib.hid (fun (w' : World) (base q B M C k : Nat) (ls : List (List Int)) (D : DataW Unit) (g c : Nat) (ys : List Int) (h : Disk w' base q B M 20 C k ls D false 0) (hk : k ≤ 800) (hb : Below w.heap.size w w') (hle : w.heap.size ≤ base) (hy : n = ys.length) (ho : Own w' base (some ⟨g, 0, none⟩) c ys) (hyb : IsBytes ys) (hA : g ≠ q ∧ g ≠ B ∧ g ≠ M) =>
    bwrite_done h (by decide) (by decide) hk (ht.low.more hle) (ht.keep hb) 5 9 g 0 n c m ys hy ho.src hyb (by have := ho.cap; omega) (by have := ho.cap; unfold maxLen at this; omega) hA (placeP_ok (by decide) (by decide) (by decide) (by decide) (by omega) (by omega)) hfit hm)
  -- Read by the pointer of xs, where ys lie
  have HR := Lib.hid (fun (w' : World) (base q B M C k : Nat) (ls : List (List Int)) (D : DataW Unit) (ys : List Int) (h : Disk w' base q B M 20 C k ls D false 0) (hb : Below w.heap.size w w') (hyb : IsBytes ys) (hbk : blkS D ls 5 n = ys) (b : Wd) (ht2 : (b = 0#32 ∧ ys = xs) ∨ ((uv (goW 0#32 ys) == uv (goW 0#32 xs)) = false ∧ (uv b == 0) = false)) =>
    (show Calls Tryd.prog 11 #[.pointer (some ⟨q, 0, none⟩), .agg (pcells (ofP 5 9 xs))] w' (fun e w'' => Below w'.heap.size w' w'' ∧ ((b = 0#32 ∧ ∃ g, e = .returned (.tuple #[.slice (some ⟨g, 0, none⟩) n n, .int .i64 0]) ∧ Src .u8 w'' (some ⟨g, 0, none⟩) xs) ∨ ((uv b == 0) = false ∧ e = .returned (.tuple #[.slice none 0 0, .int .i64 12])))) by
      refine (bread_any h (ofP 5 9 xs) hqo (ht.keep hb) 5 n rfl (by rw [ofP_len, ← hn]) hQF (by rw [hbk]; exact hyb)).mono ?_
      rw [hbk]
      rintro e w'' ⟨hb'', ⟨h0, g, _, rfl, hsg⟩ | ⟨h12, rfl⟩⟩
      · rcases turned_check xs ys b hQR ht2 with ⟨hb0, rfl, _⟩ | ⟨_, hc⟩
        · exact ⟨hb'', .inl ⟨hb0, g, rfl, hsg⟩⟩
        · rw [hc] at h0; cases h0
      · rcases turned_check xs ys b hQR ht2 with ⟨_, _, hc⟩ | ⟨hb0, _⟩
        · rw [hc] at h12; cases h12
        · exact ⟨hb'', .inr ⟨hb0, rfl⟩⟩))
  have HQS : Hid ((ofP 5 9 xs).sha.length = 32) := Lib.hid (shaS_length xs)
  have HB1 : Hid (blkS (.map []) (flushS (putsD (.map []) (5 : Int) xs m) (zeroSecs 20)) 5 n = xs) := Lib.hid (by
    rw [blk_flushed _ _ _ _ (by rw [zeroSecs_length]; omega)]
    exact blk_puts tidy_empty _ _ _ _ _ hn (by omega))
  have HB2 : Hid (∀ ys : List Int, n = ys.length → blkS (putsD (.map []) (5 : Int) ys m) (flushS (putsD (.map []) (5 : Int) xs m) (zeroSecs 20)) 5 n = ys) := Lib.hid (fun ys hy => blk_puts tidy_empty _ _ _ _ _ hy (by omega))
  obtain ⟨LS, hLS⟩ : ∃ LS, flushS (putsD (.map []) (5 : Int) xs m) (zeroSecs 20) = LS := ⟨_, rfl⟩
  rw [hLS] at HB1 HB2
  have HLS := Lib.hid hLS
  have HM : Hid (m ≤ 6) := Lib.hid (by omega)
  have Hn := Lib.hid hn
  have Hs := Lib.hid hs
  have Hx := Lib.hid hx
  obtain ⟨Q, hQ⟩ : ∃ Q, ofP 5 9 xs = Q := ⟨_, rfl⟩
  rw [hQ] at HR HQS
  have HQ := Lib.hid hQ
  have hd1 : decide ((n : Int) < 4) = false := by simp; omega
  have hd2 : decide ((3000 : Int) < (n : Int)) = false := by simp; omega
  have hl0 : (n : Int) ≤ 3000 := by omega
  have hl1 : 4 ≤ (n : Int) := by omega
  clear hn hs hm hm2 hm3 hfit hqo hQF hQR hQ ht hLS hx
  go_enter Tryd.func5, Tryd.ntmps5
  go_wp2_with fail
  refine (new_any w 20 (by decide) (by decide)).mono ?_
  rintro e w1 ⟨p, B, M, rfl, hb1, hd⟩
  have HD1 := Lib.hid hd
  have ha : Below w.heap.size w (w1.alloc (.cells #[] 5)) := hb1.trans ((Below.refl _ _).alloc hb1.size _)
  have hz1 := hb1.size
  clear hd
  go_wp2_with (at_builtin; refine wpList_append_src rfl _ _ rfl w1.heap.size _ _ _ [] rfl rfl (own_made w1 _ (Nat.le_refl _)) A0 n c0 xs rfl Hn.out (Hs.out.keep ha) (by omega) (by simp) ?_; rintro v w2 ⟨A2, n2, c2, rfl, hn2, ho2, hb2⟩; have hz2 := hb2.size; have Hn2 := Lib.hid hn2; clear hn2; simp only [List.nil_append] at ho2 Hn2)
  obtain ⟨g, cap, hv, hg, _⟩ := World.ownsRow.form ho2 (by have := Hn.out; omega)
  obtain ⟨rfl, rfl⟩ : A2 = some ⟨g, 0, none⟩ ∧ c2 = cap := by injection hv with h1 _ h3; exact ⟨h1, h3⟩
  obtain rfl : n = n2 := by rw [Hn2.out, Hn.out]
  have bd2 := ha.trans (hb2.mono hz1)
  have HD2 := Lib.hid (HD1.out.keep (((Below.refl w1.heap.size w1).alloc (Nat.le_refl _) _).trans hb2))
  have HO2 := Lib.hid (ho2.more hz1)
  have ltp := HD1.out.obj.lt
  have ltB := HD1.out.secs.lt
  have ltM := HD1.out.waits.lt
  have gt2 := HO2.out.there
  have neA : g ≠ p ∧ g ≠ B ∧ g ≠ M := ⟨by omega, by omega, by omega⟩
  have hgw : w.heap.size ≤ g := by omega
  clear hv ho2 HD1 Hn2 ha hb1 hb2
  refine (HW.out _ _ _ _ _ _ _ _ _ _ _ _ HD2.out (by decide) bd2 (Nat.le_refl _) Hn.out HO2.out Hx.out neA).mono ?_
  rw [HQ.out]
  rintro e w3 ⟨rfl, hb3, ot3, hd3⟩
  rw [Nat.zero_add] at hd3
  have HD3 := Lib.hid hd3
  have HO3 := Lib.hid (HO2.out.same (ot3.2 g gt2 neA.1 neA.2.1 neA.2.2))
  have b3 := bd2.trans hb3
  have s3 := b3.size
  have l3p := HD3.out.obj.lt
  have l3B := HD3.out.secs.lt
  have l3M := HD3.out.waits.lt
  have l3g := HO3.out.there
  clear hd3 HD2 HO2 bd2 hb3 ot3 ltp ltB ltM gt2 hg hz1 hz2
  go_wp2_with (first
    | (refine wpList_allocP 14 rfl rfl rfl ?_; intro w4 r4 hb4 hz4; have b4 := b3.trans (hb4.mono b3.size); have HD4 := Lib.hid (HD3.out.keep hb4); have HO4 := Lib.hid (HO3.out.keep hb4); clear b3 HD3 HO3 hb4 hz4)
    | (refine wpList_storeP rfl (.tmp 14) (.tmp 67) rfl w3.heap.size rfl Q rfl HQS.out Pt.zero rfl r4 ?_; intro w5 r5 o5; have b5 := b4.trans (o5.below.mono s3); have HD5 := Lib.hid (HD4.out.grown o5.grown (by omega) (by omega) (by omega)); have HO5 := Lib.hid (HO4.out.same (o5.block g (by omega))); clear b4 HD4 HO4 o5 r4))
  refine (flush_done HD5.out (by decide) (by decide) rfl).mono ?_
  rintro e w6 ⟨rfl, hb6, ot6, hd6⟩
  rw [HLS.out] at hd6
  have HD6 := Lib.hid (show Disk w6 w.heap.size p B M 20 20 m LS (.map []) false 0 from hd6)
  have r6 := ot6.row r5 (by omega) (by omega) (by omega)
  have HO6 := Lib.hid (HO5.out.same (ot6.2 g HO5.out.there neA.1 neA.2.1 neA.2.2))
  have b6 := b5.trans hb6
  clear hd6 hb6 ot6 r5 HD5 HO5 b5
  go_wp2_with fail
  obtain ⟨t, hat, htl⟩ := place_ok a n hl4 (by omega)
  rw [hat]
  clear hat
  go_loopw [16] (fun i wr => BTAt w6 xs t by_ w.heap.size g c2 i wr) (fun i _ => 32 - (intOf i).toNat)
  case atStart => exact ⟨0, xs, by omega, rfl, rfl, Hx.out, fun _ => rfl, by unfold lowW; rw [stepsW_zero, BitVec.xor_zero], HO6.out, Only.refl _ _⟩
  case round =>
    obtain ⟨k, ys, hk, rfl, hyl, hyb, hzz, hfo, ho, hb⟩ := hrel
    have Hfo := Lib.hid hfo
    have Hyl := Lib.hid hyl
    have Hzz := Lib.hid hzz
    have Hyb := Lib.hid hyb
    clear hfo hyl hzz hyb
    by_cases hlt : k < 32
    · have hsh := shr_uv by_ k
      have hbt := tbit0_uv (by_ >>> k)
      rw [show (by_ >>> k).getLsbD 0 = by_.getLsbD k by rw [BitVec.getLsbD_ushiftRight, Nat.add_zero]] at hbt
      obtain ⟨q, hq, hql⟩ : ∃ q : Nat, ((t : Int) + (k : Int)) / 8 = (q : Int) ∧ q = (t + k) / 8 := ⟨(t + k) / 8, by omega, rfl⟩
      obtain ⟨r, hr, hrl⟩ : ∃ r : Nat, ((t : Int) + (k : Int)) % 8 = (r : Int) ∧ r = (t + k) % 8 := ⟨(t + k) % 8, by omega, rfl⟩
      have hq1 : q < n := by omega
      have hr8 : r < 8 := by omega
      have Hq := Lib.hid hql
      have Hr := Lib.hid hrl
      have Ho := Lib.hid ho
      have Hb := Lib.hid hb
      clear hql hrl hb
      cases h : by_.getLsbD k with
      | true =>
        have hand : bits .and .u32 (uv (by_ >>> k)) 1 = 1 := by rw [hbt, h]; rfl
        have hc1 := ho.at_ q (by rw [Hyl.out, ← Hn.out]; omega)
        have hc2 := ho.free q
        have Hh := Lib.hid h
        clear hbt h ho
        go_wp2_with fail
        go_roundw
        case rel =>
          have hyb := Hyb.out
          have hf := flip_byte (ys.getD q 0) r (hyb.at_ q).1 (hyb.at_ q).2 hr8
          have hq2 := Hq.out
          have hr2 := Hr.out
          rw [List.getD_eq_getElem?_getD] at hf
          refine ⟨k + 1, ys.set q _, by omega, by go_num, by rw [List.length_set]; exact Hyl.out, hyb.set_ q _ hf.1, fun e => ?_, ?_, Ho.out.set_ q _, Hb.out.set q _⟩
          · have := Hh.out; rw [e] at this; simp at this
          rw [hq2]
          refine foldW_round xs ys _ by_ t k _ Hyl.out (by rw [← Hn.out]; exact htl) hlt Hh.out ?_ Hfo.out
          rw [List.getD_eq_getElem?_getD, ← hq2, ← hr2]
          exact hf.2
        case measure => simp [intOf]; omega
      | false =>
        have hand : bits .and .u32 (uv (by_ >>> k)) 1 = 0 := by rw [hbt, h]; rfl
        have Hh := Lib.hid (lowW_skip by_ k h)
        clear hbt h hq hr ho
        go_wp2_with fail
        go_roundw
        case rel => exact ⟨k + 1, ys, by omega, by go_num, Hyl.out, Hyb.out, Hzz.out, by rw [Hh.out]; exact Hfo.out, Ho.out, Hb.out⟩
        case measure => simp [intOf]; omega
    · obtain rfl : k = 32 := by omega
      have hE := turns_end xs ys by_ _ Hfo.out
      have HE : Hid ((by_ = 0#32 ∧ ys = xs) ∨ ((uv (goW 0#32 ys) == uv (goW 0#32 xs)) = false ∧ (uv by_ == 0) = false)) := Lib.hid (hE.imp (fun h => ⟨h.1, Hzz.out h.1⟩) id)
      have HD7 := Lib.hid (HD6.out.blocks (hb.block p (Ne.symm neA.1)) (hb.block B (Ne.symm neA.2.1)) (hb.block M (Ne.symm neA.2.2)))
      have r7 := hb.row r6 (by omega)
      have b7 := b6.trans (hb.below.mono hgw)
      have HO7 := Lib.hid ho
      have Hyn : Hid (n = ys.length) := Lib.hid (by rw [Hyl.out, Hn.out])
      have HYS : Hid ((ofP 5 9 ys).sha.length = 32) := Lib.hid (shaS_length ys)
      have hm6 := HM.out
      clear hE Hfo hb ho HD6 HO6 r6 b6
      go_wp2_with fail
      refine (HW.out _ _ _ _ _ _ _ _ _ _ _ ys HD7.out (by omega) b7 (Nat.le_refl _) Hyn.out HO7.out Hyb.out neA).mono ?_
      rintro e w8 ⟨rfl, hb8, ot8, hd8⟩
      have HD8 := Lib.hid hd8
      have r8 := ot8.row r7 (by omega) (by omega) (by omega)
      have b8 := b7.trans hb8
      have s8 := b8.size
      have l8p := HD8.out.obj.lt
      have l8B := HD8.out.secs.lt
      have l8M := HD8.out.waits.lt
      have l8r := r8.lt
      obtain ⟨Y, hY⟩ : ∃ Y, ofP 5 9 ys = Y := ⟨_, rfl⟩
      rw [hY] at HYS ⊢
      clear hY hd8 hb8 ot8 r7 b7 HD7 HO7
      go_wp2_with (first
        | (refine wpList_allocP 17 rfl rfl rfl ?_; intro w9 r9 hb9 hz9; have b9 := b8.trans (hb9.mono b8.size); have HD9 := Lib.hid (HD8.out.keep hb9); have r89 := r8.keep hb9; clear b8 HD8 r8 hb9 hz9)
        | (refine wpList_storeP rfl (.tmp 17) (.tmp 121) rfl w8.heap.size rfl Y rfl HYS.out Pt.zero rfl r9 ?_; intro w10 _ o10; have b10 := b9.trans (o10.below.mono s8); have HD10 := Lib.hid (HD9.out.grown o10.grown (by omega) (by omega) (by omega)); have r10 := o10.row r89 (by omega); clear b9 HD9 r89 o10 r9)
        | (refine wpList_loadP (.tmp 14) rfl rfl w3.heap.size rfl Q HQS.out r10 ?_))
      refine (HR.out _ _ _ _ _ _ _ _ _ ys HD10.out b10 Hyb.out (HB2.out ys Hyn.out) by_ HE.out).mono ?_
      rintro e w11 ⟨hb11, hres⟩
      have r11 := r10.keep hb11
      have HD11 := Lib.hid (HD10.out.keep hb11)
      have b11 := b10.trans (hb11.mono b10.size)
      clear r10 HD10 b10 hb11
      rcases hres with ⟨hby, g1, rfl, hs1⟩ | ⟨hby, rfl⟩
      · have HS1 := Lib.hid hs1
        subst hby
        clear hs1
        go_wp2_with fail
        refine (crash_any HD11.out (by omega) none 0 0 [] rfl (by decide) Src.none_).mono ?_
        rintro e w12 ⟨p', B', M', c', rfl, hb12, hd12⟩
        rw [Nat.zero_min] at hd12
        have HD12 := Lib.hid (show Disk w12 w11.heap.size p' B' M' 20 c' 0 LS (.map []) false 0 from hd12)
        have r12 := r11.keep hb12
        have b12 := b11.trans (hb12.mono b11.size)
        have HS2 := Lib.hid (HS1.out.keep hb12)
        clear r11 HD11 b11 hb12 hd12 HS1
        go_wp2_with (refine wpList_loadP (.tmp 14) rfl rfl w3.heap.size rfl Q HQS.out r12 ?_)
        refine (HR.out _ _ _ _ _ _ _ _ _ xs HD12.out b12 Hx.out HB1.out 0#32 (.inl ⟨rfl, rfl⟩)).mono ?_
        rintro e w13 ⟨hb13, ⟨_, g2, rfl, hs2⟩ | ⟨h0, _⟩⟩
        · have b13 := b12.trans (hb13.mono b12.size)
          have tx := run_text w13 (some ⟨g2, 0, none⟩) n n xs Hn.out hs2
          have ty := run_text w13 A0 n c0 xs Hn.out (Hs.out.keep b13)
          have tz := run_text w13 (some ⟨g1, 0, none⟩) n n xs Hn.out (HS2.out.keep hb13)
          generalize strOfNums xs = S at *
          have hz0 : (uv 0#32 == 0) = true := rfl
          clear hs2 hb13 r12 b12 HD12 HS2
          go_wp2_with fail
          go_ret
          exact ⟨rfl, b13⟩
        · exact absurd h0 (by decide)
      · go_wp2_with fail
        refine (crash_any HD11.out (by omega) none 0 0 [] rfl (by decide) Src.none_).mono ?_
        rintro e w12 ⟨p', B', M', c', rfl, hb12, hd12⟩
        rw [Nat.zero_min] at hd12
        have HD12 := Lib.hid (show Disk w12 w11.heap.size p' B' M' 20 c' 0 LS (.map []) false 0 from hd12)
        have r12 := r11.keep hb12
        have b12 := b11.trans (hb12.mono b11.size)
        clear r11 HD11 b11 hb12 hd12
        go_wp2_with (refine wpList_loadP (.tmp 14) rfl rfl w3.heap.size rfl Q HQS.out r12 ?_)
        refine (HR.out _ _ _ _ _ _ _ _ _ xs HD12.out b12 Hx.out HB1.out 0#32 (.inl ⟨rfl, rfl⟩)).mono ?_
        rintro e w13 ⟨hb13, ⟨_, g2, rfl, hs2⟩ | ⟨h0, _⟩⟩
        · have b13 := b12.trans (hb13.mono b12.size)
          have tx := run_text w13 (some ⟨g2, 0, none⟩) n n xs Hn.out hs2
          have ty := run_text w13 A0 n c0 xs Hn.out (Hs.out.keep b13)
          generalize strOfNums xs = S at *
          have hby2 : (uv by_ != 0) = true := by unfold bne; rw [hby]; rfl
          have hby3 : ¬ (uv by_ = 0) := by simpa using hby
          clear hs2 hb13 r12 b12 HD12
          go_wp2_with fail
          go_ret
          exact ⟨rfl, b13⟩
        · exact absurd h0 (by decide)
set_option maxRecDepth 100000 in
set_option maxHeartbeats 2000000 in
theorem bturns_out (A0 : Option Addr) (n c0 : Nat) (a b : Int) (w : World) (ht : Tabs w) (hl : n < 4 ∨ 3000 < n) :
    Calls Tryd.prog 5 #[.slice A0 n c0, .int .i64 a, .int .u32 b] w fun e w' => e = .returned (.bool true) ∧ Below w.heap.size w w' := by
  have HT := Lib.hid ht
  clear ht
  rcases Nat.lt_or_ge n 4 with h | h
  · have hd1 : decide ((n : Int) < 4) = true := by simp; omega
    clear hl h
    go_enter Tryd.func5, Tryd.ntmps5
    go_wp2_with fail
    refine (new_any w 9 (by decide) (by decide)).mono ?_
    rintro e w11 ⟨p2, B2, M2, rfl, hb11, hd2⟩
    have HE12 := Lib.hid hd2
    have kc := Lib.run_convert_bytes_const (P := Tryd.prog) w11 23 5 #[.int .u8 120] 1 1 Tryd.underlying23 Tryd.underlying5
    have hb12 : Below w11.heap.size w11 (w11.alloc (.cells #[.int .u8 120] 5 (1, 2))) := (Below.refl _ _).alloc (Nat.le_refl _) _
    have hs12 := lit_src w11 120 5 (1, 2)
    have b13 := hb11.trans (hb12.mono hb11.size)
    have HE13 := Lib.hid (HE12.out.keep hb12)
    have e1 := HE12.out.obj.lt
    have e2 := HE12.out.secs.lt
    have e3 := HE12.out.waits.lt
    clear hb11 hb12 hd2 HE12
    go_wp2_with fail
    refine (one_write HE13.out HT.out.low (HT.out.keep b13) w11.heap.size hs12 ⟨by omega, by omega, by omega⟩).mono ?_
    rintro e w13 ⟨rfl, hb13⟩
    have b14 := b13.trans hb13
    have b14s := b14.size
    clear b13 hb13 HE13 kc hs12
    have HOne := Lib.hid (ofP_sha 2 1 [120])
    have HOl := Lib.hid (show (ofP 2 1 [120]).place = 2 from rfl)
    obtain ⟨O, hO⟩ : ∃ O, ofP 2 1 [120] = O := ⟨_, rfl⟩
    rw [hO] at HOne HOl ⊢
    clear hO
    go_wp2_with (first
      | (refine wpList_allocP 9 rfl rfl rfl ?_; intro w14 r14 hb14 hz14; have b15 := b14.trans (hb14.mono b14.size); clear b14 hb14 hz14)
      | (refine wpList_storeP rfl (.tmp 9) (.tmp 41) rfl w13.heap.size rfl O rfl HOne.out Pt.zero rfl r14 ?_; intro w15 r15 o15; have b16 := b15.trans (o15.below.mono b14s); have cl := row_place r15; rw [HOl.out] at cl; clear b15 o15 r14))
    go_ret
    exact ⟨rfl, b16⟩
  · have hd1 : decide ((n : Int) < 4) = false := by simp; omega
    have hd2 : decide ((3000 : Int) < (n : Int)) = true := by simp; omega
    clear hl h
    go_enter Tryd.func5, Tryd.ntmps5
    go_wp2_with fail
    refine (new_any w 9 (by decide) (by decide)).mono ?_
    rintro e w11 ⟨p2, B2, M2, rfl, hb11, hd2⟩
    have HE12 := Lib.hid hd2
    have kc := Lib.run_convert_bytes_const (P := Tryd.prog) w11 23 5 #[.int .u8 120] 1 1 Tryd.underlying23 Tryd.underlying5
    have hb12 : Below w11.heap.size w11 (w11.alloc (.cells #[.int .u8 120] 5 (1, 2))) := (Below.refl _ _).alloc (Nat.le_refl _) _
    have hs12 := lit_src w11 120 5 (1, 2)
    have b13 := hb11.trans (hb12.mono hb11.size)
    have HE13 := Lib.hid (HE12.out.keep hb12)
    have e1 := HE12.out.obj.lt
    have e2 := HE12.out.secs.lt
    have e3 := HE12.out.waits.lt
    clear hb11 hb12 hd2 HE12
    go_wp2_with fail
    refine (one_write HE13.out HT.out.low (HT.out.keep b13) w11.heap.size hs12 ⟨by omega, by omega, by omega⟩).mono ?_
    rintro e w13 ⟨rfl, hb13⟩
    have b14 := b13.trans hb13
    have b14s := b14.size
    clear b13 hb13 HE13 kc hs12
    have HOne := Lib.hid (ofP_sha 2 1 [120])
    have HOl := Lib.hid (show (ofP 2 1 [120]).place = 2 from rfl)
    obtain ⟨O, hO⟩ : ∃ O, ofP 2 1 [120] = O := ⟨_, rfl⟩
    rw [hO] at HOne HOl ⊢
    clear hO
    go_wp2_with (first
      | (refine wpList_allocP 9 rfl rfl rfl ?_; intro w14 r14 hb14 hz14; have b15 := b14.trans (hb14.mono b14.size); clear b14 hb14 hz14)
      | (refine wpList_storeP rfl (.tmp 9) (.tmp 41) rfl w13.heap.size rfl O rfl HOne.out Pt.zero rfl r14 ?_; intro w15 r15 o15; have b16 := b15.trans (o15.below.mono b14s); have cl := row_place r15; rw [HOl.out] at cl; clear b15 o15 r14))
    go_ret
    exact ⟨rfl, b16⟩
theorem bturns_any (A0 : Option Addr) (n c0 : Nat) (xs : List Int) (a b : Int) (w : World) (ht : Tabs w) (hn : n = xs.length) (hs : Src .u8 w A0 xs) (hx : IsBytes xs) (hb : 0 ≤ b ∧ b ≤ 4294967295) :
    Calls Tryd.prog 5 #[.slice A0 n c0, .int .i64 a, .int .u32 b] w fun e w' => e = .returned (.bool true) ∧ Below w.heap.size w w' := by
  by_cases h : n < 4 ∨ 3000 < n
  · exact bturns_out A0 n c0 a b w ht h
  · have e : b = uv (BitVec.ofInt 32 b) := by
      unfold uv
      rw [BitVec.toNat_ofInt]
      omega
    rw [e]
    exact bturns_mid A0 n c0 xs a (BitVec.ofInt 32 b) w ht hn hs hx (by omega) (by omega)
end Go.Proofs.YtnllladoipcfkaaDoor

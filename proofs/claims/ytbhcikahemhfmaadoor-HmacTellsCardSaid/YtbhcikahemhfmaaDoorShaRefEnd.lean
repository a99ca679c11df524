/- The document's End: the same bytes, for any state, any rest and any 64 constants. -/
import Derived.Test.YtbhcikahemhfmaaDoorShaRefBlock
import Derived.Test.YtbhcikahemhfmaaDoorShaSum
namespace Go.Proofs.YtbhcikahemhfmaaDoor.Sha3
open Go.RowKit

theorem alloc_le {B : Nat} {w : World} (h : B ≤ w.heap.size) (o : Obj) : B ≤ (w.alloc o).heap.size := by
  simp
  omega
theorem own_made_at (w : World) (B g : Nat) (hg : g = w.heap.size) (hB : B ≤ g) : Own (w.alloc (.cells #[] 5)) B (some ⟨g, 0, none⟩) 0 [] := by
  subst hg
  exact own_made w B hB
/-- The rest, its mark, and zeros. -/
def padB (xs : List Int) (j : Nat) : List Int := xs ++ 128 :: zerosI j
theorem padB_length (xs : List Int) (j : Nat) : (padB xs j).length = xs.length + 1 + j := by
  unfold padB
  rw [List.length_append, List.length_cons, zerosI_length]
  omega
theorem padB_next (xs : List Int) (j : Nat) : padB xs j ++ [0] = padB xs (j + 1) := by
  unfold padB zerosI
  rw [List.append_assoc, List.cons_append, ← List.replicate_succ']
theorem padB_none (xs : List Int) : xs ++ [128] = padB xs 0 := rfl
theorem padB_bytes {xs : List Int} (h : IsBytes xs) (j : Nat) : IsBytes (padB xs j) := h.append (IsBytes.cons (by omega) (bytes_zeros _))
/-- The document's blocks behind the rest are the two ways of the plain reckoning. -/
theorem end_blocks (ks hs : List Wd) (q : Qd) (xs : List Int) (h : xs.length ≤ 63) :
    ∃ J m, xs.length + 1 + J + 8 = 64 * m ∧ (m = 1 ∨ (m = 2 ∧ 56 ≤ xs.length)) ∧ laidW (blocksW ks hs (padB xs J ++ lenW (bitsQ q xs.length)) m) = endW ks hs q xs := by
  rcases Nat.lt_or_ge xs.length 56 with h56 | h56
  · refine ⟨55 - xs.length, 1, by omega, .inl rfl, ?_⟩
    unfold endW
    rw [if_pos h56]
    have hl := oneB_length xs (bitsQ q xs.length) h56
    show laidW (blockW ks hs (((oneB xs (bitsQ q xs.length)).drop 0).take 64)) = _
    rw [List.drop_zero, List.take_of_length_le (by omega)]
  · refine ⟨119 - xs.length, 2, by omega, .inr ⟨rfl, h56⟩, ?_⟩
    unfold endW
    rw [if_neg (by omega)]
    have h2 := twoB_length xs h
    have h3 := lastB_length (bitsQ q xs.length)
    have he : padB xs (119 - xs.length) ++ lenW (bitsQ q xs.length) = twoB xs ++ lastB (bitsQ q xs.length) := by
      unfold padB twoB lastB zerosI
      rw [← List.append_assoc, List.append_assoc xs (128 :: List.replicate (63 - xs.length) 0), List.cons_append, List.replicate_append_replicate, show 63 - xs.length + 56 = 119 - xs.length by omega]
    rw [he]
    show laidW (blockW ks (blockW ks hs (((twoB xs ++ lastB (bitsQ q xs.length)).drop 0).take 64)) (((twoB xs ++ lastB (bitsQ q xs.length)).drop 64).take 64)) = _
    rw [List.drop_zero, List.take_append_of_le_length (by omega), List.take_of_length_le (by omega), List.drop_append_of_le_length (by omega), List.drop_eq_nil_of_le (by omega), List.nil_append, List.take_of_length_le (by omega)]
/-- The blocks that the call begins with: the state, the constants, the answer. -/
def ReRows (w : World) (hs ks : List Wd) (n : Qd) (wr : World) : Prop :=
  Row wr w.heap.size 47 (scells hs (uq n)) ∧ Row wr (w.heap.size + 1) 45 (wcells ks) ∧ Row wr (w.heap.size + 1 + 1) 23 (bcells (List.replicate 32 0)) ∧ Below w.heap.size w wr
theorem ReRows.keepB {w wr w' : World} {hs ks : List Wd} {n : Qd} (h : ReRows w hs ks n wr) (hb : Below (w.heap.size + 1 + 1 + 1) wr w') : ReRows w hs ks n w' :=
  ⟨h.1.keepB hb (by omega), h.2.1.keepB hb (by omega), h.2.2.1.keepB hb (by omega), h.2.2.2.trans (hb.mono (by omega))⟩
theorem ReRows.size {w wr : World} {hs ks : List Wd} {n : Qd} (h : ReRows w hs ks n wr) : w.heap.size + 1 + 1 + 1 ≤ wr.heap.size := h.2.2.1.lt
theorem ReRows.keep {w wr w' : World} {hs ks : List Wd} {n : Qd} (h : ReRows w hs ks n wr) (hb : Below wr.heap.size wr w') : ReRows w hs ks n w' := h.keepB (hb.mono h.size)
/-- The row of the call's own, as a block. -/
theorem Own.rowOf {w : World} {A : Option Addr} {xs : List Int} {B c : Nat} (h : Own w B A c xs) (hn : 0 < xs.length) : ∃ g cur, A = some ⟨g, 0, none⟩ ∧ B ≤ g ∧ Row w g 5 cur ∧ xs.length ≤ c ∧ c ≤ maxLen ∧ ∀ i, i < xs.length → cur[i]? = some (.int .u8 (xs.getD i 0)) := by
  rcases h.2 with ⟨hv, h0⟩ | ⟨g, cap, cur, hv, hB, hg, hnc, hcm, _, htake⟩
  · exact absurd h0 (by omega)
  · injection hv with h1 h2 h3
    refine ⟨g, cur, h1, hB, hg, by omega, by omega, fun i hi => ?_⟩
    have := cellsOf_at .u8 xs i hi
    rw [← htake, List.getElem?_take, if_pos (by omega)] at this
    simpa using this
def PdAt (w : World) (hs ks : List Wd) (q : Qd) (xs : List Int) (J : Nat) (v : Value) (wr : World) : Prop :=
  ∃ (j : Nat) (A : Option Addr) (n c : Nat), v = .slice A n c ∧ n = (padB xs j).length ∧ j ≤ J ∧ Own wr (w.heap.size + 1 + 1 + 1) A c (padB xs j) ∧ ReRows w hs ks q wr
def LnAt (w : World) (hs ks : List Wd) (q : Qd) (P l : List Int) (v i : Value) (wr : World) : Prop :=
  ∃ (k : Nat) (A : Option Addr) (n c : Nat) (z : Int), v = .slice A n c ∧ i = .int .i64 z ∧ n = (P ++ l.take k).length ∧ k ≤ 8 ∧ z = 7 - (k : Int) ∧ Own wr (w.heap.size + 1 + 1 + 1) A c (P ++ l.take k) ∧ ReRows w hs ks q wr
def BkAt (w : World) (hs ks : List Wd) (full : List Int) (m g : Nat) (cur : Array Value) (i : Value) (wr : World) : Prop :=
  ∃ (k j : Nat) (qk : Qd), k ≤ m ∧ i = .int .i64 j ∧ 64 * k = j ∧ ReRows w (blocksW ks hs full k) ks qk wr ∧ Row wr g 5 cur
def LdAt (w : World) (hs ks : List Wd) (q : Qd) (out : List Int) (V : Nat) (i : Value) (wr : World) : Prop :=
  ∃ k : Nat, k ≤ 32 ∧ i = .int .i64 k ∧ ReRows w hs ks q wr ∧ Row wr V 23 (bcells (partly out 0 k))
theorem take_next (l : List Int) (k : Nat) (h : k < l.length) : l.take k ++ [l.getD k 0] = l.take (k + 1) := by
  rw [List.take_succ_eq_append_getElem h, List.getD_eq_getElem?_getD, List.getElem?_eq_getElem h]
  rfl
set_option maxRecDepth 100000 in
set_option maxHeartbeats 4000000 in
theorem rend_short (ks hs : List Wd) (q : Qd) (A : Option Addr) (n c : Nat) (xs out : List Int) (J m : Nat) (w : World) (hh : hs.length = 8) (hks : ks.length = 64) (hs0 : Src .u8 w A xs) (hx : IsBytes xs) (hn : n = xs.length) (hl : xs.length ≤ 63)
    (hT : xs.length + 1 + J + 8 = 64 * m) (hm : m = 1 ∨ (m = 2 ∧ 56 ≤ xs.length)) (ho : laidW (blocksW ks hs (padB xs J ++ lenW (bitsQ q xs.length)) m) = out) :
    Calls Tryd.prog 27 #[.agg (scells hs (uq q)), .slice A n c, .agg (wcells ks)] w fun e w' => e = .returned (.agg (bcells out)) ∧ Below w.heap.size w w' := by
  have Hh := Lib.hid hh
  have Hks := Lib.hid hks
  have Hs := Lib.hid hs0
  have Hx := Lib.hid hx
  have HT := Lib.hid hT
  have Hm := Lib.hid hm
  have Hl63 := Lib.hid (show xs.length ≤ 63 by omega)
  have HQ := Lib.hid (show IntKind.u64.wrap (8 * IntKind.u64.wrap (uq q + (n : Int))) = uq (bitsQ q xs.length) from by rw [hn]; exact bits_uq q _)
  have Hn : Hid (n = xs.length) := Lib.hid (by omega)
  generalize bitsQ q xs.length = qb at *
  have Ho := Lib.hid ho
  obtain ⟨r1, r2, r3, hb⟩ := rows3 w (scells hs (uq q)) (wcells ks) (bcells (List.replicate 32 0)) 47 45 23
  have c8 := scells_last hs (uq q) 8 hh
  have hd : decide ((63 : Int) < (n : Int)) = false := by simp; omega
  have hn64 : (n : Int) < 64 := by omega
  clear hn
  have p1 : ReRows w hs ks q _ := ⟨r1, r2, r3, hb⟩
  have P1 := Lib.hid p1
  clear hh hks hs0 hx hT hm ho r2 r3 hb p1
  go_enter Tryd.func27, Tryd.ntmps27
  go_wp2_with (first
    | (at_builtin; (refine wpList_append_src rfl (.tmp 25) (.tmp 26) rfl (w.heap.size + 1 + 1 + 1) _ _ _ [] rfl rfl (own_made_at _ _ _ (by simp) (Nat.le_refl _)) A n c xs rfl Hn.out (Hs.out.keep (P1.out.2.2.2.alloc P1.out.2.2.2.size _)) (by have := Hl63.out; have := Hn.out; simp <;> omega) (alloc_le P1.out.size _) ?_); rintro v w1 ⟨A1, n1, c1, rfl, hn1, ho1, hb0⟩; have hb1 := ((Below.refl _ _).alloc P1.out.size _).trans hb0; have Hn1 := Lib.hid hn1; have Ho1 := Lib.hid ho1; have P2 := Lib.hid (P1.out.keepB hb1); clear hn1 hb0 hb1 ho1 P1)
    | (at_builtin; refine wpList_append_src rfl (.tmp 27) (.tmp 28) rfl (w.heap.size + 1 + 1 + 1) A1 n1 c1 ([] ++ xs) rfl Hn1.out (Ho1.out.keep ((Below.refl _ _).alloc (Nat.le_refl _) _)) _ 1 1 [128] rfl rfl (src_new _ _) (by have := Hl63.out; have := Hn1.out; simp at this; omega) (alloc_le P2.out.size _) ?_; rintro v w2 ⟨A2, n2, c2, rfl, hn2, ho2, hb2⟩; have P3 := Lib.hid (P2.out.keepB (((Below.refl _ _).alloc P2.out.size _).trans hb2)); have Hn2 := Lib.hid hn2; have Ho2 := Lib.hid ho2; clear hn2 ho2 hb2 P2))
  rw [HQ.out]
  have hPd : PdAt w hs ks q xs J (.slice A2 n2 c2) w2 := ⟨0, A2, n2, c2, rfl, Hn2.out, Nat.zero_le _, Ho2.out, P3.out⟩
  clear r1 c8 Hn1 Ho1 Hn2 Ho2 P3 hd hn64
  go_loopw [8] (fun v wr => PdAt w hs ks q xs J v wr) (fun v _ => xs.length + 1 + J - lenOfV v)
  case atStart => exact hPd
  case round =>
    clear hPd
    obtain ⟨j, A3, n3, c3, rfl, hn3, hj, ho3, R⟩ := hrel
    have Hn3 := Lib.hid (hn3.trans (padB_length xs j))
    have Hn4 := Lib.hid hn3
    have Ho3 := Lib.hid ho3
    clear hn3 ho3
    obtain ⟨r, hr⟩ : ∃ r, (n3 : Int) % 64 = r := ⟨_, rfl⟩
    have hr2 : (n3 : Int).tmod 64 = r := by rw [Int.tmod_eq_emod_of_nonneg (by omega)]; exact hr
    have hn3lt : (n3 : Int) < 200 := by have := Hn3.out; have := HT.out; have := Hm.out; omega
    have hz := R.size
    by_cases hjJ : j < J
    · have hne : ¬ r = 56 := by have := Hn3.out; have := HT.out; have := Hm.out; have := Hl63.out; omega
      have hne1 : (r == 56) = false := by simpa using hne
      have hne2 : (r != 56) = true := by simpa using hne
      go_wp2_with (at_builtin; refine wpList_append_src rfl _ _ rfl (w.heap.size + 1 + 1 + 1) A3 n3 c3 (padB xs j) rfl Hn4.out (Ho3.out.keep ((Below.refl _ _).alloc (Nat.le_refl _) _)) _ 1 1 [0] rfl rfl (src_new _ _) (by omega) (by simp; omega) ?_; rintro v w4 ⟨A5, n5, c5, rfl, hn5, ho5, hb5⟩; have Hn5 := Lib.hid hn5; have Ho5 := Lib.hid ho5; have R5 := R.keepB (((Below.refl _ _).alloc hz _).trans hb5); clear hn5 ho5 hb5)
      refine ⟨⟨j + 1, A5, n5, c5, rfl, by rw [← padB_next]; exact Hn5.out, by omega, by rw [← padB_next]; exact Ho5.out, R5⟩, ?_⟩
      have h5 := Hn5.out
      rw [padB_next, padB_length] at h5
      have h3 := Hn3.out
      simp only [lenOfV]
      omega
    · obtain rfl : j = J := by omega
      obtain rfl : r = 56 := by have := Hn3.out; have := HT.out; omega
      have HP := Lib.hid (show (padB xs j).length + 8 = 64 * m by rw [padB_length]; exact HT.out)
      have HPb := Lib.hid (padB_bytes Hx.out j)
      generalize padB xs j = P at *
      have HL := Lib.hid (lenW_length qb)
      have HLb := Lib.hid (bytes_len qb)
      have HLg := Lib.hid (fun (k : Nat) (hk : k < 8) => lenW_getD qb k hk)
      generalize lenW qb = l at *
      go_wp2_with fail
      have hLn : LnAt w hs ks q P l (.slice A3 n3 c3) (.int .i64 7) wr := ⟨0, A3, n3, c3, 7, rfl, rfl, by rw [List.take_zero, List.append_nil]; exact Hn4.out, Nat.zero_le _, by omega, by rw [List.take_zero, List.append_nil]; exact Ho3.out, R⟩
      clear Hn3 Hn4 Ho3 hr hr2 hn3lt hz hjJ hj R
      go_loopw [8, 9] (fun v i wr => LnAt w hs ks q P l v i wr) (fun _ i _ => (intOf i + 1).toNat)
      case atStart => exact hLn
      case round =>
        clear hLn
        obtain ⟨k, A3, n3, c3, z, rfl, rfl, hn3, hk, hzk, ho3, R⟩ := hrel
        have Hn3 := Lib.hid hn3
        have Ho3 := Lib.hid ho3
        have HZ := Lib.hid hzk
        have hn4 : n3 + 8 ≤ 300 := by have := HP.out; have := Hm.out; rw [List.length_append, List.length_take] at hn3; have := HL.out; omega
        clear hn3 ho3 hzk
        have hz := R.size
        by_cases hlt : k < 8
        · obtain ⟨i, hi⟩ : ∃ i : Nat, 7 - k = i := ⟨_, rfl⟩
          obtain rfl : z = (i : Int) := by have := HZ.out; omega
          obtain ⟨j8, hj8⟩ : ∃ j : Nat, 8 * i = j := ⟨_, rfl⟩
          have s8 : 8 * (i : Int) = (j8 : Int) := by omega
          have hj56 : (j8 : Int) < 64 := by omega
          have hi0 : (0 : Int) ≤ (i : Int) := by omega
          have hi8 : (i : Int) < 8 := by omega
          have HV := Lib.hid ((HLg.out k hlt).trans (lenAt_uq qb k j8 (by omega)))
          have HTk := Lib.hid (take_next l k (by rw [HL.out]; exact hlt))
          clear hi hj8
          go_wp2_with (at_builtin; refine wpList_append_src rfl _ _ rfl (w.heap.size + 1 + 1 + 1) A3 n3 c3 (P ++ l.take k) rfl Hn3.out (Ho3.out.keep ((Below.refl _ _).alloc (Nat.le_refl _) _)) _ 1 1 [uq qb / 2 ^ j8 % 256] rfl rfl (src_new _ _) (by omega) (by simp; omega) ?_; rintro v w4 ⟨A5, n5, c5, rfl, hn5, ho5, hb5⟩; have Hn5 := Lib.hid hn5; have Ho5 := Lib.hid ho5; have R5 := R.keepB (((Below.refl _ _).alloc hz _).trans hb5); clear hn5 ho5 hb5)
          refine ⟨⟨k + 1, A5, n5, c5, _, rfl, rfl, by rw [← HTk.out, HV.out, ← List.append_assoc]; exact Hn5.out, by omega, by have := HZ.out; omega, by rw [← HTk.out, HV.out, ← List.append_assoc]; exact Ho5.out, R5⟩, ?_⟩
          simp [intOf]
        · obtain rfl : k = 8 := by omega
          obtain rfl : z = -1 := by have := HZ.out; omega
          have HF := Lib.hid (show P ++ l.take 8 = P ++ l by rw [List.take_of_length_le (by rw [HL.out]; exact Nat.le_refl _)])
          rw [HF.out] at Hn3 Ho3
          have HFl := Lib.hid (show (P ++ l).length = 64 * m by rw [List.length_append, HL.out]; exact HP.out)
          have HFb := Lib.hid (HPb.out.append HLb.out)
          have HFm := Lib.hid (show n3 = 64 * m by rw [← HFl.out]; exact Hn3.out)
          generalize P ++ l = full at *
          clear HF HZ HP
          obtain ⟨g, cur, rfl, hg, rg, hfc, hcm, hcur⟩ := Own.rowOf Ho3.out (by rw [HFl.out]; have := Hm.out; omega)
          have Hcur := Lib.hid hcur
          have HCc := Lib.hid (show n3 ≤ c3 ∧ c3 ≤ 9223372036854775807 by have := Hn3.out; unfold maxLen at hcm; omega)
          clear hcur hfc hcm Ho3
          go_wp2_with fail
          have hBk : BkAt w hs ks full m g cur (.int .i64 0) wr := ⟨0, 0, q, Nat.zero_le _, rfl, rfl, R, rg⟩
          clear R rg hz hlt hk
          go_loopw [10] (fun i wr => BkAt w hs ks full m g cur i wr) (fun i _ => 64 * m - (intOf i).toNat)
          case atStart => exact hBk
          case round =>
            clear hBk
            obtain ⟨k, j, qk, hk, rfl, hj, R, rg⟩ := hrel
            have HJ := Lib.hid hj
            clear hj
            have H8 := Lib.hid (blocksW_length ks hs full Hh.out k)
            by_cases hlt : k < m
            · have HLy := Lib.hid (show ((full.drop (64 * k)).take 64).length = 64 by rw [List.length_take, List.length_drop, HFl.out]; omega)
              have Hby := Lib.hid ((HFb.out.drop (64 * k)).take 64)
              have HB := Lib.hid (show blocksW ks hs full (k + 1) = blockW ks (blocksW ks hs full k) ((full.drop (64 * k)).take 64) from rfl)
              have HC := Lib.hid (fun (i : Nat) (hi : i < 64) => show cur[j + i]? = some (.int .u8 (((full.drop (64 * k)).take 64).getD i 0)) by
                rw [Hcur.out (j + i) (by rw [HFl.out, ← HJ.out]; omega), List.getD_eq_getElem?_getD, List.getD_eq_getElem?_getD, List.getElem?_take, if_pos hi, List.getElem?_drop, HJ.out])
              generalize (full.drop (64 * k)).take 64 = ys at *
              generalize blocksW ks hs full k = hs1 at *
              have hsz := R.2.2.2.size
              have gj : (j : Int) + 64 ≤ (n3 : Int) := by have := HFm.out; have := HJ.out; omega
              have gc : (n3 : Int) ≤ (c3 : Int) := by have := HCc.out; omega
              have gn : (n3 : Int) ≤ 300 := by omega
              obtain ⟨j1, hj1⟩ : ∃ j1 : Nat, j + 64 = j1 := ⟨_, rfl⟩
              have s1 : IntKind.i64.wrap ((j : Int) + 64) = (j1 : Int) := by rw [IntWalk.i64_in _ (by omega)]; omega
              have s2 : (j : Int) + 64 = (j1 : Int) := by omega
              have g1 : (j : Int) ≤ (j1 : Int) := by omega
              have g2 : (j1 : Int) ≤ (c3 : Int) := by omega
              have g3 : (j1 : Int) ≤ (n3 : Int) := by omega
              have gd : decide ((j : Int) < (n3 : Int)) = true := by simp; omega
              have gd2 : decide (j < n3) = true := by simp; omega
              go_wp2_with fail
              refine wp_region_segsT 8 [([1, 2, 3, 4, 5, 0, 6], 7)] [] (by kernel_rfl) (by kernel_rfl) ⟨by kernel_rfl, by decide⟩ (by kernel_rfl) (by kernel_rfl) (fun _ _ d _ _ h => by cases d <;> exact h) ?_
              refine wpSegsT_next (by simp [pickOps]; rfl) ?_
              repeat (go_big_quiet_step (fail))
              refine wpQuiet_load_cells rfl 47 (.tmp 3) rfl w.heap.size 0 rfl (scells hs1 (uq qk)) _ R.1.drew.cells R.1.lt Tryd.underlying47 rfl (by rw [Tryd.size35, scells_size, H8.out]) ?_
              refine wpQuiet_load_cells rfl 45 (.tmp 5) rfl (w.heap.size + 1) 0 rfl (wcells ks) _ R.2.1.drew.cells R.2.1.lt Tryd.underlying45 rfl (by rw [Tryd.size33, wcells_size, Hks.out]) ?_
              refine wpQuiet_nil ?_
              refine wpOp_alone rfl rfl (fun K hK => ?_)
              go_simp
              rw [show j1 - j = 64 by omega]
              refine (rblock_any ks hs1 qk g j (c3 - j) ys wr.drew H8.out HLy.out Hby.out rg.lt (fun i hi => rg.drew.cell (HC.out i hi)) Hks.out).mono ?_
              rintro e w5 ⟨rfl, hb5⟩
              refine hK _ _ ⟨hb5, ?_⟩
              clear hK K
              have R5 : ReRows w hs1 ks qk w5 := ReRows.keep (wr := wr.drew) ⟨R.1, R.2.1, R.2.2.1, R.2.2.2.drew⟩ hb5
              have rg5 := rg.drew.keep hb5
              rw [← HB.out]
              have HB8 := Lib.hid (blocksW_length ks hs full Hh.out (k + 1))
              generalize eH : blocksW ks hs full (k + 1) = hs2 at *
              have EH := Lib.hid eH
              clear eH R hb5 HB rg
              refine wpSegsT_last (by simp [pickOps]; rfl) ?_
              refine wpQuiet_nil ?_
              refine wpOp_alone rfl rfl (fun K hK => ?_)
              refine wp_store_row 47 (.tmp 3) (.tmp 63) rfl w.heap.size (scells hs2 (uq (qk + 64#64))) rfl rfl 47 (scells hs1 (uq qk)) R5.1 (by rw [Tryd.size35, scells_size, HB8.out]) (by rw [scells_size, scells_size, HB8.out, H8.out]) (scells_one _ _) (hK _ _ ?_)
              clear hK K
              have R6 : ReRows w hs2 ks (qk + 64#64) (w5.setRow w.heap.size (scells hs2 (uq (qk + 64#64)))) := ⟨R5.1.setRow _, R5.2.1.otherRow (by omega) _, R5.2.2.1.otherRow (by omega) _, below_setRow R5.2.2.2 (Nat.le_refl _) _⟩
              have rg6 := rg5.otherRow (b := w.heap.size) (by omega) (scells hs2 (uq (qk + 64#64)))
              clear R5 rg5
              generalize w5.setRow w.heap.size (scells hs2 (uq (qk + 64#64))) = w6 at *
              go_wp2_with fail
              refine ⟨⟨k + 1, j1, _, by omega, rfl, by have := HJ.out; omega, by rw [EH.out]; exact R6, rg6⟩, ?_⟩
              have := HJ.out
              simp [intOf]
              omega
            · have HO := Lib.hid (show laidW (blocksW ks hs full k) = out by rw [show k = m by omega]; exact Ho.out)
              have HJn := Lib.hid (show (j : Int) = (n3 : Int) by have := HJ.out; have := HFm.out; omega)
              have hnj : decide ((j : Int) < (n3 : Int)) = false := by simp; have := HJn.out; omega
              have hnj2 : decide (j < n3) = false := by simp; have := HJn.out; omega
              generalize blocksW ks hs full k = hs8 at *
              have HOl := Lib.hid (show out.length = 32 by rw [← HO.out]; exact laidW_length _)
              have HOg := Lib.hid (fun (k : Nat) (hk : k < 32) => show out.getD k 0 = byteAt hs8 k by rw [← HO.out]; exact laidW_getD hs8 k hk)
              clear hlt rg HO Ho Hcur HCc HFb HFl HFm Hn3
              have V2 := Row.new wr 23 (bcells (List.replicate 32 0))
              have R2 : ReRows w hs8 ks qk (wr.alloc (.cells (bcells (List.replicate 32 0)) 23)) := ⟨R.1.old _, R.2.1.old _, R.2.2.1.old _, R.2.2.2.alloc R.2.2.2.size _⟩
              have hV := R.size
              go_wp2_with (refine wpList_store_row rfl 23 (.tmp 11) (.tmp 64) rfl wr.heap.size (bcells (List.replicate 32 0)) rfl rfl 23 (bcells (List.replicate 32 0)) V2 (by rw [Tryd.size23, bcells_size, List.length_replicate]) rfl (bcells_one _) ?_; have V3 := V2.setRow (bcells (List.replicate 32 0)); have R3 : ReRows w hs8 ks qk _ := ⟨R2.1.otherRow (b := wr.heap.size) (by omega) (bcells (List.replicate 32 0)), R2.2.1.otherRow (by omega) _, R2.2.2.1.otherRow (by omega) _, below_setRow R2.2.2.2 (by omega) _⟩; clear V2 R2)
              rw [show #[Value.int IntKind.u8 0, Value.int IntKind.u8 0, Value.int IntKind.u8 0, Value.int IntKind.u8 0, Value.int IntKind.u8 0, Value.int IntKind.u8 0, Value.int IntKind.u8 0, Value.int IntKind.u8 0, Value.int IntKind.u8 0, Value.int IntKind.u8 0, Value.int IntKind.u8 0, Value.int IntKind.u8 0, Value.int IntKind.u8 0, Value.int IntKind.u8 0, Value.int IntKind.u8 0, Value.int IntKind.u8 0, Value.int IntKind.u8 0, Value.int IntKind.u8 0, Value.int IntKind.u8 0, Value.int IntKind.u8 0, Value.int IntKind.u8 0, Value.int IntKind.u8 0, Value.int IntKind.u8 0, Value.int IntKind.u8 0, Value.int IntKind.u8 0, Value.int IntKind.u8 0, Value.int IntKind.u8 0, Value.int IntKind.u8 0, Value.int IntKind.u8 0, Value.int IntKind.u8 0, Value.int IntKind.u8 0, Value.int IntKind.u8 0] = bcells (List.replicate 32 0) from rfl]
              rw [show ([0, 0, 0, 0, 0, 0, 0, 0, 0, 0, 0, 0, 0, 0, 0, 0, 0, 0, 0, 0, 0, 0, 0, 0, 0, 0, 0, 0, 0, 0, 0, 0] : List Int) = List.replicate 32 0 from rfl]
              clear R
              generalize (wr.alloc (.cells (bcells (List.replicate 32 0)) 23)).setRow wr.heap.size (bcells (List.replicate 32 0)) = w8 at *
              generalize wr.heap.size = V at *
              go_loopw [12] (fun i wr => LdAt w hs8 ks qk out V i wr) (fun i _ => 32 - (intOf i).toNat)
              case atStart => exact ⟨0, Nat.zero_le _, rfl, R3, by rw [partly_none, HOl.out]; exact V3⟩
              case round =>
                clear R3 V3
                obtain ⟨k2, hk2, rfl, R, rv⟩ := hrel
                by_cases hk32 : k2 < 32
                · obtain ⟨a, ha⟩ : ∃ a : Nat, k2 / 4 = a := ⟨_, rfl⟩
                  obtain ⟨b4, hb4⟩ : ∃ b : Nat, k2 % 4 = b := ⟨_, rfl⟩
                  obtain ⟨b8, hb8⟩ : ∃ b : Nat, 8 * b4 = b := ⟨_, rfl⟩
                  obtain ⟨sh, hsh⟩ : ∃ b : Nat, 24 - b8 = b := ⟨_, rfl⟩
                  have ca := R.1.cell (scells_at hs8 (uq qk) a (by rw [H8.out]; omega))
                  have HV := Lib.hid (show out.getD k2 0 = uv (hs8.getD a 0#32) / 2 ^ sh % 256 by
                    rw [HOg.out k2 hk32]
                    unfold byteAt uv
                    rw [ha, hb4, hb8, hsh, BitVec.toNat_ushiftRight, Nat.shiftRight_eq_div_pow, Int.natCast_emod, Int.natCast_ediv]
                    simp)
                  generalize hs8.getD a 0#32 = x at *
                  have cv := rv.cell (bcells_at (partly out 0 k2) k2 (by rw [partly_length, HOl.out]; exact hk32))
                  have fv := rv.free k2
                  have e1 : (k2 : Int) / 4 = (a : Int) := by omega
                  have e2 : (k2 : Int).tdiv 4 = (a : Int) := by rw [Int.tdiv_eq_ediv_of_nonneg (by omega)]; omega
                  have e3 : (k2 : Int) % 4 = (b4 : Int) := by omega
                  have e4 : (k2 : Int).tmod 4 = (b4 : Int) := by rw [Int.tmod_eq_emod_of_nonneg (by omega)]; omega
                  have e5 : 8 * (b4 : Int) = (b8 : Int) := by omega
                  have e6 : 24 - (b8 : Int) = (sh : Int) := by omega
                  have g1 : (a : Int) < 8 := by omega
                  have g2 : (b4 : Int) < 4 := by omega
                  have g3 : (b8 : Int) ≤ 24 := by omega
                  have g4 : (sh : Int) ≤ 24 := by omega
                  have g5 : (k2 : Int) < 32 := by omega
                  clear ha hb4 hb8 hsh
                  go_wp2_with fail
                  refine ⟨⟨k2 + 1, by omega, by go_num, ⟨R.1.other (by omega) _ _, R.2.1.other (by omega) _ _, R.2.2.1.other (by omega) _ _, R.2.2.2.setCell (p := ⟨V, k2, none⟩) (by show w.heap.size ≤ V; omega) _⟩, brow_next rv (by rw [HOl.out]; exact hk32) HV.out⟩, ?_⟩
                  simp [intOf]; omega
                · obtain rfl : k2 = 32 := by omega
                  rw [show ((32 : Nat) : Int) = (32 : Int) from rfl]
                  rw [partly_all out _ _ (by rw [HOl.out]; exact Nat.le_refl _)] at rv
                  have rs := R.2.2.1
                  have rb := R.2.2.2
                  clear R
                  go_wp2_with (first
                    | (refine wpList_load_cells rfl 23 (.tmp 11) rfl V 0 rfl (bcells out) _ rv.cells Tryd.underlying23 rfl (by rw [Tryd.size23, bcells_size, HOl.out]) ?_)
                    | (refine wpList_store_row rfl 23 (.tmp 6) (.tmp 83) rfl (w.heap.size + 1 + 1) (bcells out) rfl rfl 23 (bcells (List.replicate 32 0)) rs (by rw [Tryd.size23, bcells_size, HOl.out]) (by rw [bcells_size, bcells_size, HOl.out, List.length_replicate]) (bcells_one _) ?_))
                  refine bodyPost_ret (v := .agg (bcells out)) ?_ rfl ?_
                  · exact results_cell_row Tryd.results27 _ _ (w.heap.size + 1 + 1) 23 (bcells out) (0, 0) _ rfl (rs.setRow _) Tryd.underlying23 rfl (by rw [Tryd.size23, bcells_size, HOl.out])
                  · exact ⟨rfl, below_setRow rb (by omega) _⟩
set_option maxRecDepth 100000 in
set_option maxHeartbeats 4000000 in
theorem rend_long (ks hs : List Wd) (q : Qd) (b o n c : Nat) (xs out : List Int) (J m : Nat) (w : World) (hh : hs.length = 8) (hks : ks.length = 64) (hs0 : Src .u8 w (some ⟨b, o, none⟩) xs) (hx : IsBytes xs) (hl : 63 = xs.length) (hn : 63 < n) (hnc : n ≤ c) (hc : c ≤ 9223372036854775807)
    (hT : xs.length + 1 + J + 8 = 64 * m) (hm : m = 1 ∨ (m = 2 ∧ 56 ≤ xs.length)) (ho : laidW (blocksW ks hs (padB xs J ++ lenW (bitsQ q xs.length)) m) = out) :
    Calls Tryd.prog 27 #[.agg (scells hs (uq q)), .slice (some ⟨b, o, none⟩) n c, .agg (wcells ks)] w fun e w' => e = .returned (.agg (bcells out)) ∧ Below w.heap.size w w' := by
  have Hh := Lib.hid hh
  have Hks := Lib.hid hks
  have Hs := Lib.hid hs0
  have Hx := Lib.hid hx
  have HT := Lib.hid hT
  have Hm := Lib.hid hm
  have Hl63 := Lib.hid (show xs.length ≤ 63 by omega)
  have HQ := Lib.hid (show IntKind.u64.wrap (8 * IntKind.u64.wrap (uq q + 63)) = uq (bitsQ q xs.length) from by rw [← hl]; exact bits_uq q _)
  have Hn : Hid (63 = xs.length) := Lib.hid (by omega)
  generalize bitsQ q xs.length = qb at *
  have Ho := Lib.hid ho
  obtain ⟨r1, r2, r3, hb⟩ := rows3 w (scells hs (uq q)) (wcells ks) (bcells (List.replicate 32 0)) 47 45 23
  have c8 := scells_last hs (uq q) 8 hh
  have hd : decide ((63 : Int) < (n : Int)) = true := by simp; omega
  have hn64 : (63 : Int) ≤ (c : Int) := by omega
  have hcm : (c : Int) ≤ 9223372036854775807 := by omega
  clear hl hn hnc hc
  have p1 : ReRows w hs ks q _ := ⟨r1, r2, r3, hb⟩
  have P1 := Lib.hid p1
  clear hh hks hs0 hx hT hm ho r2 r3 hb p1
  go_enter Tryd.func27, Tryd.ntmps27
  go_wp2_with (first
    | (at_builtin; (refine wpList_append_src rfl (.tmp 25) (.tmp 26) rfl (w.heap.size + 1 + 1 + 1) _ _ _ [] rfl rfl (own_made_at _ _ _ (by simp) (Nat.le_refl _)) (some ⟨b, o, none⟩) 63 c xs rfl Hn.out (Hs.out.keep (P1.out.2.2.2.alloc P1.out.2.2.2.size _)) (by have := Hl63.out; have := Hn.out; simp <;> omega) (alloc_le P1.out.size _) ?_); rintro v w1 ⟨A1, n1, c1, rfl, hn1, ho1, hb0⟩; have hb1 := ((Below.refl _ _).alloc P1.out.size _).trans hb0; have Hn1 := Lib.hid hn1; have Ho1 := Lib.hid ho1; have P2 := Lib.hid (P1.out.keepB hb1); clear hn1 hb0 hb1 ho1 P1)
    | (at_builtin; refine wpList_append_src rfl (.tmp 27) (.tmp 28) rfl (w.heap.size + 1 + 1 + 1) A1 n1 c1 ([] ++ xs) rfl Hn1.out (Ho1.out.keep ((Below.refl _ _).alloc (Nat.le_refl _) _)) _ 1 1 [128] rfl rfl (src_new _ _) (by have := Hl63.out; have := Hn1.out; simp at this; omega) (alloc_le P2.out.size _) ?_; rintro v w2 ⟨A2, n2, c2, rfl, hn2, ho2, hb2⟩; have P3 := Lib.hid (P2.out.keepB (((Below.refl _ _).alloc P2.out.size _).trans hb2)); have Hn2 := Lib.hid hn2; have Ho2 := Lib.hid ho2; clear hn2 ho2 hb2 P2))
  rw [HQ.out]
  have hPd : PdAt w hs ks q xs J (.slice A2 n2 c2) w2 := ⟨0, A2, n2, c2, rfl, Hn2.out, Nat.zero_le _, Ho2.out, P3.out⟩
  clear r1 c8 Hn1 Ho1 Hn2 Ho2 P3 hd hn64 hcm
  go_loopw [8] (fun v wr => PdAt w hs ks q xs J v wr) (fun v _ => xs.length + 1 + J - lenOfV v)
  case atStart => exact hPd
  case round =>
    clear hPd
    obtain ⟨j, A3, n3, c3, rfl, hn3, hj, ho3, R⟩ := hrel
    have Hn3 := Lib.hid (hn3.trans (padB_length xs j))
    have Hn4 := Lib.hid hn3
    have Ho3 := Lib.hid ho3
    clear hn3 ho3
    obtain ⟨r, hr⟩ : ∃ r, (n3 : Int) % 64 = r := ⟨_, rfl⟩
    have hr2 : (n3 : Int).tmod 64 = r := by rw [Int.tmod_eq_emod_of_nonneg (by omega)]; exact hr
    have hn3lt : (n3 : Int) < 200 := by have := Hn3.out; have := HT.out; have := Hm.out; omega
    have hz := R.size
    by_cases hjJ : j < J
    · have hne : ¬ r = 56 := by have := Hn3.out; have := HT.out; have := Hm.out; have := Hl63.out; omega
      have hne1 : (r == 56) = false := by simpa using hne
      have hne2 : (r != 56) = true := by simpa using hne
      go_wp2_with (at_builtin; refine wpList_append_src rfl _ _ rfl (w.heap.size + 1 + 1 + 1) A3 n3 c3 (padB xs j) rfl Hn4.out (Ho3.out.keep ((Below.refl _ _).alloc (Nat.le_refl _) _)) _ 1 1 [0] rfl rfl (src_new _ _) (by omega) (by simp; omega) ?_; rintro v w4 ⟨A5, n5, c5, rfl, hn5, ho5, hb5⟩; have Hn5 := Lib.hid hn5; have Ho5 := Lib.hid ho5; have R5 := R.keepB (((Below.refl _ _).alloc hz _).trans hb5); clear hn5 ho5 hb5)
      refine ⟨⟨j + 1, A5, n5, c5, rfl, by rw [← padB_next]; exact Hn5.out, by omega, by rw [← padB_next]; exact Ho5.out, R5⟩, ?_⟩
      have h5 := Hn5.out
      rw [padB_next, padB_length] at h5
      have h3 := Hn3.out
      simp only [lenOfV]
      omega
    · obtain rfl : j = J := by omega
      obtain rfl : r = 56 := by have := Hn3.out; have := HT.out; omega
      have HP := Lib.hid (show (padB xs j).length + 8 = 64 * m by rw [padB_length]; exact HT.out)
      have HPb := Lib.hid (padB_bytes Hx.out j)
      generalize padB xs j = P at *
      have HL := Lib.hid (lenW_length qb)
      have HLb := Lib.hid (bytes_len qb)
      have HLg := Lib.hid (fun (k : Nat) (hk : k < 8) => lenW_getD qb k hk)
      generalize lenW qb = l at *
      go_wp2_with fail
      have hLn : LnAt w hs ks q P l (.slice A3 n3 c3) (.int .i64 7) wr := ⟨0, A3, n3, c3, 7, rfl, rfl, by rw [List.take_zero, List.append_nil]; exact Hn4.out, Nat.zero_le _, by omega, by rw [List.take_zero, List.append_nil]; exact Ho3.out, R⟩
      clear Hn3 Hn4 Ho3 hr hr2 hn3lt hz hjJ hj R
      go_loopw [8, 9] (fun v i wr => LnAt w hs ks q P l v i wr) (fun _ i _ => (intOf i + 1).toNat)
      case atStart => exact hLn
      case round =>
        clear hLn
        obtain ⟨k, A3, n3, c3, z, rfl, rfl, hn3, hk, hzk, ho3, R⟩ := hrel
        have Hn3 := Lib.hid hn3
        have Ho3 := Lib.hid ho3
        have HZ := Lib.hid hzk
        have hn4 : n3 + 8 ≤ 300 := by have := HP.out; have := Hm.out; rw [List.length_append, List.length_take] at hn3; have := HL.out; omega
        clear hn3 ho3 hzk
        have hz := R.size
        by_cases hlt : k < 8
        · obtain ⟨i, hi⟩ : ∃ i : Nat, 7 - k = i := ⟨_, rfl⟩
          obtain rfl : z = (i : Int) := by have := HZ.out; omega
          obtain ⟨j8, hj8⟩ : ∃ j : Nat, 8 * i = j := ⟨_, rfl⟩
          have s8 : 8 * (i : Int) = (j8 : Int) := by omega
          have hj56 : (j8 : Int) < 64 := by omega
          have hi0 : (0 : Int) ≤ (i : Int) := by omega
          have hi8 : (i : Int) < 8 := by omega
          have HV := Lib.hid ((HLg.out k hlt).trans (lenAt_uq qb k j8 (by omega)))
          have HTk := Lib.hid (take_next l k (by rw [HL.out]; exact hlt))
          clear hi hj8
          go_wp2_with (at_builtin; refine wpList_append_src rfl _ _ rfl (w.heap.size + 1 + 1 + 1) A3 n3 c3 (P ++ l.take k) rfl Hn3.out (Ho3.out.keep ((Below.refl _ _).alloc (Nat.le_refl _) _)) _ 1 1 [uq qb / 2 ^ j8 % 256] rfl rfl (src_new _ _) (by omega) (by simp; omega) ?_; rintro v w4 ⟨A5, n5, c5, rfl, hn5, ho5, hb5⟩; have Hn5 := Lib.hid hn5; have Ho5 := Lib.hid ho5; have R5 := R.keepB (((Below.refl _ _).alloc hz _).trans hb5); clear hn5 ho5 hb5)
          refine ⟨⟨k + 1, A5, n5, c5, _, rfl, rfl, by rw [← HTk.out, HV.out, ← List.append_assoc]; exact Hn5.out, by omega, by have := HZ.out; omega, by rw [← HTk.out, HV.out, ← List.append_assoc]; exact Ho5.out, R5⟩, ?_⟩
          simp [intOf]
        · obtain rfl : k = 8 := by omega
          obtain rfl : z = -1 := by have := HZ.out; omega
          have HF := Lib.hid (show P ++ l.take 8 = P ++ l by rw [List.take_of_length_le (by rw [HL.out]; exact Nat.le_refl _)])
          rw [HF.out] at Hn3 Ho3
          have HFl := Lib.hid (show (P ++ l).length = 64 * m by rw [List.length_append, HL.out]; exact HP.out)
          have HFb := Lib.hid (HPb.out.append HLb.out)
          have HFm := Lib.hid (show n3 = 64 * m by rw [← HFl.out]; exact Hn3.out)
          generalize P ++ l = full at *
          clear HF HZ HP
          obtain ⟨g, cur, rfl, hg, rg, hfc, hcm, hcur⟩ := Own.rowOf Ho3.out (by rw [HFl.out]; have := Hm.out; omega)
          have Hcur := Lib.hid hcur
          have HCc := Lib.hid (show n3 ≤ c3 ∧ c3 ≤ 9223372036854775807 by have := Hn3.out; unfold maxLen at hcm; omega)
          clear hcur hfc hcm Ho3
          go_wp2_with fail
          have hBk : BkAt w hs ks full m g cur (.int .i64 0) wr := ⟨0, 0, q, Nat.zero_le _, rfl, rfl, R, rg⟩
          clear R rg hz hlt hk
          go_loopw [10] (fun i wr => BkAt w hs ks full m g cur i wr) (fun i _ => 64 * m - (intOf i).toNat)
          case atStart => exact hBk
          case round =>
            clear hBk
            obtain ⟨k, j, qk, hk, rfl, hj, R, rg⟩ := hrel
            have HJ := Lib.hid hj
            clear hj
            have H8 := Lib.hid (blocksW_length ks hs full Hh.out k)
            by_cases hlt : k < m
            · have HLy := Lib.hid (show ((full.drop (64 * k)).take 64).length = 64 by rw [List.length_take, List.length_drop, HFl.out]; omega)
              have Hby := Lib.hid ((HFb.out.drop (64 * k)).take 64)
              have HB := Lib.hid (show blocksW ks hs full (k + 1) = blockW ks (blocksW ks hs full k) ((full.drop (64 * k)).take 64) from rfl)
              have HC := Lib.hid (fun (i : Nat) (hi : i < 64) => show cur[j + i]? = some (.int .u8 (((full.drop (64 * k)).take 64).getD i 0)) by
                rw [Hcur.out (j + i) (by rw [HFl.out, ← HJ.out]; omega), List.getD_eq_getElem?_getD, List.getD_eq_getElem?_getD, List.getElem?_take, if_pos hi, List.getElem?_drop, HJ.out])
              generalize (full.drop (64 * k)).take 64 = ys at *
              generalize blocksW ks hs full k = hs1 at *
              have hsz := R.2.2.2.size
              have gj : (j : Int) + 64 ≤ (n3 : Int) := by have := HFm.out; have := HJ.out; omega
              have gc : (n3 : Int) ≤ (c3 : Int) := by have := HCc.out; omega
              have gn : (n3 : Int) ≤ 300 := by omega
              obtain ⟨j1, hj1⟩ : ∃ j1 : Nat, j + 64 = j1 := ⟨_, rfl⟩
              have s1 : IntKind.i64.wrap ((j : Int) + 64) = (j1 : Int) := by rw [IntWalk.i64_in _ (by omega)]; omega
              have s2 : (j : Int) + 64 = (j1 : Int) := by omega
              have g1 : (j : Int) ≤ (j1 : Int) := by omega
              have g2 : (j1 : Int) ≤ (c3 : Int) := by omega
              have g3 : (j1 : Int) ≤ (n3 : Int) := by omega
              have gd : decide ((j : Int) < (n3 : Int)) = true := by simp; omega
              have gd2 : decide (j < n3) = true := by simp; omega
              go_wp2_with fail
              refine wp_region_segsT 8 [([1, 2, 3, 4, 5, 0, 6], 7)] [] (by kernel_rfl) (by kernel_rfl) ⟨by kernel_rfl, by decide⟩ (by kernel_rfl) (by kernel_rfl) (fun _ _ d _ _ h => by cases d <;> exact h) ?_
              refine wpSegsT_next (by simp [pickOps]; rfl) ?_
              repeat (go_big_quiet_step (fail))
              refine wpQuiet_load_cells rfl 47 (.tmp 3) rfl w.heap.size 0 rfl (scells hs1 (uq qk)) _ R.1.drew.cells R.1.lt Tryd.underlying47 rfl (by rw [Tryd.size35, scells_size, H8.out]) ?_
              refine wpQuiet_load_cells rfl 45 (.tmp 5) rfl (w.heap.size + 1) 0 rfl (wcells ks) _ R.2.1.drew.cells R.2.1.lt Tryd.underlying45 rfl (by rw [Tryd.size33, wcells_size, Hks.out]) ?_
              refine wpQuiet_nil ?_
              refine wpOp_alone rfl rfl (fun K hK => ?_)
              go_simp
              rw [show j1 - j = 64 by omega]
              refine (rblock_any ks hs1 qk g j (c3 - j) ys wr.drew H8.out HLy.out Hby.out rg.lt (fun i hi => rg.drew.cell (HC.out i hi)) Hks.out).mono ?_
              rintro e w5 ⟨rfl, hb5⟩
              refine hK _ _ ⟨hb5, ?_⟩
              clear hK K
              have R5 : ReRows w hs1 ks qk w5 := ReRows.keep (wr := wr.drew) ⟨R.1, R.2.1, R.2.2.1, R.2.2.2.drew⟩ hb5
              have rg5 := rg.drew.keep hb5
              rw [← HB.out]
              have HB8 := Lib.hid (blocksW_length ks hs full Hh.out (k + 1))
              generalize eH : blocksW ks hs full (k + 1) = hs2 at *
              have EH := Lib.hid eH
              clear eH R hb5 HB rg
              refine wpSegsT_last (by simp [pickOps]; rfl) ?_
              refine wpQuiet_nil ?_
              refine wpOp_alone rfl rfl (fun K hK => ?_)
              refine wp_store_row 47 (.tmp 3) (.tmp 63) rfl w.heap.size (scells hs2 (uq (qk + 64#64))) rfl rfl 47 (scells hs1 (uq qk)) R5.1 (by rw [Tryd.size35, scells_size, HB8.out]) (by rw [scells_size, scells_size, HB8.out, H8.out]) (scells_one _ _) (hK _ _ ?_)
              clear hK K
              have R6 : ReRows w hs2 ks (qk + 64#64) (w5.setRow w.heap.size (scells hs2 (uq (qk + 64#64)))) := ⟨R5.1.setRow _, R5.2.1.otherRow (by omega) _, R5.2.2.1.otherRow (by omega) _, below_setRow R5.2.2.2 (Nat.le_refl _) _⟩
              have rg6 := rg5.otherRow (b := w.heap.size) (by omega) (scells hs2 (uq (qk + 64#64)))
              clear R5 rg5
              generalize w5.setRow w.heap.size (scells hs2 (uq (qk + 64#64))) = w6 at *
              go_wp2_with fail
              refine ⟨⟨k + 1, j1, _, by omega, rfl, by have := HJ.out; omega, by rw [EH.out]; exact R6, rg6⟩, ?_⟩
              have := HJ.out
              simp [intOf]
              omega
            · have HO := Lib.hid (show laidW (blocksW ks hs full k) = out by rw [show k = m by omega]; exact Ho.out)
              have HJn := Lib.hid (show (j : Int) = (n3 : Int) by have := HJ.out; have := HFm.out; omega)
              have hnj : decide ((j : Int) < (n3 : Int)) = false := by simp; have := HJn.out; omega
              have hnj2 : decide (j < n3) = false := by simp; have := HJn.out; omega
              generalize blocksW ks hs full k = hs8 at *
              have HOl := Lib.hid (show out.length = 32 by rw [← HO.out]; exact laidW_length _)
              have HOg := Lib.hid (fun (k : Nat) (hk : k < 32) => show out.getD k 0 = byteAt hs8 k by rw [← HO.out]; exact laidW_getD hs8 k hk)
              clear hlt rg HO Ho Hcur HCc HFb HFl HFm Hn3
              have V2 := Row.new wr 23 (bcells (List.replicate 32 0))
              have R2 : ReRows w hs8 ks qk (wr.alloc (.cells (bcells (List.replicate 32 0)) 23)) := ⟨R.1.old _, R.2.1.old _, R.2.2.1.old _, R.2.2.2.alloc R.2.2.2.size _⟩
              have hV := R.size
              go_wp2_with (refine wpList_store_row rfl 23 (.tmp 11) (.tmp 64) rfl wr.heap.size (bcells (List.replicate 32 0)) rfl rfl 23 (bcells (List.replicate 32 0)) V2 (by rw [Tryd.size23, bcells_size, List.length_replicate]) rfl (bcells_one _) ?_; have V3 := V2.setRow (bcells (List.replicate 32 0)); have R3 : ReRows w hs8 ks qk _ := ⟨R2.1.otherRow (b := wr.heap.size) (by omega) (bcells (List.replicate 32 0)), R2.2.1.otherRow (by omega) _, R2.2.2.1.otherRow (by omega) _, below_setRow R2.2.2.2 (by omega) _⟩; clear V2 R2)
              rw [show #[Value.int IntKind.u8 0, Value.int IntKind.u8 0, Value.int IntKind.u8 0, Value.int IntKind.u8 0, Value.int IntKind.u8 0, Value.int IntKind.u8 0, Value.int IntKind.u8 0, Value.int IntKind.u8 0, Value.int IntKind.u8 0, Value.int IntKind.u8 0, Value.int IntKind.u8 0, Value.int IntKind.u8 0, Value.int IntKind.u8 0, Value.int IntKind.u8 0, Value.int IntKind.u8 0, Value.int IntKind.u8 0, Value.int IntKind.u8 0, Value.int IntKind.u8 0, Value.int IntKind.u8 0, Value.int IntKind.u8 0, Value.int IntKind.u8 0, Value.int IntKind.u8 0, Value.int IntKind.u8 0, Value.int IntKind.u8 0, Value.int IntKind.u8 0, Value.int IntKind.u8 0, Value.int IntKind.u8 0, Value.int IntKind.u8 0, Value.int IntKind.u8 0, Value.int IntKind.u8 0, Value.int IntKind.u8 0, Value.int IntKind.u8 0] = bcells (List.replicate 32 0) from rfl]
              rw [show ([0, 0, 0, 0, 0, 0, 0, 0, 0, 0, 0, 0, 0, 0, 0, 0, 0, 0, 0, 0, 0, 0, 0, 0, 0, 0, 0, 0, 0, 0, 0, 0] : List Int) = List.replicate 32 0 from rfl]
              clear R
              generalize (wr.alloc (.cells (bcells (List.replicate 32 0)) 23)).setRow wr.heap.size (bcells (List.replicate 32 0)) = w8 at *
              generalize wr.heap.size = V at *
              go_loopw [12] (fun i wr => LdAt w hs8 ks qk out V i wr) (fun i _ => 32 - (intOf i).toNat)
              case atStart => exact ⟨0, Nat.zero_le _, rfl, R3, by rw [partly_none, HOl.out]; exact V3⟩
              case round =>
                clear R3 V3
                obtain ⟨k2, hk2, rfl, R, rv⟩ := hrel
                by_cases hk32 : k2 < 32
                · obtain ⟨a, ha⟩ : ∃ a : Nat, k2 / 4 = a := ⟨_, rfl⟩
                  obtain ⟨b4, hb4⟩ : ∃ b : Nat, k2 % 4 = b := ⟨_, rfl⟩
                  obtain ⟨b8, hb8⟩ : ∃ b : Nat, 8 * b4 = b := ⟨_, rfl⟩
                  obtain ⟨sh, hsh⟩ : ∃ b : Nat, 24 - b8 = b := ⟨_, rfl⟩
                  have ca := R.1.cell (scells_at hs8 (uq qk) a (by rw [H8.out]; omega))
                  have HV := Lib.hid (show out.getD k2 0 = uv (hs8.getD a 0#32) / 2 ^ sh % 256 by
                    rw [HOg.out k2 hk32]
                    unfold byteAt uv
                    rw [ha, hb4, hb8, hsh, BitVec.toNat_ushiftRight, Nat.shiftRight_eq_div_pow, Int.natCast_emod, Int.natCast_ediv]
                    simp)
                  generalize hs8.getD a 0#32 = x at *
                  have cv := rv.cell (bcells_at (partly out 0 k2) k2 (by rw [partly_length, HOl.out]; exact hk32))
                  have fv := rv.free k2
                  have e1 : (k2 : Int) / 4 = (a : Int) := by omega
                  have e2 : (k2 : Int).tdiv 4 = (a : Int) := by rw [Int.tdiv_eq_ediv_of_nonneg (by omega)]; omega
                  have e3 : (k2 : Int) % 4 = (b4 : Int) := by omega
                  have e4 : (k2 : Int).tmod 4 = (b4 : Int) := by rw [Int.tmod_eq_emod_of_nonneg (by omega)]; omega
                  have e5 : 8 * (b4 : Int) = (b8 : Int) := by omega
                  have e6 : 24 - (b8 : Int) = (sh : Int) := by omega
                  have g1 : (a : Int) < 8 := by omega
                  have g2 : (b4 : Int) < 4 := by omega
                  have g3 : (b8 : Int) ≤ 24 := by omega
                  have g4 : (sh : Int) ≤ 24 := by omega
                  have g5 : (k2 : Int) < 32 := by omega
                  clear ha hb4 hb8 hsh
                  go_wp2_with fail
                  refine ⟨⟨k2 + 1, by omega, by go_num, ⟨R.1.other (by omega) _ _, R.2.1.other (by omega) _ _, R.2.2.1.other (by omega) _ _, R.2.2.2.setCell (p := ⟨V, k2, none⟩) (by show w.heap.size ≤ V; omega) _⟩, brow_next rv (by rw [HOl.out]; exact hk32) HV.out⟩, ?_⟩
                  simp [intOf]; omega
                · obtain rfl : k2 = 32 := by omega
                  rw [show ((32 : Nat) : Int) = (32 : Int) from rfl]
                  rw [partly_all out _ _ (by rw [HOl.out]; exact Nat.le_refl _)] at rv
                  have rs := R.2.2.1
                  have rb := R.2.2.2
                  clear R
                  go_wp2_with (first
                    | (refine wpList_load_cells rfl 23 (.tmp 11) rfl V 0 rfl (bcells out) _ rv.cells Tryd.underlying23 rfl (by rw [Tryd.size23, bcells_size, HOl.out]) ?_)
                    | (refine wpList_store_row rfl 23 (.tmp 6) (.tmp 83) rfl (w.heap.size + 1 + 1) (bcells out) rfl rfl 23 (bcells (List.replicate 32 0)) rs (by rw [Tryd.size23, bcells_size, HOl.out]) (by rw [bcells_size, bcells_size, HOl.out, List.length_replicate]) (bcells_one _) ?_))
                  refine bodyPost_ret (v := .agg (bcells out)) ?_ rfl ?_
                  · exact results_cell_row Tryd.results27 _ _ (w.heap.size + 1 + 1) 23 (bcells out) (0, 0) _ rfl (rs.setRow _) Tryd.underlying23 rfl (by rw [Tryd.size23, bcells_size, HOl.out])
                  · exact ⟨rfl, below_setRow rb (by omega) _⟩
end Go.Proofs.YtbhcikahemhfmaaDoor.Sha3

/- HmacChains' walk: any parts have, by any key, the document's chain; any two codes are alike, or not. -/
import Derived.Test.YtbhcikahemhfmaaDoorHmRef
import Derived.Test.YtbhcikahemhfmaaDoorDrawT
import Derived.Lib.SlBytesConst
import Derived.Laws.StructEq
namespace Go.Proofs.YtbhcikahemhfmaaDoor.Sha3.Hm
open Go.RowKit

instance turnsBelow (B : Nat) : Turns (Below B) := ⟨fun w => Below.refl B w, fun h k => h.trans k⟩
theorem kay_bytes : IsBytes [107] := by
  intro x hx
  simp at hx
  omega
theorem kay_src (w : World) : Src .u8 (w.alloc (.cells #[.int .u8 107] 5 (1, 2))) (some ⟨w.heap.size, 0, none⟩) [107] := fun _ =>
  ⟨w.heap.size, 0, rfl, by simp, fun i hi => by
    rw [Nat.zero_add]
    exact (cell_of_row _ _ i _ 5 (1, 2) (heap_alloc_new w _)).trans (bcells_at [107] i hi)⟩
theorem no_strs (w : World) : StrSrc w none [] := fun h => absurd h (by simp)
/-- The code of no parts, by k, is k. -/
theorem kay_chain (h0 ks : List Wd) (w : World) (hh : h0.length = 8) (ht : Tab w h0 ks) (hks : ks.length = 64) :
    Calls Tryd.prog 10 #[.slice (some ⟨w.heap.size, 0, none⟩) 1 1, .slice none 0 0] (w.alloc (.cells #[.int .u8 107] 5 (1, 2))) fun e w' => ∃ A c, e = .returned (.slice A 1 c) ∧ Below w.heap.size w w' ∧ Below w.heap.size (w.alloc (.cells #[.int .u8 107] 5 (1, 2))) w' := by
  have b1 : Below w.heap.size w (w.alloc (.cells #[.int .u8 107] 5 (1, 2))) := (Below.refl _ _).alloc (Nat.le_refl _) _
  refine (chain_any h0 ks (some ⟨w.heap.size, 0, none⟩) 1 1 [107] none 0 0 [] _ hh (ht.keep b1) hks rfl (kay_src w) kay_bytes (by omega) rfl (no_strs _) (fun i hi => absurd hi (by simp)) (by omega)).mono ?_
  rintro e w' ⟨A, n, c, rfl, hn, _, _, _, hb⟩
  obtain rfl : n = 1 := hn
  exact ⟨A, c, rfl, b1.trans (hb.mono b1.size), hb.mono b1.size⟩
set_option maxRecDepth 100000 in
set_option maxHeartbeats 2000000 in
theorem chains_big0 (h0 ks : List Wd) (A : Option Addr) (n c : Nat) (A2 : Option Addr) (n2 c2 : Nat) (A3 : Option Addr) (n3 c3 : Nat) (w : World) (hh : h0.length = 8) (ht : Tab w h0 ks) (hks : ks.length = 64) (hl : 200 < n) :
    Calls Tryd.prog 4 #[.slice A n c, .slice A2 n2 c2, .slice A3 n3 c3] w fun e w' => e = .returned (.bool true) ∧ Below w.heap.size w w' := by
  have t1 : decide ((200 : Int) < (n : Int)) = true := by simp; omega
  have kc := fun (w : World) (C : Array Value) (n c : Nat) => Lib.run_convert_bytes_const (P := Tryd.prog) w 22 5 C n c Tryd.underlying22 Tryd.underlying5
  have HC := Lib.hid (kay_chain h0 ks w hh ht hks)
  clear hh ht hks  hl
  go_enter Tryd.func4, Tryd.ntmps4
  go_wp2_with fail
  refine HC.out.mono ?_
  rintro e w1 ⟨A9, c9, rfl, b1, _⟩
  go_wp2_with fail
  go_ret
  exact ⟨rfl, b1⟩
set_option maxRecDepth 100000 in
set_option maxHeartbeats 2000000 in
theorem chains_big1 (h0 ks : List Wd) (A : Option Addr) (n c : Nat) (A2 : Option Addr) (n2 c2 : Nat) (A3 : Option Addr) (n3 c3 : Nat) (w : World) (hh : h0.length = 8) (ht : Tab w h0 ks) (hks : ks.length = 64) (hl1 : n ≤ 200) (hl : 5 < n2) :
    Calls Tryd.prog 4 #[.slice A n c, .slice A2 n2 c2, .slice A3 n3 c3] w fun e w' => e = .returned (.bool true) ∧ Below w.heap.size w w' := by
  have t1 : decide ((200 : Int) < (n : Int)) = false := by simp; omega
  have t2 : decide ((5 : Int) < (n2 : Int)) = true := by simp; omega
  have kc := fun (w : World) (C : Array Value) (n c : Nat) => Lib.run_convert_bytes_const (P := Tryd.prog) w 22 5 C n c Tryd.underlying22 Tryd.underlying5
  have HC := Lib.hid (kay_chain h0 ks w hh ht hks)
  clear hh ht hks  hl1 hl
  go_enter Tryd.func4, Tryd.ntmps4
  go_wp2_with fail
  refine HC.out.mono ?_
  rintro e w1 ⟨A9, c9, rfl, b1, _⟩
  go_wp2_with fail
  go_ret
  exact ⟨rfl, b1⟩
set_option maxRecDepth 100000 in
set_option maxHeartbeats 2000000 in
theorem chains_big2 (h0 ks : List Wd) (A : Option Addr) (n c : Nat) (A2 : Option Addr) (n2 c2 : Nat) (A3 : Option Addr) (n3 c3 : Nat) (w : World) (hh : h0.length = 8) (ht : Tab w h0 ks) (hks : ks.length = 64) (hl1 : n ≤ 200) (hl2 : n2 ≤ 5) (hl : 200 < n3) :
    Calls Tryd.prog 4 #[.slice A n c, .slice A2 n2 c2, .slice A3 n3 c3] w fun e w' => e = .returned (.bool true) ∧ Below w.heap.size w w' := by
  have t1 : decide ((200 : Int) < (n : Int)) = false := by simp; omega
  have t2 : decide ((5 : Int) < (n2 : Int)) = false := by simp; omega
  have t3 : decide ((200 : Int) < (n3 : Int)) = true := by simp; omega
  have kc := fun (w : World) (C : Array Value) (n c : Nat) => Lib.run_convert_bytes_const (P := Tryd.prog) w 22 5 C n c Tryd.underlying22 Tryd.underlying5
  have HC := Lib.hid (kay_chain h0 ks w hh ht hks)
  clear hh ht hks hl1 hl2 hl
  go_enter Tryd.func4, Tryd.ntmps4
  go_wp2_with fail
  refine HC.out.mono ?_
  rintro e w1 ⟨A9, c9, rfl, b1, _⟩
  go_wp2_with fail
  go_ret
  exact ⟨rfl, b1⟩
theorem strOf_eq (xs ys : List Int) (hx : IsBytes xs) (hy : IsBytes ys) : (strOfNums xs == strOfNums ys) = decide (xs = ys) := by
  have hb : ∀ a b : ByteArray, (a == b) = true ↔ a = b := fun a b => by
    obtain ⟨x⟩ := a
    obtain ⟨y⟩ := b
    constructor
    · intro h
      have e : x = y := by simpa using (show (x == y) = true from h)
      rw [e]
    · intro h
      injection h with h
      show (x == y) = true
      simp [h]
  rw [Bool.eq_iff_iff, hb, decide_eq_true_eq]
  refine ⟨fun h => ?_, fun h => by rw [h]⟩
  have := congrArg numsOf h
  rwa [numsOf_strOfNums xs hx, numsOf_strOfNums ys hy] at this
theorem below_two {B : Nat} {w : World} (h : B ≤ w.heap.size) (C : Array Value) (t : TypeId) (f g : Nat × Nat) : Below B (w.alloc (.cells C t f)) (w.alloc (.cells C t g)) :=
  ⟨rfl, rfl, rfl, by simp, fun k hk => (heap_alloc_old w _ (Nat.lt_of_lt_of_le hk h)).trans (heap_alloc_old w _ (Nat.lt_of_lt_of_le hk h)).symm⟩
theorem wp_convert_ok {o : Oper} {a : Act} {w w' : World} {K : Act → World → Prop} {Q : Exit → Act → World → Prop} (t u : TypeId) (x : Operand) (ho : o.op = .convert t u x) (v r : Value) (hx : a.eval x = v) (hr : (convert t u v).run Tryd.prog w = .ok r w') (h : K (a.put o.dst r) w') : o.wp Tryd.prog a w K Q := by
  unfold Oper.wp execOp
  simp only [ho, hx, Sem.run_bind, hr, Result.andThen_ok, Sem.run_pure]
  exact h
/-- At a round's head: of k parts none is long. -/
def LnAt (w : World) (ss : List ByteArray) (i : Value) (wr : World) : Prop :=
  ∃ k : Nat, k ≤ ss.length ∧ i = .int .i64 k ∧ (∀ j, j < k → (ss.getD j ⟨#[]⟩).size ≤ 100) ∧ wr = w
set_option maxRecDepth 100000 in
set_option maxHeartbeats 4000000 in
theorem chains_main (h0 ks : List Wd) (A : Option Addr) (n c : Nat) (key : List Int) (A2 : Option Addr) (n2 c2 : Nat) (ss : List ByteArray) (A3 : Option Addr) (n3 c3 : Nat) (oth : List Int) (w : World) (hh : h0.length = 8) (ht : Tab w h0 ks) (hks : ks.length = 64) (hkt : KeysTell ks) (hbg : BeginTells h0)
    (hn : n = key.length) (hs : Src .u8 w A key) (hx : IsBytes key) (hnc : n ≤ c) (hc : c ≤ 9223372036854775807) (hl1 : n ≤ 200) (hn2 : n2 = ss.length) (hs2 : StrSrc w A2 ss) (hl2 : n2 ≤ 5) (hn3 : n3 = oth.length) (hs3 : Src .u8 w A3 oth) (hx3 : IsBytes oth) (hl3 : n3 ≤ 200) :
    Calls Tryd.prog 4 #[.slice A n c, .slice A2 n2 c2, .slice A3 n3 c3] w fun e w' => e = .returned (.bool true) ∧ Below w.heap.size w w' := by
  have t1 : decide ((200 : Int) < (n : Int)) = false := by simp; omega
  have t2 : decide ((5 : Int) < (n2 : Int)) = false := by simp; omega
  have t3 : decide ((200 : Int) < (n3 : Int)) = false := by simp; omega
  have kc := fun (w : World) (C : Array Value) (n c : Nat) => Lib.run_convert_bytes_const (P := Tryd.prog) w 22 5 C n c Tryd.underlying22 Tryd.underlying5
  have Hh := Lib.hid hh
  have Ht := Lib.hid ht
  have Hks := Lib.hid hks
  have Hn2 := Lib.hid hn2
  have Hs2 := Lib.hid hs2
  have Hn3 := Lib.hid hn3
  have Hs3 := Lib.hid hs3
  have Hx3 := Lib.hid hx3
  have hm : (n2 : Int) ≤ 5 := by omega
  have hm1 : (n : Int) ≤ 200 := by omega
  have hm3 : (n3 : Int) ≤ 200 := by omega
  have HC := Lib.hid (fun (hl : ∀ i, i < ss.length → (ss.getD i ⟨#[]⟩).size ≤ 900000) => chain_any h0 ks A n c key A2 n2 c2 ss w hh ht hks hn hs hx (by omega) hn2 hs2 hl (by omega))
  have HR := Lib.hid (fun (hl : ∀ i, i < ss.length → (ss.getD i ⟨#[]⟩).size ≤ 900000) w1 (b1 : Below w.heap.size w w1) => rchain_any h0 ks A n c key A2 n2 c2 ss w1 hkt hbg hh hks hn (hs.keep b1) hx hnc hc hn2 (hs2.keep b1) hl (by omega))
  have HB := Lib.hid (chainW_bytes ks h0 (ss.map numsOf) hx)
  have HLX := Lib.hid (show (chainW ks h0 key (ss.map numsOf)).length ≤ 200 by rw [chainW_length]; split <;> omega)
  generalize chainW ks h0 key (ss.map numsOf) = xs at *
  clear hh ht hks hkt hbg hn hs hx hnc hc hl1 hn2 hs2 hl2 hn3 hs3 hx3 hl3
  go_enter Tryd.func4, Tryd.ntmps4
  go_wp2_with fail
  go_loopw [7] (fun i wr => LnAt w ss i wr) (fun i _ => n2 - (intOf i).toNat)
  case atStart => exact ⟨0, Nat.zero_le _, rfl, fun j hj => absurd hj (by omega), rfl⟩
  case round =>
    obtain ⟨k, hk, rfl, hall, rfl⟩ := hrel
    have HA := Lib.hid hall
    clear hall
    by_cases hlt : k < n2
    · obtain ⟨b, o, rfl, hbl, hcell⟩ := Hs2.out (by rw [← Hn2.out]; omega)
      have d1 := hcell k (by rw [← Hn2.out]; exact hlt)
      obtain ⟨s, hs⟩ : ∃ s, ss.getD k ⟨#[]⟩ = s := ⟨_, rfl⟩
      rw [hs] at d1
      have HS := Lib.hid hs
      clear hcell hs
      by_cases hlong : 100 < s.size
      · have t4 : decide ((100 : Int) < (s.size : Int)) = true := by simp; omega
        go_wp2_with fail
        go_ret
        exact ⟨rfl, Below.refl _ _⟩
      · have t4 : decide ((100 : Int) < (s.size : Int)) = false := by simp; omega
        go_wp2_with fail
        refine ⟨⟨k + 1, by have := Hn2.out; omega, by go_num, fun j hj => ?_, rfl⟩, ?_⟩
        · rcases Nat.lt_or_ge j k with h | h
          · exact HA.out j h
          · obtain rfl : j = k := by omega
            rw [HS.out]
            omega
        · simp [intOf]; omega
    · obtain rfl : k = n2 := by have := Hn2.out; omega
      have hall : ∀ i, i < ss.length → (ss.getD i ⟨#[]⟩).size ≤ 900000 := fun i hi => by
        have := HA.out i (by rw [Hn2.out]; exact hi)
        omega
      have HC1 := Lib.hid (HC.out hall)
      have HR1 := Lib.hid (HR.out hall)
      clear hall HC HR HA
      go_wp2_with fail
      refine HC1.out.mono ?_
      rintro e w1 ⟨A5, n5, c5, rfl, hn5, hs5, hk5, hc5, b1⟩
      have HN5 := Lib.hid hn5
      have HS5 := Lib.hid hs5
      have hm5 : (n5 : Int) ≤ 9223372036854775807 := by omega
      clear hn5 hs5 hk5 hc5 HC1
      obtain ⟨S, hS⟩ : ∃ S, strOfNums xs = S := ⟨_, rfl⟩
      obtain ⟨T, hT⟩ : ∃ T, strOfNums oth = T := ⟨_, rfl⟩
      obtain ⟨E, hE⟩ : ∃ E, decide (xs = oth) = E := ⟨_, rfl⟩
      have hE1 : (S == T) = E := by rw [← hS, ← hT, ← hE]; exact strOf_eq xs oth HB.out Hx3.out
      have hE2 : (S.toList == T.toList) = E := by rw [← beq_toListBytes]; exact hE1
      have QX := Lib.hid (fun w2 (b2 : Below w1.heap.size w1 w2) => (show (convert 22 9 (.slice A5 n5 c5)).run Tryd.prog w2 = .ok (.string S) w2 by rw [← hS]; exact run_text w2 A5 n5 c5 xs HN5.out (HS5.out.keep b2)))
      have QO := Lib.hid (fun w2 (b2 : Below w1.heap.size w1 w2) => (show (convert 22 9 (.slice A3 n3 c3)).run Tryd.prog w2 = .ok (.string T) w2 by rw [← hT]; exact run_text w2 A3 n3 c3 oth Hn3.out (Hs3.out.keep (b1.trans (b2.mono b1.size)))))
      have HSm := Lib.hid (fun w2 (b2 : Below w1.heap.size w1 w2) => hE ▸ same_any A5 n5 c5 xs A3 n3 c3 oth w2 HN5.out (HS5.out.keep b2) HB.out Hn3.out (Hs3.out.keep (b1.trans (b2.mono b1.size))) Hx3.out (by omega))
      have HS1 := Lib.hid hS
      clear hS hT hE
      go_wp2_with fail
      refine wp_region_tree (Below w1.heap.size) (.one [0, 1, 2, 3] 4 (.one [] 5 (.one [6, 7, 8, 9, 11, 12, 13, 14, 15] 10 (.one [16, 17, 18, 19, 21] 20 (.one [] 22 (.one [] 23 (.one [24, 25] 26 (.one [] 27 (.one [] 28 (.last [29, 30, 31, 32])))))))))) (by kernel_rfl) (by kernel_rfl) (by kernel_rfl) (fun _ _ d _ _ h => by cases d <;> exact h) ?_
      have q1 : ∀ y : AboveR (Below w1.heap.size) w1.drew, (convert 22 9 (.slice A5 n5 c5)).run Tryd.prog y.1 = .ok (.string S) y.1 := fun y => QX.out y.1 ((Below.refl _ _).drew.trans y.2)
      refine wpTree_one (by simp [pickOps]; rfl) ?_
      repeat (go_big_quiet_step (fail))
      refine wpQuiet_nil ?_
      refine wpOp_alone rfl rfl (fun K hK => ?_)
      go_simp
      refine (HR1.out w1.drew b1.drew).mono ?_
      rintro e w2 ⟨A6, n6, c6, rfl, hn6, hs6, hk6, hc6, hb2⟩
      have d2 : Below w1.heap.size w1.drew w2 := hb2
      refine hK _ _ ⟨d2, ?_⟩
      clear hK K
      have D2 : Below w1.heap.size w1 w2 := (Below.refl _ _).drew.trans d2
      have HN6 := Lib.hid hn6
      have HS6 := Lib.hid hs6
      clear q1 hn6 hs6 hk6 hc6 hb2 HR1 d2
      refine wpTree_one (by simp [pickOps]; rfl) ?_
      refine wpQuiet_nil ?_
      refine wpOp_alone rfl rfl (fun K hK => ?_)
      refine wp_convert_ok 22 9 (.tmp 46) rfl _ (.string S) rfl (by rw [← HS1.out]; exact run_text w2 A6 n6 c6 xs HN6.out HS6.out) (hK _ _ ⟨Below.refl _ _, ?_⟩)
      clear hK K HS6 HN6
      have q2 : ∀ y : AboveR (Below w1.heap.size) w2, (convert 22 9 (.slice A5 n5 c5)).run Tryd.prog y.1 = .ok (.string S) y.1 := fun y => QX.out y.1 (D2.trans y.2)
      have q3 : ∀ y : AboveR (Below w1.heap.size) w2, (convert 22 9 (.slice A3 n3 c3)).run Tryd.prog y.1 = .ok (.string T) y.1 := fun y => QO.out y.1 (D2.trans y.2)
      refine wpTree_one (by simp [pickOps]; rfl) ?_
      go_simp
      repeat (go_big_quiet_step (fail))
      refine wpQuiet_nil ?_
      refine wpOp_alone rfl rfl (fun K hK => ?_)
      go_simp
      refine (HSm.out w2 D2).mono ?_
      rintro e w3 ⟨rfl, rfl⟩
      refine hK _ _ ⟨Below.refl _ _, ?_⟩
      clear hK K q2 q3 QX QO HSm
      refine wpTree_one (by simp [pickOps]; rfl) ?_
      repeat (go_big_quiet_step (fail))
      refine wpQuiet_nil ?_
      refine wpOp_alone rfl rfl (fun K hK => ?_)
      go_simp
      have o4 := own_made w3 w3.heap.size (Nat.le_refl _)
      have B4 : Below w1.heap.size w3 (w3.alloc (.cells #[] 5)) := (Below.refl _ _).alloc D2.size _
      refine hK _ _ ⟨B4, ?_⟩
      clear hK K
      have D4 := D2.trans B4
      have hz4 : w3.heap.size ≤ (w3.alloc (.cells #[] 5)).heap.size := by simp
      have l13 := D2.size
      generalize w3.alloc (.cells #[] 5) = w4 at *
      refine wpTree_one (by simp [pickOps]; rfl) ?_
      refine wpQuiet_nil ?_
      refine wpOp_alone rfl rfl (fun K hK => ?_)
      refine wp_append_src (.tmp 62) (.tmp 63) rfl w3.heap.size (some ⟨w3.heap.size, 0, none⟩) 0 0 [] rfl rfl o4 A5 n5 c5 xs rfl HN5.out (HS5.out.keep D4) (by have := HLX.out; have := HN5.out; omega) hz4 ?_
      rintro v w5 ⟨A7, n7, c7, rfl, hn7, ho7, hb7⟩
      refine hK _ _ ⟨hb7.mono l13, ?_⟩
      clear hK K
      have D5 := D4.trans (hb7.mono l13)
      have HN7 := Lib.hid hn7
      obtain ⟨S7, k7, m7⟩ := own_src ho7 hn7
      have HS7 := Lib.hid S7
      clear hn7 ho7 hb7 S7 k7 m7 D4 B4 o4 hz4 l13
      refine wpTree_one (by simp [pickOps]; rfl) ?_
      refine wpQuiet_nil ?_
      refine wpOp_alone rfl rfl (fun K hK => ?_)
      go_simp
      refine (same_any A5 n5 c5 xs A7 n7 c7 xs w5 HN5.out (HS5.out.keep D5) HB.out HN7.out HS7.out HB.out (by omega)).mono ?_
      rintro e w6 ⟨rfl, rfl⟩
      rw [decide_eq_true rfl]
      refine hK _ _ ⟨Below.refl _ _, ?_⟩
      clear hK K HS7
      refine wpTree_one (by simp [pickOps]; rfl) ?_
      repeat (go_big_quiet_step (fail))
      refine wpQuiet_nil ?_
      refine wpOp_alone rfl rfl (fun K hK => ?_)
      go_simp
      refine hK _ _ ⟨(Below.refl _ _).alloc D5.size _, ?_⟩
      clear hK K
      refine wpTree_one (by simp [pickOps]; rfl) ?_
      refine wpQuiet_nil ?_
      refine wpOp_alone rfl rfl (fun K hK => ?_)
      refine wp_convert_ok 22 22 (.tmp 68) rfl _ _ rfl (kc w6 _ 1 1) (hK _ _ ⟨below_two D5.size _ _ _ _, ?_⟩)
      clear hK K
      refine wpTree_one (by simp [pickOps]; rfl) ?_
      refine wpQuiet_nil ?_
      refine wpOp_alone rfl rfl (fun K hK => ?_)
      go_simp
      refine (kay_chain h0 ks w6 Hh.out (Ht.out.keep (b1.trans (D5.mono b1.size))) Hks.out).mono ?_
      rintro e w7 ⟨A8, c8, rfl, b7, b8⟩
      refine hK _ _ ⟨b8.mono D5.size, ?_⟩
      clear hK K
      have b9 := b1.trans ((D5.trans (b7.mono D5.size)).mono b1.size)
      clear b7 b8 D5 kc
      refine wpTree_last (by simp [pickOps]; rfl) ?_
      repeat (go_big_quiet_step (fail))
      refine wpQuiet_nil ?_
      go_wp2_with fail
      go_ret
      exact ⟨rfl, b9⟩
end Go.Proofs.YtbhcikahemhfmaaDoor.Sha3.Hm

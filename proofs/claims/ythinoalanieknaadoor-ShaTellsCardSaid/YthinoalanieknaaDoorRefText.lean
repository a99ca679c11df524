/- The document's Text: the plain reckoning's digits, for any bytes. -/
import Derived.Test.YthinoalanieknaaDoorRefSum
import Derived.Test.YthinoalanieknaaDoorText
import Derived.BigQuiet
import Derived.Deep.QuietTactic
namespace Go.Proofs.YthinoalanieknaaDoor
open Go.RowKit

theorem digit_cut : ∀ m : Fin 16, digitsB.extract m.val (m.val + 1) = strOfNums [digI (m.val : Int)] := by decide
theorem run_bound {P : Program} (w : World) (k : IntKind) (n : Int) (j y : Nat) (c : BoundsCode) (hn : n = (j : Int)) (h : j ≤ y) : (Instr.sliceBound (.int k n) y c).run P w = .ok j w := by
  subst hn
  unfold Instr.sliceBound
  have ha : (asIntOf (.int k (j : Int))).run P w = .ok (k, (j : Int)) w := by simp [asIntOf]
  simp only [Sem.run_bind, ha, Result.andThen_ok]
  rw [if_pos (by omega)]
  rfl
theorem run_cut_digit {P : Program} (w : World) (t : TypeId) (d e : Int) (hu : P.underlying t = some .string) (h0 : 0 ≤ d) (h1 : d < 16) (he : d + 1 = e) :
    (Instr.sliceAt t (.string digitsB) (some (.int .u8 d)) (some (.int .u8 e)) none).run P w = .ok (.string (strOfNums [digI d])) w := by
  subst he
  obtain ⟨m, rfl⟩ := Int.eq_ofNat_of_zero_le h0
  have hm : m < 16 := by omega
  have hd := digit_cut ⟨m, hm⟩
  have hs : digitsB.size = 16 := rfl
  unfold Instr.sliceAt
  simp only [Sem.run_bind, run_underlying hu w, Result.andThen_ok]
  unfold Instr.slice Instr.sliceBounds
  simp only [Sem.run_bind, run_underlying hu w, hs, Result.andThen_ok, Sem.run_pure, Option.isSome_none, Bool.false_eq_true, if_false, run_bound w .u8 ((m : Int) + 1) (m + 1) 16 _ rfl (by omega), run_bound w .u8 (m : Int) m (m + 1) _ rfl (by omega)]
  rw [hd]
theorem nums_append (xs ys : List Int) : strOfNums xs ++ strOfNums ys = strOfNums (xs ++ ys) := by
  unfold strOfNums
  apply ByteArray.ext
  simp
theorem nums_size (xs : List Int) : (strOfNums xs).size = xs.length := by
  unfold strOfNums
  simp [ByteArray.size]
def RtAt (w : World) (V : Nat) (l : List Int) (t i : Value) (wr : World) : Prop :=
  ∃ k : Nat, k ≤ 32 ∧ i = .int .i64 k ∧ t = .string (strOfNums ((textW l).take (2 * k))) ∧ Row wr V 23 (bcells l) ∧ Below w.heap.size w wr
theorem text_next (l : List Int) (k : Nat) (h : k < l.length) : (textW l).take (2 * k) ++ [digI (l.getD k 0 / 16)] ++ [digI (l.getD k 0 % 16)] = (textW l).take (2 * (k + 1)) := by
  rw [← textW_even l k h, ← textW_odd l k h, take_next _ _ (by rw [textW_length]; omega), take_next _ _ (by rw [textW_length]; omega)]
  rfl
set_option maxRecDepth 100000 in
set_option maxHeartbeats 2000000 in
theorem rtext_any (h0 ks : List Wd) (A : Option Addr) (n c : Nat) (xs : List Int) (w : World) (hk : KeysTell ks) (hbg : BeginTells h0) (hh : h0.length = 8) (hks : ks.length = 64) (hn : n = xs.length) (hs0 : Src .u8 w A xs) (hx : IsBytes xs) (hnc : n ≤ c) (hc : c ≤ 9223372036854775807) :
    Calls Tryd.prog 9 #[.slice A n c] w fun e w' => e = .returned (.string (strOfNums (textW (sumW ks h0 xs)))) ∧ Below w.heap.size w w' := by
  have Hcall := Lib.hid (rsum_any h0 ks A n c xs w hk hbg hh hks hn hs0 hx hnc hc)
  clear hk hbg hh hks hn hs0 hx hnc hc
  go_enter Tryd.func9, Tryd.ntmps9
  go_wp2_with fail
  refine Hcall.out.mono ?_
  rintro e w1 ⟨rfl, hb1⟩
  have HL := Lib.hid (sumW_length ks h0 xs)
  have HB := Lib.hid (bytes_sum ks h0 xs)
  generalize eO : sumW ks h0 xs = l at *
  have EO := Lib.hid eO
  clear eO
  have q1 := Row.new w1 23 (bcells (List.replicate 32 0))
  have qb := hb1.alloc hb1.size (.cells (bcells (List.replicate 32 0)) 23)
  have hsz := hb1.size
  clear hb1 Hcall
  go_wp2_with (refine wpList_store_row rfl 23 (.tmp 3) (.tmp 7) rfl w1.heap.size (bcells l) rfl rfl 23 (bcells (List.replicate 32 0)) q1 (by rw [Tryd.size23, bcells_size, HL.out]) (by rw [bcells_size, bcells_size, HL.out, List.length_replicate]) (bcells_one _) ?_; have p1 := q1.setRow (bcells l); have pb := below_setRow qb (b := w1.heap.size) (by omega) (bcells l); clear q1 qb)
  have hR : RtAt w w1.heap.size l (.string ⟨#[]⟩) (.int .i64 0) _ := ⟨0, Nat.zero_le _, rfl, rfl, p1, pb⟩
  clear p1 pb
  generalize w1.heap.size = V at *
  go_loopw [4, 5] (fun t i wr => RtAt w V l t i wr) (fun _ i _ => 32 - (intOf i).toNat)
  case atStart => exact hR
  case round =>
    clear hR
    obtain ⟨k, hk, rfl, rfl, r1, hb⟩ := hrel
    have HL2 := Lib.hid (textW_length l)
    by_cases hlt : k < 32
    · have ck := r1.cell (bcells_at l k (by rw [HL.out]; exact hlt))
      have HN := Lib.hid (text_next l k (by rw [HL.out]; exact hlt))
      obtain ⟨x0, x1⟩ := HB.out.at_ k
      generalize l.getD k 0 = x at *
      obtain ⟨d, hd⟩ : ∃ d, x / 16 = d := ⟨_, rfl⟩
      obtain ⟨m, hm⟩ : ∃ m, x % 16 = m := ⟨_, rfl⟩
      obtain ⟨d1, hd1⟩ : ∃ y, d + 1 = y := ⟨_, rfl⟩
      obtain ⟨m1, hm1⟩ : ∃ y, m + 1 = y := ⟨_, rfl⟩
      have b0 : 0 ≤ d := by omega
      have b1 : d < 16 := by omega
      have b2 : 0 ≤ m := by omega
      have b3 : m < 16 := by omega
      have hd2 : x.tdiv 16 = d := by rw [Int.tdiv_eq_ediv_of_nonneg x0]; exact hd
      have hm2 : x.tmod 16 = m := by rw [Int.tmod_eq_emod_of_nonneg x0]; exact hm
      have w1 : IntKind.u8.wrap d = d := by rw [IntKind.wrap_u8']; omega
      have w2 : IntKind.u8.wrap (d + 1) = d1 := by rw [IntKind.wrap_u8']; omega
      have w3 : IntKind.u8.wrap (m + 1) = m1 := by rw [IntKind.wrap_u8']; omega
      have w4 : IntKind.u8.wrap m = m := by rw [IntKind.wrap_u8']; omega
      have s1 := fun w' => run_cut_digit (P := Tryd.prog) w' 9 d d1 Tryd.underlying9 b0 b1 hd1
      have s2 := fun w' => run_cut_digit (P := Tryd.prog) w' 9 m m1 Tryd.underlying9 b2 b3 hm1
      unfold digitsB at s1 s2
      have hk32 : (k : Int) < 32 := by omega
      have HA := Lib.hid (show strOfNums ((textW l).take (2 * k)) ++ strOfNums [digI d] ++ strOfNums [digI m] = strOfNums ((textW l).take (2 * (k + 1))) by
        rw [nums_append, nums_append, ← HN.out, hd, hm])
      have hsz1 : (strOfNums ((textW l).take (2 * k))).size ≤ 64 := by rw [nums_size, List.length_take, HL2.out, HL.out]; omega
      have hsz2 : (strOfNums [digI d]).size = 1 := nums_size _
      have hsz3 : (strOfNums [digI m]).size = 1 := nums_size _
      clear x0 x1 hd hm hd1 hm1
      generalize strOfNums ((textW l).take (2 * k)) = T at *
      generalize strOfNums [digI d] = D at *
      generalize strOfNums [digI m] = M at *
      go_wp2_with fail
      go_quiet (fail)
      go_wp2_with fail
      refine ⟨⟨k + 1, by omega, by go_num, by rw [← HA.out], r1.drewN _, below_drewN hb _⟩, ?_⟩
      simp [intOf]; omega
    · obtain rfl : k = 32 := by omega
      have HT := Lib.hid (show (textW l).take (2 * 32) = textW l by rw [List.take_of_length_le (by rw [HL2.out, HL.out]; exact Nat.le_refl _)])
      rw [show ((32 : Nat) : Int) = (32 : Int) from rfl, HT.out]
      go_wp2_with fail
      go_ret
      exact ⟨by rw [EO.out]; rfl, hb⟩
end Go.Proofs.YthinoalanieknaaDoor

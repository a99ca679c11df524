/- Chain tells the code of each part by the code ahead of it; what it answers lies in memory of its own, or in that of its own copy of the key; nothing that was there is written. Conditions: the key and each part are at most 900000 bytes. -/
import Derived.Test.YtbhcikahemhfmaaDoorHmText
import Derived.Lib.ConvBytes
import Derived.Lib.SliceRun
import Derived.Laws.IdiomStrings
namespace Go.Proofs.YtbhcikahemhfmaaDoor.Sha3.Hm
open Go.RowKit

/-- A slice of texts. -/
def StrSrc (w : World) (A : Option Addr) (ss : List ByteArray) : Prop :=
  0 < ss.length → ∃ b o, A = some ⟨b, o, none⟩ ∧ b < w.heap.size ∧ ∀ i, i < ss.length → w.cell? ⟨b, o + i, none⟩ = some (.string (ss.getD i ⟨#[]⟩))
theorem StrSrc.keep {w w' : World} {A : Option Addr} {ss : List ByteArray} (h : StrSrc w A ss) (hb : Below w.heap.size w w') : StrSrc w' A ss := fun hn => by
  obtain ⟨b, o, e, hlt, hc⟩ := h hn
  exact ⟨b, o, e, Nat.lt_of_lt_of_le hlt hb.size, fun i hi => (hb.cell (p := ⟨b, o + i, none⟩) hlt).trans (hc i hi)⟩
/-- What a function answers that hands out bytes in no memory that was there ahead of it, or none. -/
def GivesSrc (w : World) (xs : List Int) (e : Ending) (w' : World) : Prop :=
  ∃ (A : Option Addr) (n c : Nat), e = .returned (.slice A n c) ∧ n = xs.length ∧ Src .u8 w' A xs ∧ n ≤ c ∧ c ≤ 9223372036854775807 ∧ Below w.heap.size w w'
/-- '[]byte(s)' in a walk. -/
theorem wpList_bytes_of {ops : Array Oper} {rest : List Oper} {o : Oper} {a : Act} {w : World} {Q : Exit → Act → World → Prop} (hg : o.guard = none) (x : Operand) (ho : o.op = .convert 9 22 x) (s : ByteArray) (hx : a.eval x = .string s) (hl : s.size ≤ 1000000)
    (h : ∀ w' c, Src .u8 w' (some ⟨w.heap.size, 0, none⟩) (numsOf s) → s.size ≤ c → c ≤ 9223372036854775807 → Below w.heap.size w w' → wpList Tryd.prog ops Q rest (a.put o.dst (.slice (some ⟨w.heap.size, 0, none⟩) s.size c)) w') : wpList Tryd.prog ops Q (o :: rest) a w := by
  refine wpList_plain hg fun K hK => ?_
  unfold Oper.wp execOp
  simp only [ho, hx, Sem.run_bind, Lib.run_convert_string_bytes (P := Tryd.prog) w 9 22 5 s Tryd.underlying9 Tryd.underlying22 Tryd.underlying5, Result.andThen_ok, Sem.run_pure]
  have hm := grownCap_le_maxLen w s.size 0 5 (by unfold maxLen; omega)
  unfold maxLen at hm
  refine hK _ _ (h _ _ (fun _ => ⟨w.heap.size, 0, rfl, by rw [Lib.bytesWorld_size]; omega, fun i hi => ?_⟩) (grownCap_ge w s.size 0 5) hm ?_)
  · rw [numsOf_length] at hi
    rw [Nat.zero_add, Lib.bytesWorld_cell w 5 s i hi]
    have hl : i < s.data.toList.length := hi
    unfold numsOf
    rw [List.getD_eq_getElem?_getD, List.getD_eq_getElem?_getD, List.getElem?_map, List.getElem?_eq_getElem hl]
    rfl
  · exact ⟨rfl, rfl, rfl, by rw [Lib.bytesWorld_size]; omega, fun i hi => Lib.bytesWorld_at_old w 5 s i hi⟩
set_option maxRecDepth 100000 in
set_option maxHeartbeats 1000000 in
theorem clone_any (A : Option Addr) (n c : Nat) (xs : List Int) (w : World) (hn : n = xs.length) (hs : Src .u8 w A xs) (hl : n ≤ 900000) :
    Calls Tryd.prog 19 #[.slice A n c] w fun e w' => GivesSrc w xs e w' := by
  have Hn := Lib.hid hn
  have Hs := Lib.hid hs
  have Hl := Lib.hid hl
  cases A with
  | none =>
    have hq : ∀ w' : World, (binOp .eql 22 (.slice none n c) (.slice none 0 0)).run Tryd.prog w' = .ok (.bool true) w' := fun w' => Lib.run_eql_slice_nil w' 22 5 none n c 0 0 Tryd.underlying22
    have h0 : xs = [] := by
      rcases Nat.eq_zero_or_pos xs.length with h | h
      · exact List.eq_nil_of_length_eq_zero h
      · obtain ⟨b, o, e, _⟩ := hs h
        cases e
    clear hn hs hl
    go_enter Tryd.func19, Tryd.ntmps19
    go_wp2_with fail
    go_ret
    exact ⟨none, 0, 0, rfl, by rw [h0]; rfl, by rw [h0]; exact Src.none_, Nat.le_refl _, by omega, Below.refl _ _⟩
  | some ad =>
    have hq : ∀ w' : World, (binOp .eql 22 (.slice (some ad) n c) (.slice none 0 0)).run Tryd.prog w' = .ok (.bool false) w' := fun w' => Lib.run_eql_slice_nil w' 22 5 (some ad) n c 0 0 Tryd.underlying22
    have o1 : Own _ w.heap.size _ _ _ := own_made w w.heap.size (Nat.le_refl _)
    have b1 : Below w.heap.size w (w.alloc (.cells #[] 5)) := (Below.refl _ _).alloc (Nat.le_refl _) _
    clear hn hs hl
    go_enter Tryd.func19, Tryd.ntmps19
    go_wp2_with (refine wpList_append_src rfl (.tmp 5) (.tmp 6) rfl w.heap.size (some ⟨w.heap.size, 0, none⟩) 0 0 [] rfl rfl o1 (some ad) n c xs rfl Hn.out (Hs.out.keep b1) (by have := Hl.out; omega) b1.size ?_; rintro v w2 ⟨A2, n2, c2, rfl, hn2, ho2, hb2⟩; have HN2 := Lib.hid hn2; clear hn2)
    go_ret
    obtain ⟨S, k, m⟩ := own_src ho2 HN2.out
    exact ⟨A2, n2, c2, rfl, by rw [HN2.out, List.nil_append], by rw [List.nil_append] at S; exact S, k, m, b1.trans hb2⟩

/-- At a round's head: k parts are done. -/
def ChAt (w : World) (h0 ks : List Wd) (key : List Int) (ps : List (List Int)) (v i : Value) (wr : World) : Prop :=
  ∃ (k : Nat) (A : Option Addr) (n c : Nat), k ≤ ps.length ∧ i = .int .i64 k ∧ v = .slice A n c ∧ n = (chainW ks h0 key (ps.take k)).length ∧ Src .u8 wr A (chainW ks h0 key (ps.take k)) ∧ n ≤ c ∧ c ≤ 9223372036854775807 ∧ Below w.heap.size w wr
set_option maxRecDepth 100000 in
set_option maxHeartbeats 2000000 in
theorem chain_any (h0 ks : List Wd) (A : Option Addr) (n c : Nat) (key : List Int) (A2 : Option Addr) (n2 c2 : Nat) (ss : List ByteArray) (w : World) (hh : h0.length = 8) (ht : Tab w h0 ks) (hks : ks.length = 64)
    (hn : n = key.length) (hs : Src .u8 w A key) (hx : IsBytes key) (hl : n ≤ 900000) (hn2 : n2 = ss.length) (hs2 : StrSrc w A2 ss) (hl2 : ∀ i, i < ss.length → (ss.getD i ⟨#[]⟩).size ≤ 900000) (hm2 : n2 ≤ 9223372036854775807) :
    Calls Tryd.prog 10 #[.slice A n c, .slice A2 n2 c2] w fun e w' => GivesSrc w (chainW ks h0 key (ss.map numsOf)) e w' := by
  have Hh := Lib.hid hh
  have Hks := Lib.hid hks
  have Ht := Lib.hid ht
  have Hx := Lib.hid hx
  have Hn2 := Lib.hid hn2
  have Hs2 := Lib.hid hs2
  have Hl2 := Lib.hid hl2
  have HC := Lib.hid (clone_any A n c key w hn hs hl)
  have HP := Lib.hid (show (ss.map numsOf).length = n2 by rw [List.length_map, hn2])
  have hm : (n2 : Int) ≤ 9223372036854775807 := by omega
  have HG := Lib.hid (fun i (hi : i < n2) => (show (ss.map numsOf).getD i [] = numsOf (ss.getD i ⟨#[]⟩) by
    have h1 : i < ss.length := by omega
    rw [List.getD_eq_getElem?_getD, List.getD_eq_getElem?_getD, List.getElem?_map, List.getElem?_eq_getElem h1]
    rfl))
  generalize eP : ss.map numsOf = ps at *
  have EP := Lib.hid eP
  clear hh ht hks hn hs hx hl hn2 hs2 hl2 hm2 eP
  go_enter Tryd.func10, Tryd.ntmps10
  go_wp2_with fail
  refine HC.out.mono ?_
  rintro e w1 ⟨A1, n1, c1, rfl, hn1, hs1, hk1, hm1, b1⟩
  have HR : ChAt w h0 ks key ps (.slice A1 n1 c1) (.int .i64 (0 : Nat)) w1 := ⟨0, A1, n1, c1, Nat.zero_le _, rfl, rfl, hn1, hs1, hk1, hm1, b1⟩
  clear hn1 hs1 hk1 hm1 b1 HC
  go_wp2_with fail
  go_loopw [5, 13] (fun v i wr => ChAt w h0 ks key ps v i wr) (fun _ i _ => n2 - (intOf i).toNat)
  case atStart => exact HR
  case round =>
    clear HR
    obtain ⟨k, A3, n3, c3, hk, rfl, rfl, hn3, hs3, hk3, hm3, hb⟩ := hrel
    have HN3 := Lib.hid hn3
    have HS3 := Lib.hid hs3
    have HK3 : Hid (n3 ≤ c3) := Lib.hid hk3
    have HM3 : Hid (c3 ≤ 9223372036854775807) := Lib.hid hm3
    clear hn3 hs3 hk3 hm3
    by_cases hlt : k < n2
    · obtain ⟨b, o, rfl, hbl, hcell⟩ := Hs2.out (by rw [← Hn2.out]; omega)
      have d1 := (hb.cell (p := ⟨b, o + k, none⟩) hbl).trans (hcell k (by rw [← Hn2.out]; exact hlt))
      have HT := Lib.hid (chainW_next ks h0 key ps k (by rw [HP.out]; exact hlt))
      have HG1 := Lib.hid (HG.out k hlt)
      have HL1 := Lib.hid (Hl2.out k (by rw [← Hn2.out]; exact hlt))
      rw [HG1.out] at HT
      have HX1 := Lib.hid (chainW_bytes ks h0 (ps.take k) Hx.out)
      generalize chainW ks h0 key (ps.take k) = xs at *
      generalize ss.getD k ⟨#[]⟩ = s at *
      clear hcell HG1
      go_wp2_with (refine wpList_bytes_of rfl (.tmp 18) rfl s rfl (by have := HL1.out; omega) ?_; intro w4 c4 s4 k4 m4 b4; have S4 := Lib.hid s4; have B4 := Lib.hid b4; clear s4 b4)
      have hb4 := hb.trans (B4.out.mono hb.size)
      refine (mac_any h0 ks A3 n3 c3 xs _ s.size c4 (numsOf s) w4 Hh.out (Ht.out.keep hb4) Hks.out HN3.out (HS3.out.keep B4.out) HX1.out HK3.out HM3.out (numsOf_length s).symm S4.out (numsOf_bytes s) HL1.out).mono ?_
      rintro e w5 ⟨rfl, hb5⟩
      rw [← HT.out]
      have b5 := hb4.trans (hb5.mono hb4.size)
      have HML := Lib.hid (HT.out ▸ macW_length ks h0 xs (numsOf s) : (chainW ks h0 key (ps.take (k + 1))).length = 32)
      generalize eM : chainW ks h0 key (ps.take (k + 1)) = m at *
      have EM := Lib.hid eM
      clear eM hb4 hb5 hb B4 S4 HS3 HT d1
      go_wp2_with (first
        | (refine wpList_alloc32 rfl rfl ?_; intro w6 q6 c6 z6)
        | (refine wpList_store32 rfl (.tmp 8) (.tmp 20) rfl rfl w5.heap.size m (List.replicate 32 0) rfl rfl q6 HML.out zeros32 ?_; intro w7 p7 c7 z7; have b7 := b5.trans ((c6.trans c7).mono b5.size); have P7 := Lib.hid p7; clear q6 c6 c7 p7 z6 z7 b5))
      refine ⟨⟨k + 1, _, 32, 32, by rw [HP.out]; omega, by go_num, rfl, by rw [EM.out]; exact HML.out.symm, by rw [EM.out]; exact sum_row P7.out, Nat.le_refl _, by omega, b7⟩, ?_⟩
      simp [intOf]; omega
    · obtain rfl : k = n2 := by have := HP.out; omega
      have HE := Lib.hid (show ps.take k = ps by rw [List.take_of_length_le (by rw [HP.out]; exact Nat.le_refl _)])
      rw [HE.out] at HN3 HS3
      go_wp2_with fail
      go_ret
      exact ⟨A3, n3, c3, rfl, HN3.out, HS3.out, HK3.out, HM3.out, hb⟩
end Go.Proofs.YtbhcikahemhfmaaDoor.Sha3.Hm

/- Text tells the code's digits; Same tells whether two rows of bytes are alike. Conditions: for Text as for Mac; for Same none. -/
import Derived.Test.YtbhcikahemhfmaaDoorHmMac
import Derived.Laws.StructEq
namespace Go.Proofs.YtbhcikahemhfmaaDoor.Sha3.Hm
open Go.RowKit

set_option maxRecDepth 100000 in
set_option maxHeartbeats 1000000 in
theorem mtext_any (h0 ks : List Wd) (A : Option Addr) (n c : Nat) (key : List Int) (A2 : Option Addr) (n2 c2 : Nat) (b : List Int) (w : World) (hh : h0.length = 8) (ht : Tab w h0 ks) (hks : ks.length = 64)
    (hn : n = key.length) (hs : Src .u8 w A key) (hx : IsBytes key) (hnc : n ≤ c) (hc : c ≤ 9223372036854775807) (hn2 : n2 = b.length) (hs2 : Src .u8 w A2 b) (hx2 : IsBytes b) (hl : n2 ≤ 900000) :
    Calls Tryd.prog 8 #[.slice A n c, .slice A2 n2 c2] w fun e w' => e = .returned (.string (strOfNums (hexW (macW ks h0 key b)))) ∧ Below w.heap.size w w' := by
  have HC := Lib.hid (mac_any h0 ks A n c key A2 n2 c2 b w hh ht hks hn hs hx hnc hc hn2 hs2 hx2 hl)
  have HML := Lib.hid (macW_length ks h0 key b)
  have HMB := Lib.hid (macW_bytes ks h0 key b)
  clear hh ht hks hn hs hx hnc hc hn2 hs2 hx2 hl
  go_enter Tryd.func8, Tryd.ntmps8
  go_wp2_with fail
  refine HC.out.mono ?_
  rintro e w1 ⟨rfl, b1⟩
  generalize eM : macW ks h0 key b = m at *
  have EM := Lib.hid eM
  clear eM HC
  go_wp2_with (first
    | (refine wpList_alloc32 rfl rfl ?_; intro w2 q2 c2' z2)
    | (refine wpList_store32 rfl (.tmp 5) (.tmp 8) rfl rfl w1.heap.size m (List.replicate 32 0) rfl rfl q2 HML.out zeros32 ?_; intro w3 p3 c3 z3; have b3 := b1.trans ((c2'.trans c3).mono b1.size); have P3 := Lib.hid p3; clear q2 c2' c3 p3 z2 z3 b1))
  refine (hex_any (some ⟨w1.heap.size, 0, none⟩) 32 32 m w3 HML.out.symm (sum_row P3.out) HMB.out (by omega)).mono ?_
  rintro e w4 ⟨rfl, hb4⟩
  have b4 := b3.trans (hb4.mono b3.size)
  go_wp2_with fail
  go_ret
  exact ⟨by rw [EM.out]; rfl, b4⟩

/-- Codes are equal, or not. -/
theorem eql_codes (w : World) (xs ys : List Int) (hx : xs.length = 32) (hy : ys.length = 32) : (binOp .eql 23 (.agg (bcells xs)) (.agg (bcells ys))).run Tryd.prog w = .ok (.bool (decide (xs = ys))) w := by
  rw [run_eql_struct]
  have h := run_equal_bytes (P := Tryd.prog) w 9998 23 5 32 Tryd.underlying23 Tryd.underlying5 (size_one Tryd.one5) xs ys hx hy
  rw [show (10000 : Nat) = 9998 + 2 from rfl]
  exact (congrArg (fun r => Result.andThen r _) h)
theorem eql_sums (w : World) (l : List Int) (h : l.length = 32) : (binOp .eql 23 (.agg (bcells l)) (.agg (bcells l))).run Tryd.prog w = .ok (.bool true) w := by
  rw [eql_codes w l l h h, decide_eq_true rfl]
/-- Bits that are turned: none, where none was and two bytes are the same. -/
theorem or8_zero (t x y : Int) (ht : 0 ≤ t ∧ t < 256) (hx : 0 ≤ x ∧ x < 256) (hy : 0 ≤ y ∧ y < 256) : bits .or .u8 t (bits .xor .u8 x y) = 0 ↔ t = 0 ∧ x = y := by
  have v8 : ∀ z : Int, 0 ≤ z ∧ z < 256 → ∃ s : BitVec 8, z = (s.toNat : Int) := fun z hz => ⟨BitVec.ofNat 8 z.toNat, by rw [BitVec.toNat_ofNat]; omega⟩
  have o8 : ∀ s : BitVec 8, BitVec.ofInt 8 (s.toNat : Int) = s := fun s => by rw [BitVec.ofInt_natCast]; simp
  have w8 : ∀ s : BitVec 8, IntKind.u8.wrap (s.toNat : Int) = (s.toNat : Int) := fun s => by rw [IntKind.wrap_u8']; have := s.isLt; omega
  obtain ⟨a, rfl⟩ := v8 t ht
  obtain ⟨b, rfl⟩ := v8 x hx
  obtain ⟨d, rfl⟩ := v8 y hy
  have e1 : bits .xor .u8 (b.toNat : Int) (d.toNat : Int) = ((b ^^^ d).toNat : Int) := by
    show IntKind.u8.wrap ((BitVec.ofInt 8 (b.toNat : Int) ^^^ BitVec.ofInt 8 (d.toNat : Int)).toNat : Int) = _
    rw [o8, o8, w8]
  have e2 : bits .or .u8 (a.toNat : Int) ((b ^^^ d).toNat : Int) = ((a ||| (b ^^^ d)).toNat : Int) := by
    show IntKind.u8.wrap ((BitVec.ofInt 8 (a.toNat : Int) ||| BitVec.ofInt 8 ((b ^^^ d).toNat : Int)).toNat : Int) = _
    rw [o8, o8, w8]
  rw [e1, e2]
  have n0 : ∀ s : BitVec 8, (s.toNat : Int) = 0 ↔ s = 0#8 := fun s => ⟨fun h => BitVec.eq_of_toNat_eq (by simpa using h), fun h => by rw [h]; rfl⟩
  rw [n0, n0, BitVec.or_eq_zero_iff, BitVec.xor_eq_zero_iff]
  refine and_congr Iff.rfl ⟨fun h => by rw [h], fun h => BitVec.eq_of_toNat_eq (by omega)⟩
theorem or8_byte (x t : Int) : 0 ≤ bits .or .u8 x t ∧ bits .or .u8 x t < 256 := by
  have e : bits .or .u8 x t = IntKind.u8.wrap ((BitVec.ofInt 8 x ||| BitVec.ofInt 8 t).toNat : Int) := rfl
  rw [e, IntKind.wrap_u8']
  omega
theorem take_next (xs ys : List Int) (k : Nat) (hx : k < xs.length) (hy : k < ys.length) : xs.take (k + 1) = ys.take (k + 1) ↔ xs.take k = ys.take k ∧ xs.getD k 0 = ys.getD k 0 := by
  rw [List.take_succ_eq_append_getElem hx, List.take_succ_eq_append_getElem hy, List.getD_eq_getElem?_getD, List.getD_eq_getElem?_getD, List.getElem?_eq_getElem hx, List.getElem?_eq_getElem hy]
  constructor
  · intro h
    have := List.append_inj h (by rw [List.length_take, List.length_take]; omega)
    exact ⟨this.1, by simpa using this.2⟩
  · rintro ⟨h1, h2⟩
    rw [h1]
    simp only [Option.getD_some] at h2
    rw [h2]
/-- At a round's head: k bytes are looked at. -/
def SmAt (w : World) (xs ys : List Int) (t i : Value) (wr : World) : Prop :=
  ∃ (k : Nat) (x : Int), k ≤ xs.length ∧ i = .int .i64 k ∧ t = .int .u8 x ∧ (0 ≤ x ∧ x < 256) ∧ (x = 0 ↔ xs.take k = ys.take k) ∧ wr = w
set_option maxRecDepth 100000 in
set_option maxHeartbeats 1000000 in
theorem same_any (A : Option Addr) (n c : Nat) (xs : List Int) (A2 : Option Addr) (n2 c2 : Nat) (ys : List Int) (w : World) (hn : n = xs.length) (hs : Src .u8 w A xs) (hx : IsBytes xs) (hn2 : n2 = ys.length) (hs2 : Src .u8 w A2 ys) (hy : IsBytes ys) (hl : n ≤ 9223372036854775807) :
    Calls Tryd.prog 12 #[.slice A n c, .slice A2 n2 c2] w fun e w' => e = .returned (.bool (decide (xs = ys))) ∧ w' = w := by
  have Hn := Lib.hid hn
  have Hs := Lib.hid hs
  have Hx := Lib.hid hx
  have Hn2 := Lib.hid hn2
  have Hs2 := Lib.hid hs2
  have Hy := Lib.hid hy
  have hl0 : (n : Int) ≤ 9223372036854775807 := by omega
  by_cases hne : n = n2
  · have h1 : ((n : Int) == (n2 : Int)) = true := by simp; omega
    have h2 : ((n : Int) != (n2 : Int)) = false := by simp; omega
    subst hne
    clear hn hs hx hn2 hs2 hy hl h1 h2
    go_enter Tryd.func12, Tryd.ntmps12
    go_wp2_with fail
    go_loopw [5, 15] (fun t i wr => SmAt w xs ys t i wr) (fun _ i _ => n - (intOf i).toNat)
    case atStart => exact ⟨0, 0, Nat.zero_le _, rfl, rfl, by omega, by simp, rfl⟩
    case round =>
      obtain ⟨k, x, hk, rfl, rfl, hxb, hxk, rfl⟩ := hrel
      by_cases hlt : k < n
      · obtain ⟨b, o, rfl, hbl, hcell⟩ := Hs.out (by rw [← Hn.out]; omega)
        obtain ⟨b2, o2, rfl, hbl2, hcell2⟩ := Hs2.out (by rw [← Hn2.out]; omega)
        have c1 := hcell k (by rw [← Hn.out]; exact hlt)
        have d1 := hcell2 k (by rw [← Hn2.out]; exact hlt)
        have HT := Lib.hid (take_next xs ys k (by rw [← Hn.out]; exact hlt) (by rw [← Hn2.out]; exact hlt))
        have hb1 := Hx.out.at_ k
        have hb2 := Hy.out.at_ k
        generalize xs.getD k 0 = u at *
        generalize ys.getD k 0 = v at *
        have HO := Lib.hid (or8_zero x u v hxb hb1 hb2)
        have HB := Lib.hid (or8_byte x (bits .xor .u8 u v))
        have HXK := Lib.hid hxk
        clear hcell hcell2 hxk
        generalize eO : bits .or .u8 x (bits .xor .u8 u v) = z at *
        go_wp2_with fail
        refine ⟨⟨k + 1, z, by have := Hn.out; omega, by go_num, rfl, HB.out, ?_, rfl⟩, ?_⟩
        · rw [HT.out, HO.out, HXK.out]
        · simp [intOf]; omega
      · obtain rfl : k = n := by have := Hn.out; omega
        have HE : (x == 0) = decide (xs = ys) := by
          rw [List.take_of_length_le (by have := Hn.out; omega), List.take_of_length_le (by have := Hn2.out; omega)] at hxk
          rw [Bool.eq_iff_iff]
          simpa using hxk
        have HE1 := Lib.hid HE
        clear hxk HE
        go_wp2_with fail
        go_ret
        exact ⟨by rw [← HE1.out]; rfl, rfl⟩
  · have h1 : ((n : Int) == (n2 : Int)) = false := by simp; omega
    have h2 : ((n : Int) != (n2 : Int)) = true := by simp; omega
    have HE := Lib.hid (show decide (xs = ys) = false by rw [decide_eq_false]; intro h; exact hne (by rw [hn, hn2, h]))
    clear hn hs hx hn2 hs2 hy hl
    go_enter Tryd.func12, Tryd.ntmps12
    go_wp2_with fail
    go_ret
    exact ⟨by rw [HE.out]; rfl, rfl⟩
end Go.Proofs.YtbhcikahemhfmaaDoor.Sha3.Hm

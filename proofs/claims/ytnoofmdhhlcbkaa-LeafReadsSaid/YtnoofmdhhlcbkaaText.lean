/- Text and ReadText, the program's and the document's. -/
import Derived.Test.YtnoofmdhhlcbkaaShort
import Derived.Test.YtnoofmdhhlcbkaaReadRef
import Derived.Test.YtnoofmdhhlcbkaaOneNums
import Derived.Test.YtnoofmdhhlcbkaaDraw
namespace Go.Proofs.Ytnoofmdhhlcbkaa
open Go.RowKit

/-- A text behind its length. -/
def textOf (s : ByteArray) : List Int := shortOf s.size ++ numsOf s
theorem textOf_bytes (s : ByteArray) : IsBytes (textOf s) := IsBytes.append (shortOf_bytes _) (numsOf_bytes s)

set_option maxHeartbeats 400000 in
theorem text_any (A : Option Addr) (n c : Nat) (xs : List Int) (s : ByteArray) (w : World) (hn : n = xs.length) (hs : Src .u8 w A xs) (hl : n ≤ 889000) (hz : s.size ≤ 10000) :
    Calls Try.prog 37 #[.slice A n c, .string s] w (Gives w (xs ++ textOf s)) := by
  have Hn := Lib.hid hn
  have Hs := Lib.hid hs
  clear hn hs
  go_enter Try.func37, Try.ntmps37
  go_wp2_with fail
  refine (short_any A n c xs _ _ Hn.out Hs.out (by omega) (by omega) (by omega)).mono ?_
  rintro e w1 ⟨v1, rfl, A1, n1, c1, rfl, hn1, ho1, hb1⟩
  rw [Int.toNat_natCast] at hn1 ho1
  have hlen : n1 ≤ 889010 ∧ 0 < n1 := by
    have h1 := shortOf_ten s.size (by omega)
    have h2 := shortOf_pos s.size
    have h3 := Hn.out
    rw [List.length_append] at hn1
    omega
  have hz1 := hb1.size
  have Hn1 := Lib.hid hn1
  clear hn1
  go_wp2_with (at_builtin; refine wpList_append_text rfl _ _ rfl w.heap.size A1 n1 c1 (xs ++ shortOf s.size) rfl Hn1.out ho1 (by omega) s rfl (by omega) (by omega) ?_; rintro v w3 ⟨A3, n3, c3, rfl, hn3, ho3, hb3⟩; have Hn3 := Lib.hid hn3; clear hn3)
  go_ret
  refine ⟨_, rfl, A3, n3, c3, rfl, ?_, ?_, hb1.trans hb3⟩
  · unfold textOf; rw [← List.append_assoc]; exact Hn3.out
  · unfold textOf; rw [← List.append_assoc]; exact ho3

set_option maxHeartbeats 400000 in
theorem textRef_any (A : Option Addr) (n c : Nat) (xs : List Int) (s : ByteArray) (w : World) (hn : n = xs.length) (hs : Src .u8 w A xs) (hl : n ≤ 889000) (hz : s.size ≤ 10000) :
    Calls Try.prog 50 #[.slice A n c, .string s] w (Gives w (xs ++ textOf s)) := by
  have Hn := Lib.hid hn
  have Hs := Lib.hid hs
  clear hn hs
  go_enter Try.func50, Try.ntmps50
  go_wp2_with fail
  refine (shortRef_any A n c xs _ _ Hn.out Hs.out (by omega) (by omega) (by omega)).mono ?_
  rintro e w1 ⟨v1, rfl, A1, n1, c1, rfl, hn1, ho1, hb1⟩
  rw [Int.toNat_natCast] at hn1 ho1
  have hlen : n1 ≤ 889010 ∧ 0 < n1 := by
    have h1 := shortOf_ten s.size (by omega)
    have h2 := shortOf_pos s.size
    have h3 := Hn.out
    rw [List.length_append] at hn1
    omega
  have hz1 := hb1.size
  have Hn1 := Lib.hid hn1
  clear hn1
  go_wp2_with (at_builtin; refine wpList_append_text rfl _ _ rfl w.heap.size A1 n1 c1 (xs ++ shortOf s.size) rfl Hn1.out ho1 (by omega) s rfl (by omega) (by omega) ?_; rintro v w3 ⟨A3, n3, c3, rfl, hn3, ho3, hb3⟩; have Hn3 := Lib.hid hn3; clear hn3)
  go_ret
  refine ⟨_, rfl, A3, n3, c3, rfl, ?_, ?_, hb1.trans hb3⟩
  · unfold textOf; rw [← List.append_assoc]; exact Hn3.out
  · unfold textOf; rw [← List.append_assoc]; exact ho3

/-- What ReadText tells: the text's bytes, how many bytes, the error. -/
def readText (xs : List Int) (most : Int) : List Int × Nat × Nat :=
  if (readOf xs).2.2 ≠ 0 then ([], 0, (readOf xs).2.2)
  else if most < 0 ∨ most < ((readOf xs).1 : Int) then ([], 0, 3)
  else if xs.length - (readOf xs).2.1 < (readOf xs).1 then ([], 0, 10)
  else ((xs.drop (readOf xs).2.1).take (readOf xs).1, (readOf xs).2.1 + (readOf xs).1, 0)

def TextEnds (xs : List Int) (most : Int) (w : World) (e : Ending) (w' : World) : Prop :=
  e = .returned (.tuple #[.string (strOfNums (readText xs most).1), .int .i64 ((readText xs most).2.1 : Int), .int .i64 ((readText xs most).2.2 : Int)]) ∧ Ext w w'
theorem text_ends {xs l : List Int} {most : Int} {w w' : World} {b c : Nat} {s : ByteArray} {m e : Int} (h : readText xs most = (l, b, c)) (hn : s = strOfNums l) (hm : m = (b : Int)) (he : e = (c : Int)) (hw : Ext w w') : TextEnds xs most w (.returned (.tuple #[.string s, .int .i64 m, .int .i64 e])) w' := by
  unfold TextEnds
  rw [h, hn, hm, he]
  exact ⟨rfl, hw⟩

theorem readText_bad {xs : List Int} {most : Int} {e : Nat} (h : readOf xs = (0, 0, e)) (h0 : e ≠ 0) : readText xs most = ([], 0, e) := by
  unfold readText; rw [h, if_pos h0]
theorem readText_big {xs : List Int} {most : Int} {a k : Nat} (h : readOf xs = (a, k, 0)) (hb : most < 0 ∨ most < (a : Int)) : readText xs most = ([], 0, 3) := by
  unfold readText; rw [h, if_neg (by simp), if_pos hb]
theorem readText_end {xs : List Int} {most : Int} {a k : Nat} (h : readOf xs = (a, k, 0)) (hb : ¬ (most < 0 ∨ most < (a : Int))) (he : xs.length - k < a) : readText xs most = ([], 0, 10) := by
  unfold readText; rw [h, if_neg (by simp), if_neg hb, if_pos he]
theorem readText_ok {xs : List Int} {most : Int} {a k : Nat} (h : readOf xs = (a, k, 0)) (hb : ¬ (most < 0 ∨ most < (a : Int))) (he : ¬ xs.length - k < a) : readText xs most = ((xs.drop k).take a, k + a, 0) := by
  unfold readText; rw [h, if_neg (by simp), if_neg hb, if_neg he]

theorem reads_p (A : Option Addr) (n c : Nat) (xs : List Int) (a k e : Int) (w : World) (hn : n = xs.length) (hs : Src .u8 w A xs) (hx : IsBytes xs) (hl : n ≤ 800000) (h : ((readOf xs).1 : Int) = a ∧ ((readOf xs).2.1 : Int) = k ∧ ((readOf xs).2.2 : Int) = e) :
    Calls Try.prog 40 #[.slice A n c] w fun E w' => E = .returned (.tuple #[.int .u64 a, .int .i64 k, .int .i64 e]) ∧ w = w' :=
  (read_any A n c xs w hn hs hx hl).mono fun E w' h' => by
    obtain ⟨rfl, rfl⟩ := h'
    obtain ⟨rfl, rfl, rfl⟩ := h
    exact ⟨rfl, rfl⟩
theorem reads_r (A : Option Addr) (n c : Nat) (xs : List Int) (a k e : Int) (w : World) (hn : n = xs.length) (hs : Src .u8 w A xs) (hx : IsBytes xs) (hl : n ≤ 800000) (h : ((readOf xs).1 : Int) = a ∧ ((readOf xs).2.1 : Int) = k ∧ ((readOf xs).2.2 : Int) = e) :
    Calls Try.prog 44 #[.slice A n c] w fun E w' => E = .returned (.tuple #[.int .u64 a, .int .i64 k, .int .i64 e]) ∧ w = w' :=
  (readRef_any A n c xs w hn hs hx hl).mono fun E w' h' => by
    obtain ⟨rfl, rfl⟩ := h'
    obtain ⟨rfl, rfl, rfl⟩ := h
    exact ⟨rfl, rfl⟩

set_option maxHeartbeats 1000000 in
theorem goReadText_bad (A : Option Addr) (n c : Nat) (xs : List Int) (most : Int) (w : World) (hn : n = xs.length) (hs : Src .u8 w A xs) (hx : IsBytes xs) (hl : n ≤ 10000) (e : Nat) (he : readOf xs = (0, 0, e)) (h0 : e ≠ 0) :
    Calls Try.prog 43 #[.slice A n c, .int .i64 most] w (TextEnds xs most w) := by
  have Hn := Lib.hid hn
  have Hs := Lib.hid hs
  have Hx := Lib.hid hx
  have HT := Lib.hid (readText_bad (most := most) he h0)
  obtain ⟨E, hE⟩ : ∃ E : Int, Hid (E = (e : Int)) := ⟨_, rfl⟩
  have HE : Hid (((readOf xs).1 : Int) = 0 ∧ ((readOf xs).2.1 : Int) = 0 ∧ ((readOf xs).2.2 : Int) = E) := by rw [he, hE.out]; exact ⟨rfl, rfl, rfl⟩
  have ne1 : (E == 0) = false := beq_eq_false_iff_ne.2 (by have := hE.out; omega)
  have ne2 : (E != 0) = true := by rw [bne_iff_ne]; have := hE.out; omega
  clear hx he h0 hn hs
  go_enter Try.func43, Try.ntmps43
  go_wp2_with fail
  refine (reads_p A n c xs 0 0 E _ Hn.out Hs.out Hx.out (by omega) HE.out).mono ?_
  rintro e' w' ⟨rfl, rfl⟩
  go_wp2_with fail
  go_ret3
  exact text_ends HT.out rfl rfl hE.out (Ext.refl _)

set_option maxHeartbeats 1000000 in
theorem goReadText_big (A : Option Addr) (n c : Nat) (xs : List Int) (most : Int) (w : World) (hn : n = xs.length) (hs : Src .u8 w A xs) (hx : IsBytes xs) (hl : n ≤ 10000) (hm1 : -9223372036854775808 ≤ most) (hm2 : most ≤ 9223372036854775807)
    (av k : Nat) (hr : readOf xs = (av, k, 0)) (hv : (av : Int) < 18446744073709551616) (hb : most < 0 ∨ most < (av : Int)) :
    Calls Try.prog 43 #[.slice A n c, .int .i64 most] w (TextEnds xs most w) := by
  have Hn := Lib.hid hn
  have Hs := Lib.hid hs
  have Hx := Lib.hid hx
  have HT := Lib.hid (readText_big hr hb)
  obtain ⟨a, ha⟩ : ∃ a : Int, Hid (a = (av : Int)) := ⟨_, rfl⟩
  have HE : Hid (((readOf xs).1 : Int) = a ∧ ((readOf xs).2.1 : Int) = (k : Int) ∧ ((readOf xs).2.2 : Int) = 0) := by rw [hr, ha.out]; exact ⟨rfl, rfl, rfl⟩
  have a0 : 0 ≤ a := by have := ha.out; omega
  have a1 : a < 18446744073709551616 := by have := ha.out; omega
  have hb' : most < 0 ∨ most < a := by have := ha.out; omega
  clear hx hr hn hs hv hb
  by_cases hneg : most < 0
  · clear hb'
    go_enter Try.func43, Try.ntmps43
    go_wp2_with fail
    refine (reads_p A n c xs a k 0 _ Hn.out Hs.out Hx.out (by omega) HE.out).mono ?_
    rintro e' w' ⟨rfl, rfl⟩
    go_wp2_with fail
    go_ret3
    exact text_ends HT.out rfl rfl rfl (Ext.refl _)
  · have hbig : most < a := by omega
    clear hb'
    go_enter Try.func43, Try.ntmps43
    go_wp2_with fail
    refine (reads_p A n c xs a k 0 _ Hn.out Hs.out Hx.out (by omega) HE.out).mono ?_
    rintro e' w' ⟨rfl, rfl⟩
    go_wp2_with fail
    go_ret3
    exact text_ends HT.out rfl rfl rfl (Ext.refl _)

set_option maxHeartbeats 1000000 in
set_option maxRecDepth 100000 in
theorem goReadText_end (b o n c : Nat) (xs : List Int) (most : Int) (w : World) (hn : n = xs.length) (hs : Src .u8 w (some ⟨b, o, none⟩) xs) (hx : IsBytes xs) (hl : n ≤ 10000) (hc : n ≤ c) (hcm : c ≤ 9223372036854775807) (hm2 : most ≤ 9223372036854775807)
    (av k : Nat) (hk : k ≤ n) (hr : readOf xs = (av, k, 0)) (hb : ¬ (most < 0 ∨ most < (av : Int))) (he : n - k < av) :
    Calls Try.prog 43 #[.slice (some ⟨b, o, none⟩) n c, .int .i64 most] w (TextEnds xs most w) := by
  have Hn := Lib.hid hn
  have Hs := Lib.hid hs
  have Hx := Lib.hid hx
  have HT := Lib.hid (readText_end hr hb (by omega))
  obtain ⟨a, ha⟩ : ∃ a : Int, Hid (a = (av : Int)) := ⟨_, rfl⟩
  have HE : Hid (((readOf xs).1 : Int) = a ∧ ((readOf xs).2.1 : Int) = (k : Int) ∧ ((readOf xs).2.2 : Int) = 0) := by rw [hr, ha.out]; exact ⟨rfl, rfl, rfl⟩
  have a0 : 0 ≤ a := by have := ha.out; omega
  have m0 : 0 ≤ most := by omega
  have m1 : a ≤ most := by have := ha.out; omega
  have a2 : ((n - k : Nat) : Int) < a := by have := ha.out; omega
  have a3 : (n : Int) - (k : Int) < a := by omega
  have k0 : (0 : Int) ≤ (k : Int) := by omega
  have k1 : (k : Int) ≤ (n : Int) := by omega
  have k3 : (n : Int) ≤ (c : Int) := by omega
  clear hx hr hn hs hb he
  by_cases hck : c = k
  · subst hck
    obtain rfl : n = c := by omega
    go_enter Try.func43, Try.ntmps43
    go_wp2_with fail
    refine (reads_p (some ⟨b, o, none⟩) n n xs a n 0 _ Hn.out Hs.out Hx.out (by omega) HE.out).mono ?_
    rintro e' w' ⟨rfl, rfl⟩
    go_wp2
    go_ret3
    exact text_ends HT.out rfl rfl rfl ((Below.refl _ _).alloc (Nat.le_refl _) _)
  · have hck' : k < c := by omega
    go_enter Try.func43, Try.ntmps43
    go_wp2_with fail
    refine (reads_p (some ⟨b, o, none⟩) n c xs a k 0 _ Hn.out Hs.out Hx.out (by omega) HE.out).mono ?_
    rintro e' w' ⟨rfl, rfl⟩
    go_wp2
    go_ret3
    exact text_ends HT.out rfl rfl rfl ((Below.refl _ _).alloc (Nat.le_refl _) _)

set_option maxHeartbeats 1000000 in
set_option maxRecDepth 100000 in
theorem goReadText_ok (b o n c : Nat) (xs : List Int) (most : Int) (w : World) (hn : n = xs.length) (hs : Src .u8 w (some ⟨b, o, none⟩) xs) (hx : IsBytes xs) (hl : n ≤ 10000) (hc : n ≤ c) (hcm : c ≤ 9223372036854775807) (hm2 : most ≤ 9223372036854775807)
    (j k : Nat) (hk : k ≤ n) (hr : readOf xs = (j, k, 0)) (hb : ¬ (most < 0 ∨ most < (j : Int))) (he : ¬ n - k < j) :
    Calls Try.prog 43 #[.slice (some ⟨b, o, none⟩) n c, .int .i64 most] w (TextEnds xs most w) := by
  have Hn := Lib.hid hn
  have Hs := Lib.hid hs
  have Hx := Lib.hid hx
  have HT := Lib.hid (readText_ok hr hb (by omega))
  have HE : Hid (((readOf xs).1 : Int) = (j : Int) ∧ ((readOf xs).2.1 : Int) = (k : Int) ∧ ((readOf xs).2.2 : Int) = 0) := by rw [hr]; exact ⟨rfl, rfl, rfl⟩
  have m0 : 0 ≤ most := by omega
  have m1 : (j : Int) ≤ most := by omega
  have a2 : k + j ≤ n := by omega
  have k3 : (n : Int) ≤ (c : Int) := by omega
  clear hx hr hn hs hb he
  by_cases hck : c = k
  · subst hck
    obtain rfl : n = c := by omega
    obtain rfl : j = 0 := by omega
    go_enter Try.func43, Try.ntmps43
    go_wp2_with fail
    refine (reads_p (some ⟨b, o, none⟩) n n xs 0 n 0 _ Hn.out Hs.out Hx.out (by omega) HE.out).mono ?_
    rintro e' w' ⟨rfl, rfl⟩
    have ht : (convert 22 9 (.slice (some ⟨b, o, none⟩) 0 0)).run Try.prog (w.alloc (.cells #[.int .u64 0] 52)) = .ok (.string (strOfNums [])) (w.alloc (.cells #[.int .u64 0] 52)) := run_text _ _ 0 0 [] rfl Src.none_
    go_wp2
    go_ret3
    exact text_ends HT.out (by rw [List.take_zero]) (by omega) rfl ((Below.refl _ _).alloc (Nat.le_refl _) _)
  · have hck' : k < c := by omega
    have hsrc := (Src.drop Hs.out k c (by rw [← Hn.out]; omega) (by rw [← Hn.out]; omega)).take j
    rw [if_neg hck] at hsrc
    have hadd : (⟨b, o, none⟩ : Addr).add k = ⟨b, o + k, none⟩ := by unfold Addr.add; split <;> simp_all
    simp only [Option.map_some, hadd] at hsrc
    have ht : (convert 22 9 (.slice (some ⟨b, o + k, none⟩) j (c - k))).run Try.prog (w.alloc (.cells #[.int .u64 ((n - k : Nat) : Int)] 52)) = .ok (.string (strOfNums ((xs.drop k).take j))) (w.alloc (.cells #[.int .u64 ((n - k : Nat) : Int)] 52)) := run_text _ _ j (c - k) _ (by rw [List.length_take, List.length_drop, ← Hn.out]; omega) (hsrc.keep ((Below.refl _ _).alloc (Nat.le_refl _) _))
    clear hsrc hadd
    go_enter Try.func43, Try.ntmps43
    go_wp2_with fail
    refine (reads_p (some ⟨b, o, none⟩) n c xs j k 0 _ Hn.out Hs.out Hx.out (by omega) HE.out).mono ?_
    rintro e' w' ⟨rfl, rfl⟩
    go_wp2
    go_ret3
    exact text_ends HT.out rfl (by omega) rfl ((Below.refl _ _).alloc (Nat.le_refl _) _)

/-- ReadText, for any bytes and any greatest length. -/
theorem goReadText_any (A : Option Addr) (n c : Nat) (xs : List Int) (most : Int) (w : World) (hn : n = xs.length) (hs : Src .u8 w A xs) (hx : IsBytes xs) (hl : n ≤ 10000) (hc : n ≤ c) (hcm : c ≤ 9223372036854775807) (hm1 : -9223372036854775808 ≤ most) (hm2 : most ≤ 9223372036854775807) :
    Calls Try.prog 43 #[.slice A n c, .int .i64 most] w (TextEnds xs most w) := by
  rcases read_cases xs hx with ⟨e, he, h0⟩ | ⟨k, k1, k2, hr, hv, _, _⟩
  · exact goReadText_bad A n c xs most w hn hs hx hl e he h0
  · by_cases hb : most < 0 ∨ most < (valOf (xs.take k) : Int)
    · exact goReadText_big A n c xs most w hn hs hx hl hm1 hm2 _ k hr (by omega) hb
    · obtain ⟨b, o, rfl, _, _⟩ := hs (by omega)
      by_cases he : n - k < valOf (xs.take k)
      · exact goReadText_end b o n c xs most w hn hs hx hl hc hcm hm2 _ k (by omega) hr hb he
      · exact goReadText_ok b o n c xs most w hn hs hx hl hc hcm hm2 _ k (by omega) hr hb he

set_option maxHeartbeats 1000000 in
theorem refReadText_bad (A : Option Addr) (n c : Nat) (xs : List Int) (most : Int) (w : World) (hn : n = xs.length) (hs : Src .u8 w A xs) (hx : IsBytes xs) (hl : n ≤ 10000) (e : Nat) (he : readOf xs = (0, 0, e)) (h0 : e ≠ 0) :
    Calls Try.prog 45 #[.slice A n c, .int .i64 most] w (TextEnds xs most w) := by
  have Hn := Lib.hid hn
  have Hs := Lib.hid hs
  have Hx := Lib.hid hx
  have HT := Lib.hid (readText_bad (most := most) he h0)
  obtain ⟨E, hE⟩ : ∃ E : Int, Hid (E = (e : Int)) := ⟨_, rfl⟩
  have HE : Hid (((readOf xs).1 : Int) = 0 ∧ ((readOf xs).2.1 : Int) = 0 ∧ ((readOf xs).2.2 : Int) = E) := by rw [he, hE.out]; exact ⟨rfl, rfl, rfl⟩
  have ne1 : (E == 0) = false := beq_eq_false_iff_ne.2 (by have := hE.out; omega)
  have ne2 : (E != 0) = true := by rw [bne_iff_ne]; have := hE.out; omega
  clear hx he h0 hn hs
  go_enter Try.func45, Try.ntmps45
  go_wp2_with fail
  refine (reads_r A n c xs 0 0 E _ Hn.out Hs.out Hx.out (by omega) HE.out).mono ?_
  rintro e' w' ⟨rfl, rfl⟩
  go_wp2_with fail
  go_ret3
  exact text_ends HT.out rfl rfl hE.out (Ext.refl _)

set_option maxHeartbeats 1000000 in
theorem refReadText_big (A : Option Addr) (n c : Nat) (xs : List Int) (most : Int) (w : World) (hn : n = xs.length) (hs : Src .u8 w A xs) (hx : IsBytes xs) (hl : n ≤ 10000) (hm1 : -9223372036854775808 ≤ most) (hm2 : most ≤ 9223372036854775807)
    (av k : Nat) (hr : readOf xs = (av, k, 0)) (hv : (av : Int) < 18446744073709551616) (hb : most < 0 ∨ most < (av : Int)) :
    Calls Try.prog 45 #[.slice A n c, .int .i64 most] w (TextEnds xs most w) := by
  have Hn := Lib.hid hn
  have Hs := Lib.hid hs
  have Hx := Lib.hid hx
  have HT := Lib.hid (readText_big hr hb)
  obtain ⟨a, ha⟩ : ∃ a : Int, Hid (a = (av : Int)) := ⟨_, rfl⟩
  have HE : Hid (((readOf xs).1 : Int) = a ∧ ((readOf xs).2.1 : Int) = (k : Int) ∧ ((readOf xs).2.2 : Int) = 0) := by rw [hr, ha.out]; exact ⟨rfl, rfl, rfl⟩
  have a0 : 0 ≤ a := by have := ha.out; omega
  have a1 : a < 18446744073709551616 := by have := ha.out; omega
  have hb' : most < 0 ∨ most < a := by have := ha.out; omega
  clear hx hr hn hs hv hb
  by_cases hneg : most < 0
  · clear hb'
    go_enter Try.func45, Try.ntmps45
    go_wp2_with fail
    refine (reads_r A n c xs a k 0 _ Hn.out Hs.out Hx.out (by omega) HE.out).mono ?_
    rintro e' w' ⟨rfl, rfl⟩
    go_wp2_with fail
    go_ret3
    exact text_ends HT.out rfl rfl rfl (Ext.refl _)
  · have hbig : most < a := by omega
    clear hb'
    go_enter Try.func45, Try.ntmps45
    go_wp2_with fail
    refine (reads_r A n c xs a k 0 _ Hn.out Hs.out Hx.out (by omega) HE.out).mono ?_
    rintro e' w' ⟨rfl, rfl⟩
    go_wp2_with fail
    go_ret3
    exact text_ends HT.out rfl rfl rfl (Ext.refl _)

set_option maxHeartbeats 1000000 in
set_option maxRecDepth 100000 in
theorem refReadText_end (b o n c : Nat) (xs : List Int) (most : Int) (w : World) (hn : n = xs.length) (hs : Src .u8 w (some ⟨b, o, none⟩) xs) (hx : IsBytes xs) (hl : n ≤ 10000) (hc : n ≤ c) (hcm : c ≤ 9223372036854775807) (hm2 : most ≤ 9223372036854775807)
    (av k : Nat) (hk : k ≤ n) (hr : readOf xs = (av, k, 0)) (hb : ¬ (most < 0 ∨ most < (av : Int))) (he : n - k < av) :
    Calls Try.prog 45 #[.slice (some ⟨b, o, none⟩) n c, .int .i64 most] w (TextEnds xs most w) := by
  have Hn := Lib.hid hn
  have Hs := Lib.hid hs
  have Hx := Lib.hid hx
  have HT := Lib.hid (readText_end hr hb (by omega))
  obtain ⟨a, ha⟩ : ∃ a : Int, Hid (a = (av : Int)) := ⟨_, rfl⟩
  have HE : Hid (((readOf xs).1 : Int) = a ∧ ((readOf xs).2.1 : Int) = (k : Int) ∧ ((readOf xs).2.2 : Int) = 0) := by rw [hr, ha.out]; exact ⟨rfl, rfl, rfl⟩
  have a0 : 0 ≤ a := by have := ha.out; omega
  have m0 : 0 ≤ most := by omega
  have m1 : a ≤ most := by have := ha.out; omega
  have a2 : ((n - k : Nat) : Int) < a := by have := ha.out; omega
  have a3 : (n : Int) - (k : Int) < a := by omega
  have k0 : (0 : Int) ≤ (k : Int) := by omega
  have k1 : (k : Int) ≤ (n : Int) := by omega
  have k3 : (n : Int) ≤ (c : Int) := by omega
  clear hx hr hn hs hb he
  by_cases hck : c = k
  · subst hck
    obtain rfl : n = c := by omega
    go_enter Try.func45, Try.ntmps45
    go_wp2_with fail
    refine (reads_r (some ⟨b, o, none⟩) n n xs a n 0 _ Hn.out Hs.out Hx.out (by omega) HE.out).mono ?_
    rintro e' w' ⟨rfl, rfl⟩
    go_wp2
    go_ret3
    exact text_ends HT.out rfl rfl rfl (Ext.refl _)
  · have hck' : k < c := by omega
    go_enter Try.func45, Try.ntmps45
    go_wp2_with fail
    refine (reads_r (some ⟨b, o, none⟩) n c xs a k 0 _ Hn.out Hs.out Hx.out (by omega) HE.out).mono ?_
    rintro e' w' ⟨rfl, rfl⟩
    go_wp2
    go_ret3
    exact text_ends HT.out rfl rfl rfl (Ext.refl _)

set_option maxHeartbeats 1000000 in
set_option maxRecDepth 100000 in
theorem refReadText_ok (b o n c : Nat) (xs : List Int) (most : Int) (w : World) (hn : n = xs.length) (hs : Src .u8 w (some ⟨b, o, none⟩) xs) (hx : IsBytes xs) (hl : n ≤ 10000) (hc : n ≤ c) (hcm : c ≤ 9223372036854775807) (hm2 : most ≤ 9223372036854775807)
    (j k : Nat) (hk : k ≤ n) (hr : readOf xs = (j, k, 0)) (hb : ¬ (most < 0 ∨ most < (j : Int))) (he : ¬ n - k < j) :
    Calls Try.prog 45 #[.slice (some ⟨b, o, none⟩) n c, .int .i64 most] w (TextEnds xs most w) := by
  have Hn := Lib.hid hn
  have Hs := Lib.hid hs
  have Hx := Lib.hid hx
  have HT := Lib.hid (readText_ok hr hb (by omega))
  have HE : Hid (((readOf xs).1 : Int) = (j : Int) ∧ ((readOf xs).2.1 : Int) = (k : Int) ∧ ((readOf xs).2.2 : Int) = 0) := by rw [hr]; exact ⟨rfl, rfl, rfl⟩
  have m0 : 0 ≤ most := by omega
  have m1 : (j : Int) ≤ most := by omega
  have a2 : k + j ≤ n := by omega
  have k3 : (n : Int) ≤ (c : Int) := by omega
  clear hx hr hn hs hb he
  by_cases hck : c = k
  · subst hck
    obtain rfl : n = c := by omega
    obtain rfl : j = 0 := by omega
    go_enter Try.func45, Try.ntmps45
    go_wp2_with fail
    refine (reads_r (some ⟨b, o, none⟩) n n xs 0 n 0 _ Hn.out Hs.out Hx.out (by omega) HE.out).mono ?_
    rintro e' w' ⟨rfl, rfl⟩
    have ht : (convert 22 9 (.slice (some ⟨b, o, none⟩) 0 0)).run Try.prog w = .ok (.string (strOfNums [])) w := run_text _ _ 0 0 [] rfl Src.none_
    go_wp2
    go_ret3
    exact text_ends HT.out (by rw [List.take_zero]) (by omega) rfl (Ext.refl _)
  · have hck' : k < c := by omega
    have hsrc := (Src.drop Hs.out k c (by rw [← Hn.out]; omega) (by rw [← Hn.out]; omega)).take j
    rw [if_neg hck] at hsrc
    have hadd : (⟨b, o, none⟩ : Addr).add k = ⟨b, o + k, none⟩ := by unfold Addr.add; split <;> simp_all
    simp only [Option.map_some, hadd] at hsrc
    have ht : (convert 22 9 (.slice (some ⟨b, o + k, none⟩) j (c - k))).run Try.prog w = .ok (.string (strOfNums ((xs.drop k).take j))) w := run_text _ _ j (c - k) _ (by rw [List.length_take, List.length_drop, ← Hn.out]; omega) (hsrc.keep (Ext.refl _))
    clear hsrc hadd
    go_enter Try.func45, Try.ntmps45
    go_wp2_with fail
    refine (reads_r (some ⟨b, o, none⟩) n c xs j k 0 _ Hn.out Hs.out Hx.out (by omega) HE.out).mono ?_
    rintro e' w' ⟨rfl, rfl⟩
    go_wp2
    go_ret3
    exact text_ends HT.out rfl (by omega) rfl (Ext.refl _)

/-- ReadText, for any bytes and any greatest length. -/
theorem refReadText_any (A : Option Addr) (n c : Nat) (xs : List Int) (most : Int) (w : World) (hn : n = xs.length) (hs : Src .u8 w A xs) (hx : IsBytes xs) (hl : n ≤ 10000) (hc : n ≤ c) (hcm : c ≤ 9223372036854775807) (hm1 : -9223372036854775808 ≤ most) (hm2 : most ≤ 9223372036854775807) :
    Calls Try.prog 45 #[.slice A n c, .int .i64 most] w (TextEnds xs most w) := by
  rcases read_cases xs hx with ⟨e, he, h0⟩ | ⟨k, k1, k2, hr, hv, _, _⟩
  · exact refReadText_bad A n c xs most w hn hs hx hl e he h0
  · by_cases hb : most < 0 ∨ most < (valOf (xs.take k) : Int)
    · exact refReadText_big A n c xs most w hn hs hx hl hm1 hm2 _ k hr (by omega) hb
    · obtain ⟨b, o, rfl, _, _⟩ := hs (by omega)
      by_cases he : n - k < valOf (xs.take k)
      · exact refReadText_end b o n c xs most w hn hs hx hl hc hcm hm2 _ k (by omega) hr hb he
      · exact refReadText_ok b o n c xs most w hn hs hx hl hc hcm hm2 _ k (by omega) hr hb he
end Go.Proofs.Ytnoofmdhhlcbkaa

/- The document's Put, for any bytes (at most 800000) and any number: the bytes, and the character's behind them, in memory of the call's own. No conditions but those that stand in each lemma. -/
import Derived.Test.YthifoodhndjmdaaDoorUtfCount
namespace Go.Proofs.YthifoodhndjmdaaDoor
open Go.RowKit
namespace Utf

theorem src_of (w : World) (xs : List Int) (cs : Array Value) (h : cs = bcells xs) : Src .u8 (w.alloc (.cells cs 5)) (some ⟨w.heap.size, 0, none⟩) xs := fun _ => by
  subst h
  exact ⟨w.heap.size, 0, rfl, by simp, fun i hi => by rw [Nat.zero_add]; exact (Row.new w 5 (bcells xs)).cell (bcells_at xs i hi)⟩
set_option maxRecDepth 100000 in
set_option maxHeartbeats 2000000 in
theorem rput_n0 (A : Option Addr) (n d : Nat) (xs : List Int) (c : Int) (w : World) (hn : n = xs.length) (hs : Src .u8 w A xs) (hl : n ≤ 800000) (h0 : -2147483648 ≤ c) (h : c < 0) :
    Calls Tryd.prog 15 #[.slice A n d, .int .i32 c] w (Gives w (xs ++ [])) := by
  have Hn := Lib.hid hn
  have Hs := Lib.hid hs
  clear hn hs
  go_enter Tryd.func15, Tryd.ntmps15
  go_wp2_with (at_builtin; refine wpList_append_src rfl (.tmp 7) (.tmp 8) rfl w.heap.size _ _ _ [] rfl rfl (own_made w _ (Nat.le_refl _)) A n d xs rfl Hn.out (Hs.out.keep ((Below.refl _ _).alloc (Nat.le_refl _) _)) (by omega) (by simp) ?_; rintro v w1 ⟨A1, n1, d1, rfl, hn1, ho1, hb1⟩; rw [List.nil_append] at hn1 ho1; have HN1 := Lib.hid hn1; have HO1 := Lib.hid ho1; have b1 := ((Below.refl w.heap.size w).alloc (Nat.le_refl _) (.cells #[] 5)).trans hb1; clear hn1 ho1 hb1)
  go_ret
  exact ⟨_, rfl, A1, n1, d1, rfl, by rw [List.append_nil]; exact HN1.out, by rw [List.append_nil]; exact HO1.out, b1⟩
set_option maxRecDepth 100000 in
set_option maxHeartbeats 2000000 in
theorem rput_n1 (A : Option Addr) (n d : Nat) (xs : List Int) (c : Int) (w : World) (hn : n = xs.length) (hs : Src .u8 w A xs) (hl : n ≤ 800000) (h0 : 1114111 < c) (h : c ≤ 2147483647) :
    Calls Tryd.prog 15 #[.slice A n d, .int .i32 c] w (Gives w (xs ++ [])) := by
  have Hn := Lib.hid hn
  have Hs := Lib.hid hs
  clear hn hs
  go_enter Tryd.func15, Tryd.ntmps15
  go_wp2_with (at_builtin; refine wpList_append_src rfl (.tmp 7) (.tmp 8) rfl w.heap.size _ _ _ [] rfl rfl (own_made w _ (Nat.le_refl _)) A n d xs rfl Hn.out (Hs.out.keep ((Below.refl _ _).alloc (Nat.le_refl _) _)) (by omega) (by simp) ?_; rintro v w1 ⟨A1, n1, d1, rfl, hn1, ho1, hb1⟩; rw [List.nil_append] at hn1 ho1; have HN1 := Lib.hid hn1; have HO1 := Lib.hid ho1; have b1 := ((Below.refl w.heap.size w).alloc (Nat.le_refl _) (.cells #[] 5)).trans hb1; clear hn1 ho1 hb1)
  go_ret
  exact ⟨_, rfl, A1, n1, d1, rfl, by rw [List.append_nil]; exact HN1.out, by rw [List.append_nil]; exact HO1.out, b1⟩
set_option maxRecDepth 100000 in
set_option maxHeartbeats 2000000 in
theorem rput_n2 (A : Option Addr) (n d : Nat) (xs : List Int) (c : Int) (w : World) (hn : n = xs.length) (hs : Src .u8 w A xs) (hl : n ≤ 800000) (h0 : 55296 ≤ c) (h : c ≤ 57343) :
    Calls Tryd.prog 15 #[.slice A n d, .int .i32 c] w (Gives w (xs ++ [])) := by
  have Hn := Lib.hid hn
  have Hs := Lib.hid hs
  clear hn hs
  go_enter Tryd.func15, Tryd.ntmps15
  go_wp2_with (at_builtin; refine wpList_append_src rfl (.tmp 7) (.tmp 8) rfl w.heap.size _ _ _ [] rfl rfl (own_made w _ (Nat.le_refl _)) A n d xs rfl Hn.out (Hs.out.keep ((Below.refl _ _).alloc (Nat.le_refl _) _)) (by omega) (by simp) ?_; rintro v w1 ⟨A1, n1, d1, rfl, hn1, ho1, hb1⟩; rw [List.nil_append] at hn1 ho1; have HN1 := Lib.hid hn1; have HO1 := Lib.hid ho1; have b1 := ((Below.refl w.heap.size w).alloc (Nat.le_refl _) (.cells #[] 5)).trans hb1; clear hn1 ho1 hb1)
  go_ret
  exact ⟨_, rfl, A1, n1, d1, rfl, by rw [List.append_nil]; exact HN1.out, by rw [List.append_nil]; exact HO1.out, b1⟩
set_option maxRecDepth 100000 in
set_option maxHeartbeats 2000000 in
theorem rput_1 (A : Option Addr) (n d : Nat) (xs : List Int) (c : Int) (w : World) (hn : n = xs.length) (hs : Src .u8 w A xs) (hl : n ≤ 800000) (h0 : 0 ≤ c) (h : c ≤ 127) :
    Calls Tryd.prog 15 #[.slice A n d, .int .i32 c] w (Gives w (xs ++ [c])) := by
  have Hn := Lib.hid hn
  have Hs := Lib.hid hs
  clear hn hs
  go_enter Tryd.func15, Tryd.ntmps15
  go_wp2_with (first
    | (at_builtin; refine wpList_append_src rfl (.tmp 7) (.tmp 8) rfl w.heap.size _ _ _ [] rfl rfl (own_made w _ (Nat.le_refl _)) A n d xs rfl Hn.out (Hs.out.keep ((Below.refl _ _).alloc (Nat.le_refl _) _)) (by omega) (by simp) ?_; rintro v w1 ⟨A1, n1, d1, rfl, hn1, ho1, hb1⟩; rw [List.nil_append] at hn1 ho1; have HN1 := Lib.hid hn1; have HO1 := Lib.hid ho1; have b1 := ((Below.refl w.heap.size w).alloc (Nat.le_refl _) (.cells #[] 5)).trans hb1; clear hn1 ho1 hb1)
    | (at_builtin; refine wpList_append_src rfl (.tmp 29) (.tmp 32) rfl w.heap.size A1 n1 d1 xs rfl HN1.out (HO1.out.keep ((Below.refl _ _).alloc (Nat.le_refl _) _)) _ 1 1 [c] rfl rfl (src_of _ _ _ rfl) (by have := HN1.out; have := Hn.out; omega) (by have := b1.size; simp; omega) ?_; rintro v w2 ⟨A2, n2, d2, rfl, hn2, ho2, hb2⟩; have HN2 := Lib.hid hn2; have HO2 := Lib.hid ho2; have b2 := (b1.alloc b1.size _).trans hb2; clear hn2 ho2 hb2))
  go_ret
  exact ⟨_, rfl, A2, n2, d2, rfl, HN2.out, HO2.out, b2⟩
set_option maxRecDepth 100000 in
set_option maxHeartbeats 2000000 in
theorem rput_2 (A : Option Addr) (n d : Nat) (xs : List Int) (c : Int) (w : World) (hn : n = xs.length) (hs : Src .u8 w A xs) (hl : n ≤ 800000) (h0 : 128 ≤ c) (h : c ≤ 2047) :
    Calls Tryd.prog 15 #[.slice A n d, .int .i32 c] w (Gives w (xs ++ [192 + c / 64, 128 + c % 64])) := by
  have Hn := Lib.hid hn
  have Hs := Lib.hid hs
  clear hn hs
  go_enter Tryd.func15, Tryd.ntmps15
  go_wp2_with (first
    | (at_builtin; refine wpList_append_src rfl (.tmp 7) (.tmp 8) rfl w.heap.size _ _ _ [] rfl rfl (own_made w _ (Nat.le_refl _)) A n d xs rfl Hn.out (Hs.out.keep ((Below.refl _ _).alloc (Nat.le_refl _) _)) (by omega) (by simp) ?_; rintro v w1 ⟨A1, n1, d1, rfl, hn1, ho1, hb1⟩; rw [List.nil_append] at hn1 ho1; have HN1 := Lib.hid hn1; have HO1 := Lib.hid ho1; have b1 := ((Below.refl w.heap.size w).alloc (Nat.le_refl _) (.cells #[] 5)).trans hb1; clear hn1 ho1 hb1)
    | (at_builtin; refine wpList_append_src rfl (.tmp 36) (.tmp 45) rfl w.heap.size A1 n1 d1 xs rfl HN1.out (HO1.out.keep ((Below.refl _ _).alloc (Nat.le_refl _) _)) _ 2 2 [192 + c / 64, 128 + c % 64] rfl rfl (src_of _ _ _ rfl) (by have := HN1.out; have := Hn.out; omega) (by have := b1.size; simp; omega) ?_; rintro v w2 ⟨A2, n2, d2, rfl, hn2, ho2, hb2⟩; have HN2 := Lib.hid hn2; have HO2 := Lib.hid ho2; have b2 := (b1.alloc b1.size _).trans hb2; clear hn2 ho2 hb2))
  go_ret
  exact ⟨_, rfl, A2, n2, d2, rfl, HN2.out, HO2.out, b2⟩
set_option maxRecDepth 100000 in
set_option maxHeartbeats 2000000 in
theorem rput_3a (A : Option Addr) (n d : Nat) (xs : List Int) (c : Int) (w : World) (hn : n = xs.length) (hs : Src .u8 w A xs) (hl : n ≤ 800000) (h0 : 2048 ≤ c) (h : c < 55296) :
    Calls Tryd.prog 15 #[.slice A n d, .int .i32 c] w (Gives w (xs ++ [224 + c / 4096, 128 + c / 64 % 64, 128 + c % 64])) := by
  have Hn := Lib.hid hn
  have Hs := Lib.hid hs
  clear hn hs
  go_enter Tryd.func15, Tryd.ntmps15
  go_wp2_with (first
    | (at_builtin; refine wpList_append_src rfl (.tmp 7) (.tmp 8) rfl w.heap.size _ _ _ [] rfl rfl (own_made w _ (Nat.le_refl _)) A n d xs rfl Hn.out (Hs.out.keep ((Below.refl _ _).alloc (Nat.le_refl _) _)) (by omega) (by simp) ?_; rintro v w1 ⟨A1, n1, d1, rfl, hn1, ho1, hb1⟩; rw [List.nil_append] at hn1 ho1; have HN1 := Lib.hid hn1; have HO1 := Lib.hid ho1; have b1 := ((Below.refl w.heap.size w).alloc (Nat.le_refl _) (.cells #[] 5)).trans hb1; clear hn1 ho1 hb1)
    | (at_builtin; refine wpList_append_src rfl (.tmp 49) (.tmp 63) rfl w.heap.size A1 n1 d1 xs rfl HN1.out (HO1.out.keep ((Below.refl _ _).alloc (Nat.le_refl _) _)) _ 3 3 [224 + c / 4096, 128 + c / 64 % 64, 128 + c % 64] rfl rfl (src_of _ _ _ rfl) (by have := HN1.out; have := Hn.out; omega) (by have := b1.size; simp; omega) ?_; rintro v w2 ⟨A2, n2, d2, rfl, hn2, ho2, hb2⟩; have HN2 := Lib.hid hn2; have HO2 := Lib.hid ho2; have b2 := (b1.alloc b1.size _).trans hb2; clear hn2 ho2 hb2))
  go_ret
  exact ⟨_, rfl, A2, n2, d2, rfl, HN2.out, HO2.out, b2⟩
set_option maxRecDepth 100000 in
set_option maxHeartbeats 2000000 in
theorem rput_3b (A : Option Addr) (n d : Nat) (xs : List Int) (c : Int) (w : World) (hn : n = xs.length) (hs : Src .u8 w A xs) (hl : n ≤ 800000) (h0 : 57343 < c) (h : c ≤ 65535) :
    Calls Tryd.prog 15 #[.slice A n d, .int .i32 c] w (Gives w (xs ++ [224 + c / 4096, 128 + c / 64 % 64, 128 + c % 64])) := by
  have Hn := Lib.hid hn
  have Hs := Lib.hid hs
  clear hn hs
  go_enter Tryd.func15, Tryd.ntmps15
  go_wp2_with (first
    | (at_builtin; refine wpList_append_src rfl (.tmp 7) (.tmp 8) rfl w.heap.size _ _ _ [] rfl rfl (own_made w _ (Nat.le_refl _)) A n d xs rfl Hn.out (Hs.out.keep ((Below.refl _ _).alloc (Nat.le_refl _) _)) (by omega) (by simp) ?_; rintro v w1 ⟨A1, n1, d1, rfl, hn1, ho1, hb1⟩; rw [List.nil_append] at hn1 ho1; have HN1 := Lib.hid hn1; have HO1 := Lib.hid ho1; have b1 := ((Below.refl w.heap.size w).alloc (Nat.le_refl _) (.cells #[] 5)).trans hb1; clear hn1 ho1 hb1)
    | (at_builtin; refine wpList_append_src rfl (.tmp 49) (.tmp 63) rfl w.heap.size A1 n1 d1 xs rfl HN1.out (HO1.out.keep ((Below.refl _ _).alloc (Nat.le_refl _) _)) _ 3 3 [224 + c / 4096, 128 + c / 64 % 64, 128 + c % 64] rfl rfl (src_of _ _ _ rfl) (by have := HN1.out; have := Hn.out; omega) (by have := b1.size; simp; omega) ?_; rintro v w2 ⟨A2, n2, d2, rfl, hn2, ho2, hb2⟩; have HN2 := Lib.hid hn2; have HO2 := Lib.hid ho2; have b2 := (b1.alloc b1.size _).trans hb2; clear hn2 ho2 hb2))
  go_ret
  exact ⟨_, rfl, A2, n2, d2, rfl, HN2.out, HO2.out, b2⟩
set_option maxRecDepth 100000 in
set_option maxHeartbeats 2000000 in
theorem rput_4 (A : Option Addr) (n d : Nat) (xs : List Int) (c : Int) (w : World) (hn : n = xs.length) (hs : Src .u8 w A xs) (hl : n ≤ 800000) (h0 : 65536 ≤ c) (h : c ≤ 1114111) :
    Calls Tryd.prog 15 #[.slice A n d, .int .i32 c] w (Gives w (xs ++ [240 + c / 262144, 128 + c / 4096 % 64, 128 + c / 64 % 64, 128 + c % 64])) := by
  have Hn := Lib.hid hn
  have Hs := Lib.hid hs
  clear hn hs
  go_enter Tryd.func15, Tryd.ntmps15
  go_wp2_with (first
    | (at_builtin; refine wpList_append_src rfl (.tmp 7) (.tmp 8) rfl w.heap.size _ _ _ [] rfl rfl (own_made w _ (Nat.le_refl _)) A n d xs rfl Hn.out (Hs.out.keep ((Below.refl _ _).alloc (Nat.le_refl _) _)) (by omega) (by simp) ?_; rintro v w1 ⟨A1, n1, d1, rfl, hn1, ho1, hb1⟩; rw [List.nil_append] at hn1 ho1; have HN1 := Lib.hid hn1; have HO1 := Lib.hid ho1; have b1 := ((Below.refl w.heap.size w).alloc (Nat.le_refl _) (.cells #[] 5)).trans hb1; clear hn1 ho1 hb1)
    | (at_builtin; refine wpList_append_src rfl (.tmp 65) (.tmp 84) rfl w.heap.size A1 n1 d1 xs rfl HN1.out (HO1.out.keep ((Below.refl _ _).alloc (Nat.le_refl _) _)) _ 4 4 [240 + c / 262144, 128 + c / 4096 % 64, 128 + c / 64 % 64, 128 + c % 64] rfl rfl (src_of _ _ _ rfl) (by have := HN1.out; have := Hn.out; omega) (by have := b1.size; simp; omega) ?_; rintro v w2 ⟨A2, n2, d2, rfl, hn2, ho2, hb2⟩; have HN2 := Lib.hid hn2; have HO2 := Lib.hid ho2; have b2 := (b1.alloc b1.size _).trans hb2; clear hn2 ho2 hb2))
  go_ret
  exact ⟨_, rfl, A2, n2, d2, rfl, HN2.out, HO2.out, b2⟩
theorem rput_any (A : Option Addr) (n d : Nat) (xs : List Int) (c : Int) (w : World) (hn : n = xs.length) (hs : Src .u8 w A xs) (hl : n ≤ 800000) (hc : -2147483648 ≤ c ∧ c ≤ 2147483647) :
    Calls Tryd.prog 15 #[.slice A n d, .int .i32 c] w (Gives w (xs ++ formI c)) := by
  rcases form_cases c with ⟨_, e, h⟩ | ⟨_, e, h⟩ | ⟨_, e, h⟩ | ⟨_, e, h⟩ | ⟨_, e, h⟩ <;> rw [e]
  · rcases h with h | ⟨h, h'⟩ | h
    · exact rput_n0 A n d xs c w hn hs hl hc.1 h
    · exact rput_n2 A n d xs c w hn hs hl h h'
    · exact rput_n1 A n d xs c w hn hs hl h hc.2
  · exact rput_1 A n d xs c w hn hs hl h.1 h.2
  · exact rput_2 A n d xs c w hn hs hl h.1 h.2
  · by_cases h5 : c < 55296
    · exact rput_3a A n d xs c w hn hs hl h.1 h5
    · exact rput_3b A n d xs c w hn hs hl (by omega) h.2.1
  · exact rput_4 A n d xs c w hn hs hl h.1 h.2
end Utf
end Go.Proofs.YthifoodhndjmdaaDoor

/- HexTells' walk: for any bytes and any text that the form admits, it answers true, and writes nothing that was there. -/
import Derived.Test.YteapddoanggniaaHex
import Derived.Test.YteapddoanggniaaHexRef
import Derived.Test.YteapddoanggniaaReadHexRef
import Derived.Test.YteapddoanggniaaLowerRef
namespace Go.Proofs.Yteapddoanggniaa
open Go.RowKit

theorem off_tell : strOfNums (hexW [10, 255]) = ⟨#[48, 97, 102, 102]⟩ := by decide
theorem off_bytes : IsBytes [10, 255] := by
  intro x hx
  simp at hx
  omega
theorem reads_same {xs : List Int} {w w2 w' w2' : World} {e e2 : Ending} (h : ReadsTo xs w e w') (h2 : ReadsTo xs w2 e2 w2') :
    ∃ zs ok, (∃ A m c, e = .returned (.tuple #[.slice A m c, .bool ok]) ∧ m = zs.length ∧ Src .u8 w' A zs) ∧ (∃ A m c, e2 = .returned (.tuple #[.slice A m c, .bool ok]) ∧ m = zs.length ∧ Src .u8 w2' A zs) := by
  obtain ⟨A, m, c, zs, ok, he, hm, _, hs, _, hr⟩ := h
  obtain ⟨A2, m2, c2, zs2, ok2, he2, hm2, _, hs2, _, hr2⟩ := h2
  rcases hr with ⟨r, rfl, rfl⟩ | ⟨r, rfl, rfl⟩ <;> rcases hr2 with ⟨r2, rfl, rfl⟩ | ⟨r2, rfl, rfl⟩
  · exact ⟨_, _, ⟨A, m, c, he, hm, hs⟩, ⟨A2, m2, c2, he2, hm2, hs2⟩⟩
  · exact absurd r r2
  · exact absurd r2 r
  · exact ⟨_, _, ⟨A, m, c, he, hm, hs⟩, ⟨A2, m2, c2, he2, hm2, hs2⟩⟩
theorem ReadsTo.below {xs : List Int} {w w' : World} {e : Ending} (h : ReadsTo xs w e w') : Below w.heap.size w w' := by
  obtain ⟨_, _, _, _, _, _, _, _, _, hb, _⟩ := h
  exact hb

set_option maxHeartbeats 400000 in
theorem hexTells_long (A : Option Addr) (n c : Nat) (s : ByteArray) (w : World) (h1 : n ≤ 140737488351232) (h2 : s.size ≤ 140737488351232) (h : 2000 < n + s.size) :
    Calls Try.prog 3 #[.slice A n c, .string s] w fun e w' => e = .returned (.bool true) ∧ Below w.heap.size w w' := by
  go_enter Try.func3, Try.ntmps3
  go_wp2_with fail
  go_ret
  exact ⟨rfl, Below.refl _ _⟩

set_option maxRecDepth 100000 in
set_option maxHeartbeats 4000000 in
theorem hexTells_small (A : Option Addr) (n c : Nat) (xs : List Int) (s : ByteArray) (w : World) (hn : n = xs.length) (hs : Src .u8 w A xs) (hx : IsBytes xs) (hl : n + s.size ≤ 2000) :
    Calls Try.prog 3 #[.slice A n c, .string s] w fun e w' => e = .returned (.bool true) ∧ Below w.heap.size w w' := by
  have Hn := Lib.hid hn
  have Hs := Lib.hid hs
  have Hx := Lib.hid hx
  have hd : decide ((2000 : Int) < (n : Int) + (s.size : Int)) = false := by simp; omega
  have hd2 : decide (2000 < n + s.size) = false := by simp; omega
  have HR := Lib.hid (fun w' => readHex_any s w' (by omega))
  have HF := Lib.hid (fun w' => refReadHex_any s w' (by omega))
  have HH := Lib.hid (fun w2 (b2 : Below w.heap.size w w2) => hex_any A n c xs w2 Hn.out (Hs.out.keep b2) Hx.out (by omega))
  have HG := Lib.hid (fun w2 (b2 : Below w.heap.size w w2) => hexRef_any A n c xs w2 Hn.out (Hs.out.keep b2) Hx.out (by omega))
  have HL := Lib.hid (fun w' => lower_any s w' (by omega))
  have HM := Lib.hid (fun w' => lowerRef_any s w' (by omega))
  generalize strOfNums (lowW (numsOf s)) = L at *
  generalize strOfNums (hexW xs) = T at *
  generalize numsOf s = us at *
  clear hn hs hx Hn Hs Hx
  go_enter Try.func3, Try.ntmps3
  go_wp2_with fail
  refine (HR.out _).mono ?_
  intro e1 w1 r1
  have R1 := Lib.hid r1
  have b1 := r1.below
  obtain ⟨A1, m1, c1, z1, k1, rfl, hm1, _, hs1, _, _⟩ := r1
  have Hm1 := Lib.hid hm1
  have Hs1 := Lib.hid hs1
  clear hm1 hs1
  go_wp2_with fail
  refine (HF.out _).mono ?_
  intro e2 w2 r2
  have b2 := b1.trans (r2.below.mono b1.size)
  have b12 : Below w1.heap.size w1 w2 := r2.below
  obtain ⟨zs, ok, ⟨A1', m1', c1', he1, hm1, hs1⟩, ⟨A2, m2, c2, rfl, hm2, hs2⟩⟩ := reads_same R1.out r2
  simp only [Ending.returned.injEq, Value.tuple.injEq, Array.mk.injEq, List.cons.injEq, Value.slice.injEq, Value.bool.injEq, and_true] at he1
  obtain ⟨⟨rfl, rfl, rfl⟩, rfl⟩ := he1
  have Ht1 := Lib.hid (fun w' (b' : Below w2.heap.size w2 w') => run_text w' A1 m1 c1 zs hm1 ((hs1.keep b12).keep b'))
  have Ht2 := Lib.hid (fun w' (b' : Below w2.heap.size w2 w') => run_text w' A2 m2 c2 zs hm2 (hs2.keep b'))
  generalize strOfNums zs = Z at *
  clear hm1 hs1 hm2 hs2 Hm1 Hs1 R1 r2 b12 b1 HR HF
  go_wp2_with fail
  refine (HH.out _ b2).mono ?_
  rintro e w3 ⟨rfl, hb3⟩
  have b3 := b2.trans (hb3.mono b2.size)
  go_wp2_with fail
  refine (HG.out _ b3).mono ?_
  rintro e w4 ⟨rfl, hb4⟩
  have b4 := b3.trans (hb4.mono b3.size)
  have t1 := Ht1.out w4 (hb3.trans (hb4.mono hb3.size))
  have t2 := Ht2.out w4 (hb3.trans (hb4.mono hb3.size))
  clear hb3 hb4 b3 b2 HH HG Ht1 Ht2
  go_wp2_with fail
  clear t1 t2
  refine (HL.out _).mono ?_
  rintro e w5 ⟨rfl, hb5⟩
  have b5 := b4.trans (hb5.mono b4.size)
  clear hb5 b4
  go_wp2_with fail
  refine (HM.out _).mono ?_
  rintro e w6 ⟨rfl, hb6⟩
  have b6 := b5.trans (hb6.mono b5.size)
  clear hb6 b5
  have b7 := b6.alloc b6.size (.cells #[.int .u8 10, .int .u8 255] 5)
  have C7 := Lib.hid (hex_any (some ⟨w6.heap.size, 0, none⟩) 2 2 [10, 255] _ rfl (src_two w6 10 255) off_bytes (by omega))
  rw [off_tell] at C7
  clear b6
  go_wp2_with fail
  refine C7.out.mono ?_
  rintro e w8 ⟨rfl, hb8⟩
  have b8 := b7.trans (hb8.mono b7.size)
  clear hb8 C7
  go_wp2_with fail
  go_ret
  exact ⟨rfl, b8⟩
end Go.Proofs.Yteapddoanggniaa

/- ReadHex, for any text (at most 1000000 bytes): the bytes that it tells, or none; nothing that was there is written. -/
import Derived.Test.YteapddoanggniaaDoorRow
import Derived.Test.YteapddoanggniaaDoorDigit
import Derived.BigQuiet
import Derived.Deep.QuietTactic
namespace Go.Proofs.YteapddoanggniaaDoor
open Go.RowKit

/-- What ReadHex answers, of the program and of the document. -/
def ReadsTo (xs : List Int) (w : World) (e : Ending) (w' : World) : Prop :=
  ∃ A m c zs ok, e = .returned (.tuple #[.slice A m c, .bool ok]) ∧ m = zs.length ∧ m ≤ c ∧ Src .u8 w' A zs ∧ Below w.heap.size w w' ∧ ((Right xs ∧ ok = true ∧ zs = pairsW xs (xs.length / 2)) ∨ (¬ Right xs ∧ ok = false ∧ zs = []))
theorem reads_none {xs : List Int} {w w' : World} (h : ¬ Right xs) (hb : Below w.heap.size w w') : ReadsTo xs w (.returned (.tuple #[.slice none 0 0, .bool false])) w' :=
  ⟨none, 0, 0, [], false, rfl, rfl, Nat.le_refl _, Src.none_, hb, .inr ⟨h, rfl, rfl⟩⟩
theorem not_right {xs : List Int} {k : Nat} (hk : k < xs.length / 2) (h : ¬ (0 ≤ valI (xs.getD (2 * k) 0) ∧ 0 ≤ valI (xs.getD (2 * k + 1) 0))) : ¬ Right xs := fun hr => h (hr.2 k hk)
theorem look16_ok {c : Int} (h : 0 ≤ valI c) : look16 c = .tuple #[.int .i64 (valI c), .bool true] := by
  unfold look16
  rw [if_pos h, decide_eq_true h]
theorem look16_bad {c : Int} (h : ¬ 0 ≤ valI c) : look16 c = .tuple #[.int .i64 0, .bool false] := by
  unfold look16
  rw [if_neg h, decide_eq_false h]
theorem set_there (l r : List Int) (x z : Int) (k : Nat) (h : l.length = k) : (l ++ z :: r).set k x = l ++ x :: r := by
  subst h
  simp

/-- At a round's head: k pairs are read. -/
def ReadAt (w : World) (xs : List Int) (h : Nat) (i : Value) (wr : World) : Prop :=
  ∃ k : Nat, k ≤ h ∧ i = .int .i64 k ∧ Good xs k ∧ Row wr (w.heap.size + 1) 5 (bcells (pairsW xs k ++ List.replicate (h - k) 0)) ∧ Row wr w.heap.size 3 #[.int .i64 16] ∧ Below w.heap.size w wr

set_option maxHeartbeats 400000 in
theorem readHex_odd (s : ByteArray) (h : Nat) (w : World) (hs : s.size = 2 * h + 1) (hl : s.size ≤ 1000000) :
    Calls Tryd.prog 11 #[.string s] w (ReadsTo (numsOf s) w) := by
  have HR := Lib.hid (show ¬ Right (numsOf s) from fun hr => by have := hr.1; rw [numsOf_length] at this; omega)
  go_enter Tryd.func11, Tryd.ntmps11
  go_wp2_with fail
  go_ret2
  exact reads_none HR.out (Below.refl _ _)

set_option maxRecDepth 100000 in
set_option maxHeartbeats 1000000 in
theorem readHex_even (s : ByteArray) (h : Nat) (w : World) (hs : s.size = 2 * h) (hl : s.size ≤ 1000000) :
    Calls Tryd.prog 11 #[.string s] w (ReadsTo (numsOf s) w) := by
  have hm := make_full h (by omega)
  have Hxl := Lib.hid (show (numsOf s).length = 2 * h by rw [numsOf_length, hs])
  have Hx := Lib.hid (numsOf_bytes s)
  have Hs := Lib.hid hs
  go_enter Tryd.func11, Tryd.ntmps11
  go_wp2_with fail
  refine (digitsOf_any 16 w).mono ?_
  rintro e w1 ⟨rfl, rfl⟩
  go_wp2_with fail
  go_loopw [22] (fun i wr => ReadAt w (numsOf s) h i wr) (fun i _ => h - (intOf i).toNat)
  case atStart => exact ⟨0, Nat.zero_le _, rfl, Good.zero _, by
    have r := Row.new (w.alloc (.cells #[.int .i64 16] 3)) 5 (bcells (List.replicate h 0))
    rw [World.size_alloc] at r
    simpa [pairsW] using r, (Row.new _ _ _).old _, ((Below.refl _ _).alloc (Nat.le_refl _) _).alloc (by simp) _⟩
  case round =>
    obtain ⟨k, hk, rfl, hg, hrow, hc, hb⟩ := hrel
    by_cases hlt : k < h
    · have i0 := fun w' => run_index_str (P := Tryd.prog) w' 9 s (2 * (k : Int)) (2 * k) (by omega) Tryd.underlying9 (by rw [Hs.out]; omega)
      have i1 := fun w' => run_index_str (P := Tryd.prog) w' 9 s (2 * (k : Int) + 1) (2 * k + 1) (by omega) Tryd.underlying9 (by rw [Hs.out]; omega)
      have HN := Lib.hid (not_right (xs := numsOf s) (k := k) (by rw [Hxl.out]; omega))
      have HG := Lib.hid (fun (a : 0 ≤ valI ((numsOf s).getD (2 * k) 0)) (b : 0 ≤ valI ((numsOf s).getD (2 * k + 1) 0)) => hg.next a b)
      have HP := Lib.hid (pairsW_next (numsOf s) k)
      have HA := Lib.hid (show pairAt (numsOf s) k = 16 * valI ((numsOf s).getD (2 * k) 0) + valI ((numsOf s).getD (2 * k + 1) 0) from rfl)
      have u0 := Hx.out.at_ (2 * k)
      have u1 := Hx.out.at_ (2 * k + 1)
      generalize (numsOf s).getD (2 * k) 0 = u at *
      generalize (numsOf s).getD (2 * k + 1) 0 = l at *
      have Hg := Lib.hid hg
      have cc : wr.cell? ⟨w.heap.size, 0, none⟩ = some (.int .i64 16) := hc.cell rfl
      clear hg
      by_cases hp : 0 ≤ valI u
      · by_cases hq : 0 ≤ valI l
        · go_wp2_with fail
          refine (look16_any w.heap.size u _ u0 cc).mono ?_
          rintro e w1 ⟨rfl, rfl⟩
          rw [look16_ok hp]
          go_wp2_with fail
          refine (look16_any w.heap.size l _ u1 cc).mono ?_
          rintro e w1 ⟨rfl, rfl⟩
          rw [look16_ok hq]
          have v0 := (valI_le u).2
          have v1 := (valI_le l).2
          generalize valI u = a at *
          generalize valI l = b at *
          obtain ⟨d, hd⟩ : ∃ d, h - k = d + 1 := ⟨h - k - 1, by omega⟩
          have hd' : h - (k + 1) = d := by omega
          have Hd' := Lib.hid hd'
          rw [hd, List.replicate_succ] at hrow
          clear hd hd'
          have hco := hrow.cell (bcells_at _ k (by simp [pairsW_length]))
          have hfr := hrow.free k
          generalize (pairsW (numsOf s) k ++ 0 :: List.replicate d 0).getD k 0 = z at *
          go_wp2_with fail
          have r2 := hrow.set k (.int .u8 (16 * a + b))
          rw [bcells_set, set_there _ _ _ _ k (pairsW_length _ _)] at r2
          go_roundw
          case rel => exact ⟨k + 1, by omega, by go_num, HG.out hp hq, by rw [HP.out, HA.out, Hd'.out, List.append_assoc]; exact r2, hc.other (by omega) _ _, hb.setCell (p := ⟨w.heap.size + 1, k, none⟩) (by simp) _⟩
          case measure => simp [intOf]; omega
        · go_wp2_with fail
          refine (look16_any w.heap.size u _ u0 cc).mono ?_
          rintro e w1 ⟨rfl, rfl⟩
          rw [look16_ok hp]
          go_wp2_with fail
          refine (look16_any w.heap.size l _ u1 cc).mono ?_
          rintro e w1 ⟨rfl, rfl⟩
          rw [look16_bad (c := l) (by omega)]
          go_wp2_with fail
          go_ret2
          exact reads_none (HN.out fun hh => by omega) hb
      · obtain ⟨b, q, hl⟩ : ∃ b q, look16 l = .tuple #[.int .i64 b, .bool q] := ⟨_, _, rfl⟩
        go_wp2_with fail
        refine (look16_any w.heap.size u _ u0 cc).mono ?_
        rintro e w1 ⟨rfl, rfl⟩
        rw [look16_bad (c := u) (by omega)]
        go_wp2_with fail
        refine (look16_any w.heap.size l _ u1 cc).mono ?_
        rintro e w1 ⟨rfl, rfl⟩
        rw [hl]
        clear hl
        go_wp2_with fail
        go_ret2
        exact reads_none (HN.out fun hh => by omega) hb
    · have hkn : k = h := by omega
      subst hkn
      have HR := Lib.hid (show Right (numsOf s) from ⟨by rw [Hxl.out]; omega, by rw [Hxl.out, show 2 * k / 2 = k by omega]; exact hg⟩)
      have HL := Lib.hid (show (numsOf s).length / 2 = k by rw [Hxl.out]; omega)
      rw [Nat.sub_self, show List.replicate 0 (0 : Int) = [] from rfl, List.append_nil] at hrow
      clear hg
      go_wp2_with fail
      go_ret2
      exact ⟨some ⟨w.heap.size + 1, 0, none⟩, k, k, pairsW (numsOf s) k, true, rfl, (pairsW_length _ _).symm, Nat.le_refl _, row_bytes hrow, hb, .inl ⟨HR.out, rfl, by rw [HL.out]⟩⟩
end Go.Proofs.YteapddoanggniaaDoor

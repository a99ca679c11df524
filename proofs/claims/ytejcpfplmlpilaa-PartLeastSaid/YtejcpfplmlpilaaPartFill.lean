/- filled (the program's) and greedy (the document's): the ends of pieces that each take what a bound lets them. For any row of 1 to 65536 sizes, none above the bound, which is at most 2^30. No conditions but those that stand in each lemma. -/
import Derived.Test.YtejcpfplmlpilaaPartWords
namespace Go.Proofs.Ytejcpfplmlpilaa
open Go.RowKit
namespace Part

/-- At a round's head. -/
def FillAt (w : World) (b : Int) (l : List Int) (ev sv iv : Value) (wr : World) : Prop :=
  ∃ (k : Nat) (A2 : Option Addr) (n2 c2 : Nat) (s : Int), k ≤ l.length ∧ iv = .int .i64 (k : Int) ∧ sv = .int .i64 s ∧ ev = .slice A2 n2 c2 ∧ s = (G b l k).2 ∧ IOwn wr w.heap.size A2 c2 n2 (natI (G b l k).1) ∧ 0 ≤ s ∧ s ≤ b ∧ n2 ≤ k ∧ Below w.heap.size w wr

set_option maxRecDepth 100000 in
set_option maxHeartbeats 4000000 in
theorem filled_any (A : Option Addr) (n c : Nat) (l : List Int) (b : Int) (w : World) (hn : n = l.length) (hs : NumSrc w A l) (hl : n ≤ 65536) (h0 : 0 < n) (hb : b ≤ 1073741824) (hz : Sized l b) :
    Calls Try.prog 14 #[.slice A n c, .int .i64 b] w (GivesI w (natI (ends b l (l.length - 1)))) := by
  have Hn := Lib.hid hn
  have Hs := Lib.hid hs
  have HZ := Lib.hid hz
  have hb0 : 0 ≤ b := by have := hz 0; omega
  clear hn hs hz
  go_enter Try.func14, Try.ntmps14
  go_wp2_with fail
  have HBw : Below w.heap.size w (w.alloc (.cells #[] 3)) := (Below.refl _ _).alloc (Nat.le_refl _) _
  go_loopw [5, 6, 12] (fun ev sv iv wr => FillAt w b l ev sv iv wr) (fun _ _ i _ => n - (intOf i).toNat)
  case atStart => exact ⟨0, _, _, _, 0, Nat.zero_le _, rfl, rfl, rfl, rfl, IOwn.made w _ (Nat.le_refl _), by omega, hb0, by omega, HBw⟩
  case round =>
    obtain ⟨k, A2, n2, c2, s, hk, rfl, rfl, rfl, hs, ho, hs0, hs1, hn2, hbw⟩ := hrel
    have HS := Lib.hid hs
    have HO := Lib.hid ho
    have hszr := hbw.size
    clear hs ho
    by_cases hlt : k < l.length
    · obtain ⟨b0, o, hA, hbl, hcell⟩ := Hs.out (by omega)
      subst hA
      have c0 : wr.cell? ⟨b0, o + k, none⟩ = some (.int .i64 (l.getD k 0)) := (hbw.cell (p := ⟨b0, o + k, none⟩) hbl).trans (hcell k hlt)
      have hkn : k < n := by have := Hn.out; omega
      have hx := HZ.out k
      have HX1 := Lib.hid (G_cut HZ.out k)
      have HX2 := Lib.hid (G_on (b := b) (l := l) k)
      rw [← HS.out] at HX1 HX2
      generalize l.getD k 0 = x at *
      clear hcell
      by_cases hc : x > b - s
      · have HE := Lib.hid (HX1.out (by omega))
        clear HX1 HX2
        go_wp2_with (at_builtin; refine wpList_append_i rfl _ _ rfl w.heap.size A2 n2 c2 _ rfl (HO.out.keep ((Below.refl _ _).alloc (Nat.le_refl _) _)) _ _ _ rfl (Row.new wr _ _) (by omega) (by simp; omega) ?_; rintro A4 c4 w4 ho4 hb4 hsz4; have HO4 := Lib.hid ho4; have HB4 := Lib.hid ((hbw.alloc hszr _).trans hb4); clear ho4 hb4)
        go_roundw
        case rel => exact ⟨k + 1, A4, n2 + 1, c4, x, by omega, by go_num, rfl, rfl, by rw [HE.out], by rw [HE.out, natI_append]; exact HO4.out, hx.1, hx.2, by omega, HB4.out⟩
        case measure => simp [intOf]; omega
      · have HE := Lib.hid (HX2.out (by omega))
        clear HX1 HX2
        go_wp2_with fail
        go_roundw
        case rel => exact ⟨k + 1, A2, n2, c2, s + x, by omega, by go_num, rfl, rfl, by rw [HE.out], by rw [HE.out]; exact HO.out, by omega, by omega, by omega, hbw⟩
        case measure => simp [intOf]; omega
    · obtain rfl : k = n := by have := Hn.out; omega
      go_wp2_with (at_builtin; refine wpList_append_i rfl _ _ rfl w.heap.size A2 n2 c2 _ rfl (HO.out.keep ((Below.refl _ _).alloc (Nat.le_refl _) _)) _ _ _ rfl (Row.new wr _ _) (by omega) (by simp; omega) ?_; rintro A4 c4 w4 ho4 hb4 hsz4; have HO4 := Lib.hid ho4; have HB4 := Lib.hid ((hbw.alloc hszr _).trans hb4); clear ho4 hb4)
      go_ret
      have e : natI (ends b l (l.length - 1)) = natI (G b l k).1 ++ [(k : Int)] := by
        have e1 : l.length - 1 + 1 = k := by have := Hn.out; omega
        rw [← G_ends, e1, natI_append]
        rfl
      exact ⟨A4, _, c4, rfl, by rw [e]; exact HO4.out, HB4.out⟩

set_option maxRecDepth 100000 in
set_option maxHeartbeats 4000000 in
theorem greedy_any (A : Option Addr) (n c : Nat) (l : List Int) (b : Int) (w : World) (hn : n = l.length) (hs : NumSrc w A l) (hl : n ≤ 65536) (h0 : 0 < n) (hb : b ≤ 1073741824) (hz : Sized l b) :
    Calls Try.prog 18 #[.slice A n c, .int .i64 b] w (GivesI w (natI (ends b l (l.length - 1)))) := by
  have Hn := Lib.hid hn
  have Hs := Lib.hid hs
  have HZ := Lib.hid hz
  have hb0 : 0 ≤ b := by have := hz 0; omega
  clear hn hs hz
  go_enter Try.func18, Try.ntmps18
  go_wp2_with fail
  go_loopw [5, 6, 7] (fun ev sv iv wr => FillAt w b l ev sv iv wr) (fun _ _ i _ => n - (intOf i).toNat)
  case atStart => exact ⟨0, _, _, _, 0, Nat.zero_le _, rfl, rfl, rfl, rfl, IOwn.nil w _, by omega, hb0, by omega, Below.refl _ _⟩
  case round =>
    obtain ⟨k, A2, n2, c2, s, hk, rfl, rfl, rfl, hs, ho, hs0, hs1, hn2, hbw⟩ := hrel
    have HS := Lib.hid hs
    have HO := Lib.hid ho
    have hszr := hbw.size
    clear hs ho
    by_cases hlt : k < l.length
    · obtain ⟨b0, o, hA, hbl, hcell⟩ := Hs.out (by omega)
      subst hA
      have c0 : wr.cell? ⟨b0, o + k, none⟩ = some (.int .i64 (l.getD k 0)) := (hbw.cell (p := ⟨b0, o + k, none⟩) hbl).trans (hcell k hlt)
      have hkn : k < n := by have := Hn.out; omega
      have hx := HZ.out k
      have HX1 := Lib.hid (G_cut HZ.out k)
      have HX2 := Lib.hid (G_on (b := b) (l := l) k)
      rw [← HS.out] at HX1 HX2
      have C0 := Lib.hid (hcell k hlt)
      clear hcell
      generalize l.getD k 0 = x at *
      have hk0 : k = 0 → s = 0 := fun e => by subst e; rw [HS.out]; rfl
      by_cases hc : x > b - s
      · have hk1 : 0 < k := by omega
        have hc2 : s + x > b := by omega
        have HE := Lib.hid (HX1.out (by omega))
        clear HX1 HX2
        go_wp2_with (at_builtin; refine wpList_append_i rfl _ _ rfl w.heap.size A2 n2 c2 _ rfl (HO.out.keep ((Below.refl _ _).alloc (Nat.le_refl _) _)) _ _ _ rfl (Row.new wr _ _) (by omega) (by simp; omega) ?_; rintro A4 cc4 w4 ho4 hb4 hsz4; have HO4 := Lib.hid ho4; have HB4 := Lib.hid ((hbw.alloc hszr _).trans hb4); have c4 : w4.cell? ⟨b0, o + k, none⟩ = some (.int .i64 x) := (HB4.out.cell (p := ⟨b0, o + k, none⟩) hbl).trans C0.out; clear ho4 hb4)
        go_roundw
        case rel => exact ⟨k + 1, A4, n2 + 1, cc4, x, by omega, by go_num, rfl, rfl, by rw [HE.out], by rw [HE.out, natI_append]; exact HO4.out, hx.1, hx.2, by omega, HB4.out⟩
        case measure => simp [intOf]; omega
      · have HE := Lib.hid (HX2.out (by omega))
        clear HX1 HX2 hk0
        have hc2 : ¬ s + x > b := by omega
        have hrel2 : FillAt w b l (.slice A2 n2 c2) (.int .i64 (s + x)) (.int .i64 ((k : Int) + 1)) wr := ⟨k + 1, A2, n2, c2, s + x, by omega, by go_num, rfl, rfl, by rw [HE.out], by rw [HE.out]; exact HO.out, by omega, by omega, by omega, hbw⟩
        rcases Nat.eq_zero_or_pos k with h1 | h1
        · subst h1
          rw [Nat.add_zero] at c0
          go_wp2_with fail
          go_roundw
          case rel => exact hrel2
          case measure => simp [intOf]; omega
        · go_wp2_with fail
          go_roundw
          case rel => exact hrel2
          case measure => simp [intOf]; omega
    · obtain rfl : k = n := by have := Hn.out; omega
      go_wp2_with (at_builtin; refine wpList_append_i rfl _ _ rfl w.heap.size A2 n2 c2 _ rfl (HO.out.keep ((Below.refl _ _).alloc (Nat.le_refl _) _)) _ _ _ rfl (Row.new wr _ _) (by omega) (by simp; omega) ?_; rintro A4 cc4 w4 ho4 hb4 hsz4; have HO4 := Lib.hid ho4; have HB4 := Lib.hid ((hbw.alloc hszr _).trans hb4); clear ho4 hb4)
      go_ret
      have e : natI (ends b l (l.length - 1)) = natI (G b l k).1 ++ [(k : Int)] := by
        have e1 : l.length - 1 + 1 = k := by have := Hn.out; omega
        rw [← G_ends, e1, natI_append]
        rfl
      exact ⟨A4, _, cc4, rfl, by rw [e]; exact HO4.out, HB4.out⟩
end Part
end Go.Proofs.Ytejcpfplmlpilaa

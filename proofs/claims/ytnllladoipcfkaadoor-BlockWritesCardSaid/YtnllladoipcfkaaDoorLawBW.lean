/- BlockWrites' walk, all cases. -/
import Derived.Test.YtnllladoipcfkaaDoorLawBWYes
namespace Go.Proofs.YtnllladoipcfkaaDoor
open Go.RowKit Go.Maps

theorem fits_two (p : Pt) (N : Nat) : fitsI p N = 0 ∨ fitsI p N = 2 := by unfold fitsI; split; exact .inl rfl; exact .inr rfl
theorem bwrites_any (A : Option Addr) (n c : Nat) (xs : List Int) (n0 a0 a1 : Int) (w : World) (hn : n = xs.length) (hs : Src .u8 w A xs) (hx : IsBytes xs) (hnc : n ≤ c) (hc : c ≤ 9223372036854775807) (ht : Tabs w)
    (ha1 : -9223372036854775808 ≤ a0) (ha2 : a0 ≤ 9223372036854775807) (hb1 : -9223372036854775808 ≤ a1) (hb2 : a1 ≤ 9223372036854775807) :
    Calls Tryd.prog 3 #[.int .i64 n0, .agg #[.int .i64 a0, .int .i64 a1], .slice A n c] w fun e w' => e = .returned (.bool true) ∧ Below w.heap.size w w' := by
  obtain ⟨N, hN⟩ : ∃ N : Nat, 1 + bits .and .i64 n0 63 = (N : Int) := by
    obtain ⟨h0, h1⟩ := mask_and n0 63 (by decide)
    exact ⟨(1 + bits .and .i64 n0 63).toNat, by have h0' : 0 ≤ bits .and .i64 n0 63 := h0; omega⟩
  by_cases hl : n ≤ 3000
  · rcases fits_two (placeP a0 a1 n) N with hf | hf
    · obtain ⟨m, hm, _⟩ := secs_nat n
      obtain ⟨_, _, q3⟩ := fits_place n hm hf
      have hs1 := hs
      obtain ⟨b, o, rfl, _, _⟩ := hs1 (by omega)
      exact bwrites_yes_small b o n c N xs n0 a0 a1 w hn hs hx hl hnc hc ht ha1 ha2 hb1 hb2 hN hf
    · exact bwrites_no_small A n c N xs n0 a0 a1 w hn hs hx hl hnc hc ht ha1 ha2 hb1 hb2 hN hf
  · have hs1 := hs
    obtain ⟨b, o, rfl, _, _⟩ := hs1 (by omega)
    rcases fits_two (placeP a0 a1 3000) N with hf | hf
    · exact bwrites_yes_big b o n c N (xs.take 3000) n0 a0 a1 w (by rw [List.length_take]; omega) (hs.take 3000) (hx.take 3000) (by omega) hnc hc ht ha1 ha2 hb1 hb2 hN hf
    · exact bwrites_no_big b o n c N (xs.take 3000) n0 a0 a1 w (by rw [List.length_take]; omega) (hs.take 3000) (hx.take 3000) (by omega) hnc hc ht ha1 ha2 hb1 hb2 hN hf
end Go.Proofs.YtnllladoipcfkaaDoor

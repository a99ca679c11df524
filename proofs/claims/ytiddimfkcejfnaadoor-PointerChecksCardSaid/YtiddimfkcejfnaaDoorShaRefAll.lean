/- What the laws over the sum share. ShaBlocks' walk: any state, any block and any rest: the program's answers are the document's. -/
import Derived.Test.YtiddimfkcejfnaaDoorShaRefTabs
import Derived.Test.YtiddimfkcejfnaaDoorShaRefEnd
namespace Go.Proofs.YtiddimfkcejfnaaDoor.Sha3
open Go.RowKit

/-- What is asked of the constants and of the first state. -/
def KeysTell (ks : List Wd) : Prop := ∀ w : World, Calls Tryd.prog 30 #[] w fun e w' => e = .returned (.agg (wcells ks)) ∧ Below w.heap.size w w'
def BeginTells (h0 : List Wd) : Prop := ∀ w : World, Calls Tryd.prog 31 #[] w fun e w' => e = .returned (.agg (scells h0 0)) ∧ Below w.heap.size w w'
theorem rend_any (ks hs : List Wd) (q : Qd) (A : Option Addr) (n c : Nat) (xs : List Int) (w : World) (hh : hs.length = 8) (hks : ks.length = 64) (hs0 : Src .u8 w A xs) (hx : IsBytes xs) (hn : n = xs.length) (hnc : n ≤ c) (hc : c ≤ 9223372036854775807) :
    Calls Tryd.prog 33 #[.agg (scells hs (uq q)), .slice A n c, .agg (wcells ks)] w fun e w' => e = .returned (.agg (bcells (endW ks hs q (xs.take 63)))) ∧ Below w.heap.size w w' := by
  by_cases h : n ≤ 63
  · rw [List.take_of_length_le (by omega)]
    obtain ⟨J, m, hT, hm, ho⟩ := end_blocks ks hs q xs (by omega)
    exact rend_short ks hs q A n c xs _ J m w hh hks hs0 hx hn (by omega) hT hm ho
  · have hs1 := hs0
    obtain ⟨b, o, rfl, _, _⟩ := hs1 (by omega)
    have hl : 63 = (xs.take 63).length := by rw [List.length_take]; omega
    obtain ⟨J, m, hT, hm, ho⟩ := end_blocks ks hs q (xs.take 63) (by omega)
    exact rend_long ks hs q b o n c (xs.take 63) _ J m w hh hks (hs0.take 63) (hx.take 63) hl (by omega) hnc hc hT hm ho
theorem end_all (h0 ks hs : List Wd) (q : Qd) (A : Option Addr) (n c : Nat) (xs : List Int) (w : World) (hh : hs.length = 8) (ht : Tab w h0 ks) (hks : ks.length = 64) (hs0 : Src .u8 w A xs) (hx : IsBytes xs) (hn : n = xs.length) (hnc : n ≤ c) (hc : c ≤ 9223372036854775807) :
    Calls Tryd.prog 28 #[.agg (scells hs (uq q)), .slice A n c] w fun e w' => e = .returned (.agg (bcells (endW ks hs q (xs.take 63)))) ∧ Below w.heap.size w w' := by
  by_cases h : n ≤ 63
  · rw [List.take_of_length_le (by omega)]
    exact end_any h0 ks hs q A n c xs w hh ht hks hn hs0 hx (by omega)
  · have hs1 := hs0
    obtain ⟨b, o, rfl, _, _⟩ := hs1 (by omega)
    exact end_long h0 ks hs q b o n c (xs.take 63) w hh ht hks (hs0.take 63) (hx.take 63) (by rw [List.length_take]; omega) (by omega) hnc hc
end Go.Proofs.YtiddimfkcejfnaaDoor.Sha3

/- codec.own: the same bytes in memory of the call's own, for any bytes (at most 900000). -/
import Derived.Test.YtnoofmdhhlcbkaaMem
namespace Go.Proofs.Ytnoofmdhhlcbkaa
open Go.RowKit

set_option maxHeartbeats 400000 in
/-- own: the same bytes in memory of the call's own. -/
theorem own_any (A : Option Addr) (n c : Nat) (xs : List Int) (w : World) (hn : n = xs.length) (hs : Src .u8 w A xs) (hl : n ≤ 900000) :
    Calls Try.prog 35 #[.slice A n c] w (Gives w xs) := by
  have Hn := Lib.hid hn
  clear hn
  go_enter Try.func35, Try.ntmps35
  go_wp2_with (at_builtin; refine wpList_append_src rfl _ _ rfl w.heap.size _ _ _ [] rfl rfl (own_made w _ (Nat.le_refl _)) A n c xs rfl Hn.out (hs.keep ((Below.refl _ _).alloc (Nat.le_refl _) _)) (by omega) (by simp) ?_; rintro v w1 ⟨A1, n1, c1, rfl, hn1, ho1, hb1⟩; have Hn1 := Lib.hid hn1; clear hn1)
  go_ret
  exact ⟨_, rfl, A1, n1, c1, rfl, Hn1.out, ho1, ((Below.refl _ _).alloc (Nat.le_refl _) _).trans hb1⟩
end Go.Proofs.Ytnoofmdhhlcbkaa

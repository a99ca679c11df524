/- The walk of BaseSigns: any number has the document's sign, and any byte its number; nothing is written. -/
import Derived.Test.YtbkkngakbjpakaaB64Sign
namespace Go.Proofs.Ytbkkngakbjpakaa
open Go.RowKit
namespace B64

set_option maxRecDepth 100000 in
set_option maxHeartbeats 1000000 in
theorem signs_law (n c : Int) (w : World) (hc : 0 ≤ c ∧ c < 256) :
    Calls Try.prog 3 #[.int .i64 n, .int .u8 c] w fun e w' => e = .returned (.bool true) ∧ w' = w := by
  have HS := fun w' => sign_any n w'
  have HR := fun w' => rsign_any n w'
  have HV := fun w' => value_any c w' hc
  have HW := fun w' => rvalue_any c w'
  have H0 := fun w' => sign_any 0 w'
  rw [show signI 0 = 65 by decide] at H0
  generalize signI n = s at *
  generalize valI c = v at *
  go_enter Try.func3, Try.ntmps3
  go_wp2_with fail
  refine (HS _).mono ?_; rintro e w' ⟨rfl, rfl⟩
  go_wp2_with fail
  refine (HR _).mono ?_; rintro e w' ⟨rfl, rfl⟩
  go_wp2_with fail
  refine (HV _).mono ?_; rintro e w' ⟨rfl, rfl⟩
  go_wp2_with fail
  refine (HW _).mono ?_; rintro e w' ⟨rfl, rfl⟩
  go_wp2_with fail
  refine (H0 _).mono ?_; rintro e w' ⟨rfl, rfl⟩
  go_wp2_with fail
  go_ret
  exact ⟨rfl, rfl⟩
end B64
end Go.Proofs.Ytbkkngakbjpakaa

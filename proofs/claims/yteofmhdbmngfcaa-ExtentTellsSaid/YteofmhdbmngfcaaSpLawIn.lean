/- The types of this seat's arguments, for the laws on what came in. -/
import Derived.Test.YteofmhdbmngfcaaRowsIn
namespace Go.Proofs.Yteofmhdbmngfcaa
open Go.RowKit
theorem Try.twoES : TwoNums Try.prog 24 3 := ⟨by kernel_rfl, by kernel_rfl, by kernel_rfl, Try.underlying3, by kernel_rfl⟩
end Go.Proofs.Yteofmhdbmngfcaa

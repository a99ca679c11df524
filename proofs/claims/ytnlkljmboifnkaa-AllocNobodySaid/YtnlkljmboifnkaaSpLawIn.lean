/- The types of this seat's arguments, for the laws on what came in. -/
import Derived.Test.YtnlkljmboifnkaaRowsIn
namespace Go.Proofs.Ytnlkljmboifnkaa
open Go.RowKit
theorem Try.twoES : TwoNums Try.prog 23 3 := ⟨by kernel_rfl, by kernel_rfl, by kernel_rfl, Try.underlying3, by kernel_rfl⟩
end Go.Proofs.Ytnlkljmboifnkaa

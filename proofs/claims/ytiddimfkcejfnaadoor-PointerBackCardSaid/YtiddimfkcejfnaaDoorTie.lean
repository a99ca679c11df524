/-
  DERIVED. GIVEN WITH THE SEED: THE PROGRAM's TIES (one call each: nine closed facts by the kernel) AND EACH ROW's TIE, after the 31st guide's Derived/Test/Toyas{Tie, Card}.lean. No idea stands in it: it is a product of the set-up. Laid BY PROGRAM, IN A SANDBOX (cutbox-door.mjs). By AI agents, Wed Nov 11 2026. No macro, syntax, notation, axiom, sorry.
-/
import Derived.Test.YtiddimfkcejfnaaDoorRows
import Derived.LaidByTextLater
import Derived.SevenTiedAt
import Derived.LaidSub
import Derived.LaidOnce
namespace Go.Proofs.YtiddimfkcejfnaaDoor
open Go
set_option maxRecDepth 100000
theorem seatTie1 : Tryd.prog.laidByTextLater [("shadowbox/crc.halves", Rows.laid_shadowbox_crc_halves), ("shadowbox/sha.squareRoots", Rows.laid_shadowbox_sha_squareRoots), ("shadowbox/sha.cubeRoots", Rows.laid_shadowbox_sha_cubeRoots)] [.data, .data, .data] true :=
  Program.laidByTextLater_by_one 24 8 65 (by kernel_rfl) (by kernel_rfl) (by kernel_rfl) (by kernel_rfl) (by kernel_rfl) (by kernel_rfl) (fun _ _ => by kernel_rfl)
theorem noOwnUnsafe : Tryd.pinned.checked.prog.headLifts.contains "ownunsafe" = false := by kernel_rfl
theorem tie : Tryd.prog.laidByTextLater [("shadowbox/crc.halves", Rows.laid_shadowbox_crc_halves), ("shadowbox/sha.squareRoots", Rows.laid_shadowbox_sha_squareRoots), ("shadowbox/sha.cubeRoots", Rows.laid_shadowbox_sha_cubeRoots)] [.data, .data, .data] true :=
  Program.laidByTextLater.sub seatTie1 ["shadowbox/crc.halves", "shadowbox/sha.squareRoots", "shadowbox/sha.cubeRoots"] (by kernel_rfl) (by kernel_rfl)
theorem pointerChecks_row_tie : Rows.pointerChecksRow.laidByTextAt .later Tryd.pinned [.data, .data, .data] true :=
  OpenClaim.laidByTextAt_later rfl rfl tie noOwnUnsafe
theorem pointerBack_row_tie : Rows.pointerBackRow.laidByTextAt .later Tryd.pinned [.data, .data, .data] true :=
  OpenClaim.laidByTextAt_later rfl rfl tie noOwnUnsafe
theorem pointerChecksUpto_row_tie : Rows.pointerChecksUptoRow.laidByTextAt .later Tryd.pinned [.data, .data, .data] true :=
  OpenClaim.laidByTextAt_later rfl rfl tie noOwnUnsafe
theorem pointerBackUpto_row_tie : Rows.pointerBackUptoRow.laidByTextAt .later Tryd.pinned [.data, .data, .data] true :=
  OpenClaim.laidByTextAt_later rfl rfl tie noOwnUnsafe
end Go.Proofs.YtiddimfkcejfnaaDoor

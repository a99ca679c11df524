/-
  DERIVED. GIVEN WITH THE SEED: THE CARDS: each row of YteapddoanggniaaDoorRows.lean that lists a variable, with what it lists TIED to the program's text (the seventh form; the later family's looks); each row that meets fmt, with fmt's text TOLD by the authors' own Lean function (tested against real Go, not proved from fmt's source: count such statements apart). THE CARD IS WHAT COUNTS. Prove the row's statement (the work); the ties are given (YteapddoanggniaaDoorTie.lean); close each card by the builder's one call (the guide's Derived/Test/ToyasCard.lean, 'card_holds'). Laid BY PROGRAM, IN A SANDBOX (cutbox-door.mjs). By AI agents, Wed Nov 11 2026. No macro, syntax, notation, axiom, sorry.
-/
import Derived.Test.YteapddoanggniaaDoorRows
import GoSem.ClaimSeven
namespace Go.Proofs.YteapddoanggniaaDoor
namespace Rows

/-- THE TIED CARD OF 'shadowboxlaw04.HexNumbers'. -/
def hexNumbersCard : Claim7 := { stood := { row := hexNumbersRow, standIns := [], harness := (true, "7e1f952b5426673ebb49b0c9dd7c1303546152431fa6f2eb84851504ed04f24f"), looks := false }, kinds := [], alts := [], laidByText := true, laidKinds := [.data, .data, .data], laidTests := true, laidLooks := .later }
def HexNumbersCardSaid : Prop := Claim7.holds Tryd.pinned (.plain (OpenSpec.ofChange hexNumbersSpec)) hexNumbersCard

/-- THE TIED CARD OF 'shadowboxlaw04.HexBack'. -/
def hexBackCard : Claim7 := { stood := { row := hexBackRow, standIns := [], harness := (true, "7e1f952b5426673ebb49b0c9dd7c1303546152431fa6f2eb84851504ed04f24f"), looks := false }, kinds := [], alts := [], laidByText := true, laidKinds := [.data, .data, .data], laidTests := true, laidLooks := .later }
def HexBackCardSaid : Prop := Claim7.holds Tryd.pinned (.plain (OpenSpec.ofChange hexBackSpec)) hexBackCard

/-- THE SECOND FORM's CARD OF 'shadowboxlaw04.HexNumbers'. -/
def hexNumbersUptoCard : Claim7 := { stood := { row := hexNumbersUptoRow, standIns := [], harness := (true, "7e1f952b5426673ebb49b0c9dd7c1303546152431fa6f2eb84851504ed04f24f"), looks := false }, kinds := [], alts := [], laidByText := true, laidKinds := [.data, .data, .data], laidTests := true, laidLooks := .later }
def HexNumbersUptoCardSaid : Prop := Claim7.holds Tryd.pinned (.plain (OpenSpec.upto hexNumbersSpec)) hexNumbersUptoCard

/-- THE SECOND FORM's CARD OF 'shadowboxlaw04.HexBack'. -/
def hexBackUptoCard : Claim7 := { stood := { row := hexBackUptoRow, standIns := [], harness := (true, "7e1f952b5426673ebb49b0c9dd7c1303546152431fa6f2eb84851504ed04f24f"), looks := false }, kinds := [], alts := [], laidByText := true, laidKinds := [.data, .data, .data], laidTests := true, laidLooks := .later }
def HexBackUptoCardSaid : Prop := Claim7.holds Tryd.pinned (.plain (OpenSpec.upto hexBackSpec)) hexBackUptoCard
end Rows
end Go.Proofs.YteapddoanggniaaDoor

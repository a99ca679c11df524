/-
  DERIVED. GIVEN WITH THE SEED: THE CARDS: each row of YtiddimfkcejfnaaDoorRows.lean that lists a variable, with what it lists TIED to the program's text (the seventh form; the later family's looks); each row that meets fmt, with fmt's text TOLD by the authors' own Lean function (tested against real Go, not proved from fmt's source: count such statements apart). THE CARD IS WHAT COUNTS. Prove the row's statement (the work); the ties are given (YtiddimfkcejfnaaDoorTie.lean); close each card by the builder's one call (the guide's Derived/Test/ToyasCard.lean, 'card_holds'). Laid BY PROGRAM, IN A SANDBOX (cutbox-door.mjs). By AI agents, Wed Nov 11 2026. No macro, syntax, notation, axiom, sorry.
-/
import Derived.Test.YtiddimfkcejfnaaDoorRows
import GoSem.ClaimSeven
namespace Go.Proofs.YtiddimfkcejfnaaDoor
namespace Rows

/-- THE TIED CARD OF 'shadowboxlaw06.PointerChecks'. -/
def pointerChecksCard : Claim7 := { stood := { row := pointerChecksRow, standIns := [], harness := (true, "6a67e81a38bf0a79b6ff2f3efcee639f4b83843cdecd7ec4fb1d7d21bb88ac32"), looks := false }, kinds := [], alts := [], laidByText := true, laidKinds := [.data, .data, .data], laidTests := true, laidLooks := .later }
def PointerChecksCardSaid : Prop := Claim7.holds Tryd.pinned (.plain (OpenSpec.ofChange pointerChecksSpec)) pointerChecksCard

/-- THE TIED CARD OF 'shadowboxlaw06.PointerBack'. -/
def pointerBackCard : Claim7 := { stood := { row := pointerBackRow, standIns := [], harness := (true, "6a67e81a38bf0a79b6ff2f3efcee639f4b83843cdecd7ec4fb1d7d21bb88ac32"), looks := false }, kinds := [], alts := [], laidByText := true, laidKinds := [.data, .data, .data], laidTests := true, laidLooks := .later }
def PointerBackCardSaid : Prop := Claim7.holds Tryd.pinned (.plain (OpenSpec.ofChange pointerBackSpec)) pointerBackCard

/-- THE SECOND FORM's CARD OF 'shadowboxlaw06.PointerChecks'. -/
def pointerChecksUptoCard : Claim7 := { stood := { row := pointerChecksUptoRow, standIns := [], harness := (true, "6a67e81a38bf0a79b6ff2f3efcee639f4b83843cdecd7ec4fb1d7d21bb88ac32"), looks := false }, kinds := [], alts := [], laidByText := true, laidKinds := [.data, .data, .data], laidTests := true, laidLooks := .later }
def PointerChecksUptoCardSaid : Prop := Claim7.holds Tryd.pinned (.plain (OpenSpec.upto pointerChecksSpec)) pointerChecksUptoCard

/-- THE SECOND FORM's CARD OF 'shadowboxlaw06.PointerBack'. -/
def pointerBackUptoCard : Claim7 := { stood := { row := pointerBackUptoRow, standIns := [], harness := (true, "6a67e81a38bf0a79b6ff2f3efcee639f4b83843cdecd7ec4fb1d7d21bb88ac32"), looks := false }, kinds := [], alts := [], laidByText := true, laidKinds := [.data, .data, .data], laidTests := true, laidLooks := .later }
def PointerBackUptoCardSaid : Prop := Claim7.holds Tryd.pinned (.plain (OpenSpec.upto pointerBackSpec)) pointerBackUptoCard
end Rows
end Go.Proofs.YtiddimfkcejfnaaDoor

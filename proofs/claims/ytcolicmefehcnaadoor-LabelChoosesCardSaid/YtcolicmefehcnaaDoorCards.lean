/-
  DERIVED. GIVEN WITH THE SEED: THE CARDS: each row of YtcolicmefehcnaaDoorRows.lean that lists a variable, with what it lists TIED to the program's text (the seventh form; the later family's looks); each row that meets fmt, with fmt's text TOLD by the authors' own Lean function (tested against real Go, not proved from fmt's source: count such statements apart). THE CARD IS WHAT COUNTS. Prove the row's statement (the work); the ties are given (YtcolicmefehcnaaDoorTie.lean); close each card by the builder's one call (the guide's Derived/Test/ToyasCard.lean, 'card_holds'). Laid BY PROGRAM, IN A SANDBOX (cutbox-door.mjs). By AI agents, Wed Nov 11 2026. No macro, syntax, notation, axiom, sorry.
-/
import Derived.Test.YtcolicmefehcnaaDoorRows
import GoSem.ClaimSeven
namespace Go.Proofs.YtcolicmefehcnaaDoor
namespace Rows

/-- THE TIED CARD OF 'shadowboxlaw08.LabelTells'. -/
def labelTellsCard : Claim7 := { stood := { row := labelTellsRow, standIns := [], harness := (true, "22a766ec353221c121fa86112d62fbaa55b544f5c0ecb310ed955ad31263d089"), looks := false }, kinds := [], alts := [], laidByText := true, laidKinds := [.data], laidTests := true, laidLooks := .later }
def LabelTellsCardSaid : Prop := Claim7.holds Tryd.pinned (.plain (OpenSpec.ofChange labelTellsSpec)) labelTellsCard

/-- THE TIED CARD OF 'shadowboxlaw08.LabelChooses'. -/
def labelChoosesCard : Claim7 := { stood := { row := labelChoosesRow, standIns := [], harness := (true, "22a766ec353221c121fa86112d62fbaa55b544f5c0ecb310ed955ad31263d089"), looks := false }, kinds := [], alts := [], laidByText := true, laidKinds := [.data], laidTests := true, laidLooks := .later }
def LabelChoosesCardSaid : Prop := Claim7.holds Tryd.pinned (.plain (OpenSpec.ofChange labelChoosesSpec)) labelChoosesCard

/-- THE TIED CARD OF 'shadowboxlaw08.LabelBack'. -/
def labelBackCard : Claim7 := { stood := { row := labelBackRow, standIns := [], harness := (true, "22a766ec353221c121fa86112d62fbaa55b544f5c0ecb310ed955ad31263d089"), looks := false }, kinds := [], alts := [], laidByText := true, laidKinds := [.data], laidTests := true, laidLooks := .later }
def LabelBackCardSaid : Prop := Claim7.holds Tryd.pinned (.plain (OpenSpec.ofChange labelBackSpec)) labelBackCard

/-- THE TIED CARD OF 'shadowboxlaw08.LabelTorn'. -/
def labelTornCard : Claim7 := { stood := { row := labelTornRow, standIns := [], harness := (true, "22a766ec353221c121fa86112d62fbaa55b544f5c0ecb310ed955ad31263d089"), looks := false }, kinds := [], alts := [], laidByText := true, laidKinds := [.data], laidTests := true, laidLooks := .later }
def LabelTornCardSaid : Prop := Claim7.holds Tryd.pinned (.plain (OpenSpec.ofChange labelTornSpec)) labelTornCard

/-- THE SECOND FORM's CARD OF 'shadowboxlaw08.LabelTells'. -/
def labelTellsUptoCard : Claim7 := { stood := { row := labelTellsUptoRow, standIns := [], harness := (true, "22a766ec353221c121fa86112d62fbaa55b544f5c0ecb310ed955ad31263d089"), looks := false }, kinds := [], alts := [], laidByText := true, laidKinds := [.data], laidTests := true, laidLooks := .later }
def LabelTellsUptoCardSaid : Prop := Claim7.holds Tryd.pinned (.plain (OpenSpec.upto labelTellsSpec)) labelTellsUptoCard

/-- THE SECOND FORM's CARD OF 'shadowboxlaw08.LabelChooses'. -/
def labelChoosesUptoCard : Claim7 := { stood := { row := labelChoosesUptoRow, standIns := [], harness := (true, "22a766ec353221c121fa86112d62fbaa55b544f5c0ecb310ed955ad31263d089"), looks := false }, kinds := [], alts := [], laidByText := true, laidKinds := [.data], laidTests := true, laidLooks := .later }
def LabelChoosesUptoCardSaid : Prop := Claim7.holds Tryd.pinned (.plain (OpenSpec.upto labelChoosesSpec)) labelChoosesUptoCard

/-- THE SECOND FORM's CARD OF 'shadowboxlaw08.LabelBack'. -/
def labelBackUptoCard : Claim7 := { stood := { row := labelBackUptoRow, standIns := [], harness := (true, "22a766ec353221c121fa86112d62fbaa55b544f5c0ecb310ed955ad31263d089"), looks := false }, kinds := [], alts := [], laidByText := true, laidKinds := [.data], laidTests := true, laidLooks := .later }
def LabelBackUptoCardSaid : Prop := Claim7.holds Tryd.pinned (.plain (OpenSpec.upto labelBackSpec)) labelBackUptoCard

/-- THE SECOND FORM's CARD OF 'shadowboxlaw08.LabelTorn'. -/
def labelTornUptoCard : Claim7 := { stood := { row := labelTornUptoRow, standIns := [], harness := (true, "22a766ec353221c121fa86112d62fbaa55b544f5c0ecb310ed955ad31263d089"), looks := false }, kinds := [], alts := [], laidByText := true, laidKinds := [.data], laidTests := true, laidLooks := .later }
def LabelTornUptoCardSaid : Prop := Claim7.holds Tryd.pinned (.plain (OpenSpec.upto labelTornSpec)) labelTornUptoCard
end Rows
end Go.Proofs.YtcolicmefehcnaaDoor

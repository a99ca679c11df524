/-
  DERIVED. GIVEN WITH THE SEED: THE CARDS: each row of YtfjkejdnbegomaaDoorRows.lean that lists a variable, with what it lists TIED to the program's text (the seventh form; the later family's looks); each row that meets fmt, with fmt's text TOLD by the authors' own Lean function (tested against real Go, not proved from fmt's source: count such statements apart). THE CARD IS WHAT COUNTS. Prove the row's statement (the work); the ties are given (YtfjkejdnbegomaaDoorTie.lean); close each card by the builder's one call (the guide's Derived/Test/ToyasCard.lean, 'card_holds'). Laid BY PROGRAM, IN A SANDBOX (cutbox-door.mjs). By AI agents, Wed Nov 11 2026. No macro, syntax, notation, axiom, sorry.
-/
import Derived.Test.YtfjkejdnbegomaaDoorRows
import GoSem.ClaimSeven
namespace Go.Proofs.YtfjkejdnbegomaaDoor
namespace Rows

/-- THE TIED CARD OF 'shadowboxlaw11.Md5Tells'. -/
def md5TellsCard : Claim7 := { stood := { row := md5TellsRow, standIns := [], harness := (true, "6a418e9d6b498567919606c8dfa72c08bfb156d88499f9f30b2cccab1c1cefdb"), looks := false }, kinds := [], alts := [], laidByText := true, laidKinds := [.data, .data, .data], laidTests := true, laidLooks := .later }
def Md5TellsCardSaid : Prop := Claim7.holds Tryd.pinned (.plain (OpenSpec.ofChange md5TellsSpec)) md5TellsCard

/-- THE TIED CARD OF 'shadowboxlaw11.Md5Blocks'. -/
def md5BlocksCard : Claim7 := { stood := { row := md5BlocksRow, standIns := [], harness := (true, "6a418e9d6b498567919606c8dfa72c08bfb156d88499f9f30b2cccab1c1cefdb"), looks := false }, kinds := [], alts := [], laidByText := true, laidKinds := [.data, .data, .data], laidTests := true, laidLooks := .later }
def Md5BlocksCardSaid : Prop := Claim7.holds Tryd.pinned (.plain (OpenSpec.ofChange md5BlocksSpec)) md5BlocksCard

/-- THE TIED CARD OF 'shadowboxlaw11.Md5Parts'. -/
def md5PartsCard : Claim7 := { stood := { row := md5PartsRow, standIns := [], harness := (true, "6a418e9d6b498567919606c8dfa72c08bfb156d88499f9f30b2cccab1c1cefdb"), looks := false }, kinds := [], alts := [], laidByText := true, laidKinds := [.data, .data, .data], laidTests := true, laidLooks := .later }
def Md5PartsCardSaid : Prop := Claim7.holds Tryd.pinned (.plain (OpenSpec.ofChange md5PartsSpec)) md5PartsCard

/-- THE SECOND FORM's CARD OF 'shadowboxlaw11.Md5Tells'. -/
def md5TellsUptoCard : Claim7 := { stood := { row := md5TellsUptoRow, standIns := [], harness := (true, "6a418e9d6b498567919606c8dfa72c08bfb156d88499f9f30b2cccab1c1cefdb"), looks := false }, kinds := [], alts := [], laidByText := true, laidKinds := [.data, .data, .data], laidTests := true, laidLooks := .later }
def Md5TellsUptoCardSaid : Prop := Claim7.holds Tryd.pinned (.plain (OpenSpec.upto md5TellsSpec)) md5TellsUptoCard

/-- THE SECOND FORM's CARD OF 'shadowboxlaw11.Md5Blocks'. -/
def md5BlocksUptoCard : Claim7 := { stood := { row := md5BlocksUptoRow, standIns := [], harness := (true, "6a418e9d6b498567919606c8dfa72c08bfb156d88499f9f30b2cccab1c1cefdb"), looks := false }, kinds := [], alts := [], laidByText := true, laidKinds := [.data, .data, .data], laidTests := true, laidLooks := .later }
def Md5BlocksUptoCardSaid : Prop := Claim7.holds Tryd.pinned (.plain (OpenSpec.upto md5BlocksSpec)) md5BlocksUptoCard

/-- THE SECOND FORM's CARD OF 'shadowboxlaw11.Md5Parts'. -/
def md5PartsUptoCard : Claim7 := { stood := { row := md5PartsUptoRow, standIns := [], harness := (true, "6a418e9d6b498567919606c8dfa72c08bfb156d88499f9f30b2cccab1c1cefdb"), looks := false }, kinds := [], alts := [], laidByText := true, laidKinds := [.data, .data, .data], laidTests := true, laidLooks := .later }
def Md5PartsUptoCardSaid : Prop := Claim7.holds Tryd.pinned (.plain (OpenSpec.upto md5PartsSpec)) md5PartsUptoCard
end Rows
end Go.Proofs.YtfjkejdnbegomaaDoor

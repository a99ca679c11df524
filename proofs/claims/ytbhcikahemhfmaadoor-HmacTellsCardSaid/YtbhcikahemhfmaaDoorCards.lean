/-
  DERIVED. GIVEN WITH THE SEED: THE CARDS: each row of YtbhcikahemhfmaaDoorRows.lean that lists a variable, with what it lists TIED to the program's text (the seventh form; the later family's looks); each row that meets fmt, with fmt's text TOLD by the authors' own Lean function (tested against real Go, not proved from fmt's source: count such statements apart). THE CARD IS WHAT COUNTS. Prove the row's statement (the work); the ties are given (YtbhcikahemhfmaaDoorTie.lean); close each card by the builder's one call (the guide's Derived/Test/ToyasCard.lean, 'card_holds'). Laid BY PROGRAM, IN A SANDBOX (cutbox-door.mjs). By AI agents, Wed Nov 11 2026. No macro, syntax, notation, axiom, sorry.
-/
import Derived.Test.YtbhcikahemhfmaaDoorRows
import GoSem.ClaimSeven
namespace Go.Proofs.YtbhcikahemhfmaaDoor
namespace Rows

/-- THE TIED CARD OF 'shadowboxlaw12.HmacTells'. -/
def hmacTellsCard : Claim7 := { stood := { row := hmacTellsRow, standIns := [], harness := (true, "846e7d6816575689aa7e1d20e03aa18e62620e62e8b930bd43cef463977a6307"), looks := false }, kinds := [], alts := [], laidByText := true, laidKinds := [.data, .data], laidTests := true, laidLooks := .later }
def HmacTellsCardSaid : Prop := Claim7.holds Tryd.pinned (.plain (OpenSpec.ofChange hmacTellsSpec)) hmacTellsCard

/-- THE TIED CARD OF 'shadowboxlaw12.HmacChains'. -/
def hmacChainsCard : Claim7 := { stood := { row := hmacChainsRow, standIns := [], harness := (true, "846e7d6816575689aa7e1d20e03aa18e62620e62e8b930bd43cef463977a6307"), looks := false }, kinds := [], alts := [], laidByText := true, laidKinds := [.data, .data], laidTests := true, laidLooks := .later }
def HmacChainsCardSaid : Prop := Claim7.holds Tryd.pinned (.plain (OpenSpec.ofChange hmacChainsSpec)) hmacChainsCard

/-- THE TIED CARD OF 'shadowboxlaw12.HmacZeros'. -/
def hmacZerosCard : Claim7 := { stood := { row := hmacZerosRow, standIns := [], harness := (true, "846e7d6816575689aa7e1d20e03aa18e62620e62e8b930bd43cef463977a6307"), looks := false }, kinds := [], alts := [], laidByText := true, laidKinds := [.data, .data], laidTests := true, laidLooks := .later }
def HmacZerosCardSaid : Prop := Claim7.holds Tryd.pinned (.plain (OpenSpec.ofChange hmacZerosSpec)) hmacZerosCard

/-- THE SECOND FORM's CARD OF 'shadowboxlaw12.HmacTells'. -/
def hmacTellsUptoCard : Claim7 := { stood := { row := hmacTellsUptoRow, standIns := [], harness := (true, "846e7d6816575689aa7e1d20e03aa18e62620e62e8b930bd43cef463977a6307"), looks := false }, kinds := [], alts := [], laidByText := true, laidKinds := [.data, .data], laidTests := true, laidLooks := .later }
def HmacTellsUptoCardSaid : Prop := Claim7.holds Tryd.pinned (.plain (OpenSpec.upto hmacTellsSpec)) hmacTellsUptoCard

/-- THE SECOND FORM's CARD OF 'shadowboxlaw12.HmacChains'. -/
def hmacChainsUptoCard : Claim7 := { stood := { row := hmacChainsUptoRow, standIns := [], harness := (true, "846e7d6816575689aa7e1d20e03aa18e62620e62e8b930bd43cef463977a6307"), looks := false }, kinds := [], alts := [], laidByText := true, laidKinds := [.data, .data], laidTests := true, laidLooks := .later }
def HmacChainsUptoCardSaid : Prop := Claim7.holds Tryd.pinned (.plain (OpenSpec.upto hmacChainsSpec)) hmacChainsUptoCard

/-- THE SECOND FORM's CARD OF 'shadowboxlaw12.HmacZeros'. -/
def hmacZerosUptoCard : Claim7 := { stood := { row := hmacZerosUptoRow, standIns := [], harness := (true, "846e7d6816575689aa7e1d20e03aa18e62620e62e8b930bd43cef463977a6307"), looks := false }, kinds := [], alts := [], laidByText := true, laidKinds := [.data, .data], laidTests := true, laidLooks := .later }
def HmacZerosUptoCardSaid : Prop := Claim7.holds Tryd.pinned (.plain (OpenSpec.upto hmacZerosSpec)) hmacZerosUptoCard
end Rows
end Go.Proofs.YtbhcikahemhfmaaDoor

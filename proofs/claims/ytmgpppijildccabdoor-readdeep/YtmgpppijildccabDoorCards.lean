/-
  DERIVED. GIVEN WITH THE SEED: THE CARDS: each row of YtmgpppijildccabDoorRows.lean that lists a variable, with what it lists TIED to the program's text (the seventh form; the later family's looks); each row that meets fmt, with fmt's text TOLD by the authors' own Lean function (tested against real Go, not proved from fmt's source: count such statements apart). THE CARD IS WHAT COUNTS. Prove the row's statement (the work); the ties are given (YtmgpppijildccabDoorTie.lean); close each card by the builder's one call (the guide's Derived/Test/ToyasCard.lean, 'card_holds'). Laid BY PROGRAM, IN A SANDBOX (cutbox-door.mjs). By AI agents, Wed Nov 11 2026. No macro, syntax, notation, axiom, sorry.
-/
import Derived.Test.YtmgpppijildccabDoorRows
import GoSem.ClaimSeven
namespace Go.Proofs.YtmgpppijildccabDoor
namespace Rows

/-- THE TIED CARD OF 'grafterykeep.ReadQuote'. -/
def readQuoteCard : Claim7 := { stood := { row := readQuoteRow, standIns := [], harness := (true, "910c802249f18144492d37a6db284f059dbcd8f6cd019e5d5ed79d6645d204bf"), looks := true }, kinds := [], alts := [], laidByText := true, laidKinds := [.data, .data, .data, .sentinel, .sentinel], laidTests := true, laidLooks := .later }
def ReadQuoteCardSaid : Prop := Claim7.holds Tryd.pinned (.plain (OpenSpec.ofChange readQuoteSpec)) readQuoteCard

/-- THE TIED CARD OF 'grafterykeep.ReadDeep'. -/
def readDeepCard : Claim7 := { stood := { row := readDeepRow, standIns := [], harness := (true, "910c802249f18144492d37a6db284f059dbcd8f6cd019e5d5ed79d6645d204bf"), looks := true }, kinds := [], alts := [], laidByText := true, laidKinds := [.data, .data, .data, .sentinel, .sentinel], laidTests := true, laidLooks := .later }
def ReadDeepCardSaid : Prop := Claim7.holds Tryd.pinned (.plain (OpenSpec.ofChange readDeepSpec)) readDeepCard

/-- THE SECOND FORM's CARD OF 'grafterykeep.ReadQuote'. -/
def readQuoteUptoCard : Claim7 := { stood := { row := readQuoteUptoRow, standIns := [], harness := (true, "910c802249f18144492d37a6db284f059dbcd8f6cd019e5d5ed79d6645d204bf"), looks := true }, kinds := [], alts := [], laidByText := true, laidKinds := [.data, .data, .data, .sentinel, .sentinel], laidTests := true, laidLooks := .later }
def ReadQuoteUptoCardSaid : Prop := Claim7.holds Tryd.pinned (.plain (OpenSpec.upto readQuoteSpec)) readQuoteUptoCard

/-- THE SECOND FORM's CARD OF 'grafterykeep.ReadDeep'. -/
def readDeepUptoCard : Claim7 := { stood := { row := readDeepUptoRow, standIns := [], harness := (true, "910c802249f18144492d37a6db284f059dbcd8f6cd019e5d5ed79d6645d204bf"), looks := true }, kinds := [], alts := [], laidByText := true, laidKinds := [.data, .data, .data, .sentinel, .sentinel], laidTests := true, laidLooks := .later }
def ReadDeepUptoCardSaid : Prop := Claim7.holds Tryd.pinned (.plain (OpenSpec.upto readDeepSpec)) readDeepUptoCard
end Rows
end Go.Proofs.YtmgpppijildccabDoor

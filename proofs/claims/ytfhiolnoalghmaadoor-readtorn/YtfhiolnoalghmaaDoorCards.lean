/-
  DERIVED. GIVEN WITH THE SEED: THE CARDS: each row of YtfhiolnoalghmaaDoorRows.lean that lists a variable, with what it lists TIED to the program's text (the seventh form; the later family's looks); each row that meets fmt, with fmt's text TOLD by the authors' own Lean function (tested against real Go, not proved from fmt's source: count such statements apart). THE CARD IS WHAT COUNTS. Prove the row's statement (the work); the ties are given (YtfhiolnoalghmaaDoorTie.lean); close each card by the builder's one call (the guide's Derived/Test/ToyasCard.lean, 'card_holds'). Laid BY PROGRAM, IN A SANDBOX (cutbox-door.mjs). By AI agents, Wed Nov 11 2026. No macro, syntax, notation, axiom, sorry.
-/
import Derived.Test.YtfhiolnoalghmaaDoorRows
import GoSem.ClaimSeven
namespace Go.Proofs.YtfhiolnoalghmaaDoor
namespace Rows

/-- THE TIED CARD OF 'grafterylaw.ReadShows'. -/
def readShowsCard : Claim7 := { stood := { row := readShowsRow, standIns := [], harness := (true, "8b203c86ec687233c9c90c1329645d6c0230bf004a3631fa6e345d7db63d9090"), looks := true }, kinds := [], alts := [], laidByText := true, laidKinds := [.data, .data, .data], laidTests := true, laidLooks := .later }
def ReadShowsCardSaid : Prop := Claim7.holds Tryd.pinned (.plain (OpenSpec.ofChange readShowsSpec)) readShowsCard

/-- THE TIED CARD OF 'grafterylaw.ReadReads'. -/
def readReadsCard : Claim7 := { stood := { row := readReadsRow, standIns := [], harness := (true, "8b203c86ec687233c9c90c1329645d6c0230bf004a3631fa6e345d7db63d9090"), looks := true }, kinds := [], alts := [], laidByText := true, laidKinds := [.data, .data, .data, .sentinel, .sentinel], laidTests := true, laidLooks := .later }
def ReadReadsCardSaid : Prop := Claim7.holds Tryd.pinned (.plain (OpenSpec.ofChange readReadsSpec)) readReadsCard

/-- THE TIED CARD OF 'grafterykeep.ReadBack'. -/
def readBackCard : Claim7 := { stood := { row := readBackRow, standIns := [], harness := (true, "8b203c86ec687233c9c90c1329645d6c0230bf004a3631fa6e345d7db63d9090"), looks := true }, kinds := [], alts := [], laidByText := true, laidKinds := [.data, .data, .data, .sentinel, .sentinel], laidTests := true, laidLooks := .later }
def ReadBackCardSaid : Prop := Claim7.holds Tryd.pinned (.plain (OpenSpec.ofChange readBackSpec)) readBackCard

/-- THE TIED CARD OF 'grafterykeep.ReadBlanks'. -/
def readBlanksCard : Claim7 := { stood := { row := readBlanksRow, standIns := [], harness := (true, "8b203c86ec687233c9c90c1329645d6c0230bf004a3631fa6e345d7db63d9090"), looks := true }, kinds := [], alts := [], laidByText := true, laidKinds := [.data, .data, .data, .sentinel, .sentinel], laidTests := true, laidLooks := .later }
def ReadBlanksCardSaid : Prop := Claim7.holds Tryd.pinned (.plain (OpenSpec.ofChange readBlanksSpec)) readBlanksCard

/-- THE TIED CARD OF 'grafterykeep.ReadTorn'. -/
def readTornCard : Claim7 := { stood := { row := readTornRow, standIns := [], harness := (true, "8b203c86ec687233c9c90c1329645d6c0230bf004a3631fa6e345d7db63d9090"), looks := true }, kinds := [], alts := [], laidByText := true, laidKinds := [.data, .data, .data, .sentinel, .sentinel], laidTests := true, laidLooks := .later }
def ReadTornCardSaid : Prop := Claim7.holds Tryd.pinned (.plain (OpenSpec.ofChange readTornSpec)) readTornCard

/-- THE TIED CARD OF 'grafterykeep.ReadQuote'. -/
def readQuoteCard : Claim7 := { stood := { row := readQuoteRow, standIns := [], harness := (true, "8b203c86ec687233c9c90c1329645d6c0230bf004a3631fa6e345d7db63d9090"), looks := true }, kinds := [], alts := [], laidByText := true, laidKinds := [.data, .data, .data, .sentinel, .sentinel], laidTests := true, laidLooks := .later }
def ReadQuoteCardSaid : Prop := Claim7.holds Tryd.pinned (.plain (OpenSpec.ofChange readQuoteSpec)) readQuoteCard

/-- THE SECOND FORM's CARD OF 'grafterylaw.ReadShows'. -/
def readShowsUptoCard : Claim7 := { stood := { row := readShowsUptoRow, standIns := [], harness := (true, "8b203c86ec687233c9c90c1329645d6c0230bf004a3631fa6e345d7db63d9090"), looks := true }, kinds := [], alts := [], laidByText := true, laidKinds := [.data, .data, .data], laidTests := true, laidLooks := .later }
def ReadShowsUptoCardSaid : Prop := Claim7.holds Tryd.pinned (.plain (OpenSpec.upto readShowsSpec)) readShowsUptoCard

/-- THE SECOND FORM's CARD OF 'grafterylaw.ReadReads'. -/
def readReadsUptoCard : Claim7 := { stood := { row := readReadsUptoRow, standIns := [], harness := (true, "8b203c86ec687233c9c90c1329645d6c0230bf004a3631fa6e345d7db63d9090"), looks := true }, kinds := [], alts := [], laidByText := true, laidKinds := [.data, .data, .data, .sentinel, .sentinel], laidTests := true, laidLooks := .later }
def ReadReadsUptoCardSaid : Prop := Claim7.holds Tryd.pinned (.plain (OpenSpec.upto readReadsSpec)) readReadsUptoCard

/-- THE SECOND FORM's CARD OF 'grafterykeep.ReadBack'. -/
def readBackUptoCard : Claim7 := { stood := { row := readBackUptoRow, standIns := [], harness := (true, "8b203c86ec687233c9c90c1329645d6c0230bf004a3631fa6e345d7db63d9090"), looks := true }, kinds := [], alts := [], laidByText := true, laidKinds := [.data, .data, .data, .sentinel, .sentinel], laidTests := true, laidLooks := .later }
def ReadBackUptoCardSaid : Prop := Claim7.holds Tryd.pinned (.plain (OpenSpec.upto readBackSpec)) readBackUptoCard

/-- THE SECOND FORM's CARD OF 'grafterykeep.ReadBlanks'. -/
def readBlanksUptoCard : Claim7 := { stood := { row := readBlanksUptoRow, standIns := [], harness := (true, "8b203c86ec687233c9c90c1329645d6c0230bf004a3631fa6e345d7db63d9090"), looks := true }, kinds := [], alts := [], laidByText := true, laidKinds := [.data, .data, .data, .sentinel, .sentinel], laidTests := true, laidLooks := .later }
def ReadBlanksUptoCardSaid : Prop := Claim7.holds Tryd.pinned (.plain (OpenSpec.upto readBlanksSpec)) readBlanksUptoCard

/-- THE SECOND FORM's CARD OF 'grafterykeep.ReadTorn'. -/
def readTornUptoCard : Claim7 := { stood := { row := readTornUptoRow, standIns := [], harness := (true, "8b203c86ec687233c9c90c1329645d6c0230bf004a3631fa6e345d7db63d9090"), looks := true }, kinds := [], alts := [], laidByText := true, laidKinds := [.data, .data, .data, .sentinel, .sentinel], laidTests := true, laidLooks := .later }
def ReadTornUptoCardSaid : Prop := Claim7.holds Tryd.pinned (.plain (OpenSpec.upto readTornSpec)) readTornUptoCard

/-- THE SECOND FORM's CARD OF 'grafterykeep.ReadQuote'. -/
def readQuoteUptoCard : Claim7 := { stood := { row := readQuoteUptoRow, standIns := [], harness := (true, "8b203c86ec687233c9c90c1329645d6c0230bf004a3631fa6e345d7db63d9090"), looks := true }, kinds := [], alts := [], laidByText := true, laidKinds := [.data, .data, .data, .sentinel, .sentinel], laidTests := true, laidLooks := .later }
def ReadQuoteUptoCardSaid : Prop := Claim7.holds Tryd.pinned (.plain (OpenSpec.upto readQuoteSpec)) readQuoteUptoCard
end Rows
end Go.Proofs.YtfhiolnoalghmaaDoor

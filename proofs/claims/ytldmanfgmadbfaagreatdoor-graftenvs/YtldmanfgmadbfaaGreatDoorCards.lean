/-
  DERIVED. GIVEN WITH THE SEED: THE CARDS: each row of YtldmanfgmadbfaaGreatDoorRows.lean that lists a variable, with what it lists TIED to the program's text (the seventh form; the later family's looks); each row that meets fmt, with fmt's text TOLD by the authors' own Lean function (tested against real Go, not proved from fmt's source: count such statements apart). THE CARD IS WHAT COUNTS. Prove the row's statement (the work); the ties are given (YtldmanfgmadbfaaGreatDoorTie.lean); close each card by the builder's one call (the guide's Derived/Test/ToyasCard.lean, 'card_holds'). Laid BY PROGRAM, IN A SANDBOX (cutbox-door.mjs). By AI agents, Wed Nov 11 2026. No macro, syntax, notation, axiom, sorry.
-/
import Derived.Test.YtldmanfgmadbfaaGreatDoorRows
import GoSem.ClaimSeven
namespace Go.Proofs.YtldmanfgmadbfaaGreatDoor
namespace Rows

/-- THE TIED CARD OF 'grafterylaw.VmChecks'. -/
def vmChecksCard : Claim7 := { stood := { row := vmChecksRow, standIns := [], harness := (true, "f900bb85e3dc5c6749fbb0ba3cfa3153ab7525b604644074b62268459ceb3d25"), looks := false }, kinds := [], alts := [], laidByText := true, laidKinds := [.data], laidTests := true, laidLooks := .later }
def VmChecksCardSaid : Prop := Claim7.holds Tryz.pinned (.plain (OpenSpec.ofChange vmChecksSpec)) vmChecksCard

/-- THE TIED CARD OF 'grafterylaw.GraftEnvs'. -/
def graftEnvsCard : Claim7 := { stood := { row := graftEnvsRow, standIns := [], harness := (true, "f900bb85e3dc5c6749fbb0ba3cfa3153ab7525b604644074b62268459ceb3d25"), looks := false }, kinds := [], alts := [], laidByText := true, laidKinds := [.data], laidTests := true, laidLooks := .later }
def GraftEnvsCardSaid : Prop := Claim7.holds Tryz.pinned (.plain (OpenSpec.ofChange graftEnvsSpec)) graftEnvsCard

/-- THE SECOND FORM's CARD OF 'grafterylaw.VmChecks'. -/
def vmChecksUptoCard : Claim7 := { stood := { row := vmChecksUptoRow, standIns := [], harness := (true, "f900bb85e3dc5c6749fbb0ba3cfa3153ab7525b604644074b62268459ceb3d25"), looks := false }, kinds := [], alts := [], laidByText := true, laidKinds := [.data], laidTests := true, laidLooks := .later }
def VmChecksUptoCardSaid : Prop := Claim7.holds Tryz.pinned (.plain (OpenSpec.upto vmChecksSpec)) vmChecksUptoCard

/-- THE SECOND FORM's CARD OF 'grafterylaw.GraftEnvs'. -/
def graftEnvsUptoCard : Claim7 := { stood := { row := graftEnvsUptoRow, standIns := [], harness := (true, "f900bb85e3dc5c6749fbb0ba3cfa3153ab7525b604644074b62268459ceb3d25"), looks := false }, kinds := [], alts := [], laidByText := true, laidKinds := [.data], laidTests := true, laidLooks := .later }
def GraftEnvsUptoCardSaid : Prop := Claim7.holds Tryz.pinned (.plain (OpenSpec.upto graftEnvsSpec)) graftEnvsUptoCard
end Rows
end Go.Proofs.YtldmanfgmadbfaaGreatDoor

/- vm.Check answers what the document's P4.5 asks, whatever the world: VmChecks returns true. No condition; the effects start as their text lays them. -/
import Derived.Test.YtldmanfgmadbfaaGreatDoorQ19
import Derived.Test.YtldmanfgmadbfaaGreatDoorQ25
namespace Go.Proofs.YtldmanfgmadbfaaGreatDoor
set_option maxRecDepth 100000
open HH UU VV
theorem worldC : WorldC := fun x lim w hS hb hw => worldMay_any x lim w hS hb hw
theorem vmChecks_card : Rows.VmChecksCardSaid := vmChecks_card_of worldC
end Go.Proofs.YtldmanfgmadbfaaGreatDoor

/- graft.Env answers what the document's P6.1 asks, whatever the world: GraftEnvs returns true. No condition; the effects start as their text lays them. -/
import Derived.Test.YtldmanfgmadbfaaGreatDoorR08
import Derived.Test.YtldmanfgmadbfaaGreatDoorCards
import Derived.Test.YtldmanfgmadbfaaGreatDoorTie
import Derived.SevenTiedAt
namespace Go.Proofs.YtldmanfgmadbfaaGreatDoor
set_option maxRecDepth 100000
open HH UU VV
open Go.ChangeShapes Go.WideShapes Go.ChangeAt Go.RowKit
set_option maxHeartbeats 40000000 in
theorem graftEnvs_card : Rows.GraftEnvsCardSaid :=
  Claim7.holds_tied_plain_at .later [] [.data] true (true, "f900bb85e3dc5c6749fbb0ba3cfa3153ab7525b604644074b62268459ceb3d25") false
    graftEnvs_row (fun _ h => by cases h) (by as_aux_lemma => kernel_rfl) (fun _ h => by cases h) graftEnvs_row_tie rfl ⟨rfl, rfl⟩ (by as_aux_lemma => kernel_rfl) rfl
    (fun f fn hf hfn => by
      obtain rfl : f = 4 := Option.some.inj ((show Tryz.prog.funcNamed "graftery/grafterylaw.GraftEnvs" = some 4 by kernel_rfl).symm.trans hf) |>.symm
      obtain rfl : fn = Tryz.f4 := (Option.some.inj (Tryz.func4.symm.trans hfn)).symm
      exact ⟨by kernel_rfl, fun j t ht => by
        rw [Tryz.params4] at ht
        have hm : t ∈ [29] := by simpa using Array.mem_of_getElem? ht
        have hall : ([29].all fun u => !Tryz.prog.wantsStandIn u) = true := by kernel_rfl
        exact (show Tryz.prog.wantsStandIn t = false by simpa using List.all_eq_true.1 hall t hm)⟩)
    (by as_aux_lemma => kernel_rfl)
end Go.Proofs.YtldmanfgmadbfaaGreatDoor

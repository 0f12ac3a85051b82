/- A heap that is too small, or too great, is refused, and a script that is too long: TopBad returns true for whatever is handed in. No condition; the library's variables start as its text lays them. -/
import Derived.Test.YtdfmimgjdchafaaGreatDoorKBadRow
import Derived.Test.YtdfmimgjdchafaaGreatDoorCards
import Derived.Test.YtdfmimgjdchafaaGreatDoorTie
import Derived.SevenTiedAt
namespace Go.Proofs.YtdfmimgjdchafaaGreatDoor
set_option maxRecDepth 100000
open Go.ChangeShapes Go.WideShapes Go.ChangeAt Go.RowKit
set_option maxHeartbeats 40000000 in
theorem topBad_card : Rows.TopBadCardSaid :=
  Claim7.holds_tied_plain_at .later [] [.data, .data, .data, .sentinel, .sentinel, .data] true (true, "0c667c90c1f4dcd733d411c55a47692d946f85d5fef589a1bfdd4e72eb857336") true
    topBad_row (fun _ h => by cases h) (by as_aux_lemma => kernel_rfl) (fun _ h => by cases h) topBad_row_tie rfl ⟨rfl, rfl⟩ (by as_aux_lemma => kernel_rfl) rfl
    (fun f fn hf hfn => by
      obtain rfl : f = 3 := Option.some.inj ((show Tryz.prog.funcNamed "graftery/grafterytop.TopBad" = some 3 by kernel_rfl).symm.trans hf) |>.symm
      obtain rfl : fn = Tryz.f3 := (Option.some.inj (Tryz.func3.symm.trans hfn)).symm
      exact ⟨by kernel_rfl, fun j t ht => by
        rw [Tryz.params3] at ht
        have hm : t ∈ [22, 3] := by simpa using Array.mem_of_getElem? ht
        have hall : ([22, 3].all fun u => !Tryz.prog.wantsStandIn u) = true := by kernel_rfl
        exact (show Tryz.prog.wantsStandIn t = false by simpa using List.all_eq_true.1 hall t hm)⟩)
    (by as_aux_lemma => kernel_rfl)
#print axioms topBad_card
end Go.Proofs.YtdfmimgjdchafaaGreatDoor

/-
  No cell of these rows narrows 'for every input' (looked for: loops, veiled, ifaces, maps, wideKeys, modest, calm, conditions, laid).
  DERIVED. THE GIVEN ROWS OF THIS SEAT. 4 by the template 'for every input the law returns true; each argument reads behind the call as it read before'; 0 by the template 'total and deterministic' (their statements: YtghaididbhjpaaaTotals.lean).
  GIVEN WITH THE SEED: the statements are not yours to turn. If you find one false, say at which input.
  Laid BY PROGRAM, IN A SANDBOX (cutbox-rows.mjs): the forced cells as the released guide's own fill.sh prints them over the translation db558c1886a5d332… (all of the seat's roots in one cut). By AI agents, Wed Nov 11 2026. No macro, syntax, notation, axiom, sorry.
-/
import Derived.Test.YtghaididbhjpaaaChecked
import GoSem.Claim
import GoSem.ClaimJoined
import GoSem.ClaimMapViews
import Derived.JoinedTies
import Derived.KernelRfl
namespace Go.Proofs.Ytghaididbhjpaaa
/- THE CELL 'sum', in the pinned program and in every row, IS THE sha256 OF THE DUMP (.gsa) THAT YtghaididbhjpaaaProg.lean LOADS. Nothing in Lean hashes anything: it is a label: what it is worth is what the hold of that sum in a sandbox is worth. -/
noncomputable def Try.pinned : Pinned := { name := "ytghaididbhjpaaa", sum := "db558c1886a5d3322ed8182a8007b4b213f3b3149830edaa6162275c109438d3", checked := Try.checked }
namespace Rows
def none {H : Type} : Left H := { results := [], args := [] }

/-- 'grafterykeep.MoveFinds': WHATEVER THE INPUT: true; the input reads as it did. -/
def moveFindsSpec : ChangeSpec := { name := "moveFinds", fn := fun _ => fun
  | [d1, d2] => { results := [.lit (.bool true)], args := [d1, d2] }
  | _ => none }
def moveFindsRow : OpenClaim := { program := "ytghaididbhjpaaa", sum := "db558c1886a5d3322ed8182a8007b4b213f3b3149830edaa6162275c109438d3", func := "graftery/grafterykeep.MoveFinds", spec := "moveFinds", unfollowed := true, recurses := true, apart := false }
def MoveFindsSaid : Prop := moveFindsRow.holds Try.pinned (OpenSpec.ofChange moveFindsSpec)

/-- ITS FALSE NEIGHBOUR: 'it returns false'. Refute it at one input. -/
def moveFindsWrong : ChangeSpec := { name := "moveFinds", fn := fun _ => fun
  | [d1, d2] => { results := [.lit (.bool false)], args := [d1, d2] }
  | _ => none }
def MoveFindsWrongFalsely : Prop := moveFindsRow.holds Try.pinned (OpenSpec.ofChange moveFindsWrong)

/-- 'grafterylaw.HeapMoves': WHATEVER THE INPUT: true; the input reads as it did. -/
def heapMovesSpec : ChangeSpec := { name := "heapMoves", fn := fun _ => fun
  | [d1, d2, d3] => { results := [.lit (.bool true)], args := [d1, d2, d3] }
  | _ => none }
def heapMovesRow : OpenClaim := { program := "ytghaididbhjpaaa", sum := "db558c1886a5d3322ed8182a8007b4b213f3b3149830edaa6162275c109438d3", func := "graftery/grafterylaw.HeapMoves", spec := "heapMoves", unfollowed := true, recurses := true, apart := false }
def HeapMovesSaid : Prop := heapMovesRow.holds Try.pinned (OpenSpec.ofChange heapMovesSpec)

/-- ITS FALSE NEIGHBOUR: 'it returns false'. Refute it at one input. -/
def heapMovesWrong : ChangeSpec := { name := "heapMoves", fn := fun _ => fun
  | [d1, d2, d3] => { results := [.lit (.bool false)], args := [d1, d2, d3] }
  | _ => none }
def HeapMovesWrongFalsely : Prop := heapMovesRow.holds Try.pinned (OpenSpec.ofChange heapMovesWrong)

/-- 'grafterykeep.HeapGood': WHATEVER THE INPUT: true; the input reads as it did. -/
def heapGoodSpec : ChangeSpec := { name := "heapGood", fn := fun _ => fun
  | [d1, d2] => { results := [.lit (.bool true)], args := [d1, d2] }
  | _ => none }
def heapGoodRow : OpenClaim := { program := "ytghaididbhjpaaa", sum := "db558c1886a5d3322ed8182a8007b4b213f3b3149830edaa6162275c109438d3", func := "graftery/grafterykeep.HeapGood", spec := "heapGood", unfollowed := true, recurses := true, apart := false }
def HeapGoodSaid : Prop := heapGoodRow.holds Try.pinned (OpenSpec.ofChange heapGoodSpec)

/-- ITS FALSE NEIGHBOUR: 'it returns false'. Refute it at one input. -/
def heapGoodWrong : ChangeSpec := { name := "heapGood", fn := fun _ => fun
  | [d1, d2] => { results := [.lit (.bool false)], args := [d1, d2] }
  | _ => none }
def HeapGoodWrongFalsely : Prop := heapGoodRow.holds Try.pinned (OpenSpec.ofChange heapGoodWrong)

/-- 'grafterykeep.PartsBack': WHATEVER THE INPUT: true; the input reads as it did. -/
def partsBackSpec : ChangeSpec := { name := "partsBack", fn := fun _ => fun
  | [d1, d2, d3, d4] => { results := [.lit (.bool true)], args := [d1, d2, d3, d4] }
  | _ => none }
def partsBackRow : OpenClaim := { program := "ytghaididbhjpaaa", sum := "db558c1886a5d3322ed8182a8007b4b213f3b3149830edaa6162275c109438d3", func := "graftery/grafterykeep.PartsBack", spec := "partsBack", unfollowed := true, recurses := true, apart := false }
def PartsBackSaid : Prop := partsBackRow.holds Try.pinned (OpenSpec.ofChange partsBackSpec)

/-- ITS FALSE NEIGHBOUR: 'it returns false'. Refute it at one input. -/
def partsBackWrong : ChangeSpec := { name := "partsBack", fn := fun _ => fun
  | [d1, d2, d3, d4] => { results := [.lit (.bool false)], args := [d1, d2, d3, d4] }
  | _ => none }
def PartsBackWrongFalsely : Prop := partsBackRow.holds Try.pinned (OpenSpec.ofChange partsBackWrong)

/- THE SECOND FORM. 'bulk': how many values and letters a reading holds, each counted each time it is reached (what is shared counts as often as it is met; a slice's spare places count too). A statement '..UptoSaid' is the law's where the arguments, and the package variables that the reading takes, are together of bulk at most 1048576: NARROWER than '..Said'. Prove '..Said' where nothing that the law and all that it calls make is longer than what came in: it says more and counts as full. Else prove '..UptoSaid'. A law counts once. -/
mutual
def uptoBulk {H : Type} : DataW H → Nat
  | .lit (.string bytes) => bytes.length + 1
  | .lit _ => 1
  | .nil => 1
  | .ptr d => uptoBulk d + 1
  | .slice elems spare => uptoBulkAll elems + uptoBulkAll spare + 1
  | .agg parts => uptoBulkAll parts + 1
  | .iface _ d => uptoBulk d + 1
  | .map entries => uptoBulkEntries entries + 1
  | .held _ => 1
def uptoBulkAll {H : Type} : List (DataW H) → Nat
  | [] => 0
  | d :: r => uptoBulk d + uptoBulkAll r
def uptoBulkEntries {H : Type} : List (Lit × DataW H) → Nat
  | [] => 0
  | x :: r => uptoBulkEntry x + uptoBulkEntries r
def uptoBulkEntry {H : Type} : Lit × DataW H → Nat
  | (.string bytes, d) => bytes.length + uptoBulk d + 1
  | (_, d) => uptoBulk d + 1
 end
def uptoSmall : (H : Type) → List (DataW H) → Bool := fun _ ds => decide (uptoBulkAll ds ≤ 1048576)
def OpenSpec.upto (s : _root_.Go.ChangeSpec) : _root_.Go.OpenSpec := { _root_.Go.OpenSpec.ofChange s with cond := some uptoSmall }

/-- 'grafterykeep.MoveFinds', WHERE WHAT IT READS IS OF BULK AT MOST 1048576: true; the input reads as it did. -/
def moveFindsUptoRow : OpenClaim := { program := "ytghaididbhjpaaa", sum := "db558c1886a5d3322ed8182a8007b4b213f3b3149830edaa6162275c109438d3", func := "graftery/grafterykeep.MoveFinds", spec := "moveFinds", unfollowed := true, recurses := true, apart := false, narrowed := true }
def MoveFindsUptoSaid : Prop := moveFindsUptoRow.holds Try.pinned (OpenSpec.upto moveFindsSpec)

/-- 'grafterylaw.HeapMoves', WHERE WHAT IT READS IS OF BULK AT MOST 1048576: true; the input reads as it did. -/
def heapMovesUptoRow : OpenClaim := { program := "ytghaididbhjpaaa", sum := "db558c1886a5d3322ed8182a8007b4b213f3b3149830edaa6162275c109438d3", func := "graftery/grafterylaw.HeapMoves", spec := "heapMoves", unfollowed := true, recurses := true, apart := false, narrowed := true }
def HeapMovesUptoSaid : Prop := heapMovesUptoRow.holds Try.pinned (OpenSpec.upto heapMovesSpec)

/-- 'grafterykeep.HeapGood', WHERE WHAT IT READS IS OF BULK AT MOST 1048576: true; the input reads as it did. -/
def heapGoodUptoRow : OpenClaim := { program := "ytghaididbhjpaaa", sum := "db558c1886a5d3322ed8182a8007b4b213f3b3149830edaa6162275c109438d3", func := "graftery/grafterykeep.HeapGood", spec := "heapGood", unfollowed := true, recurses := true, apart := false, narrowed := true }
def HeapGoodUptoSaid : Prop := heapGoodUptoRow.holds Try.pinned (OpenSpec.upto heapGoodSpec)

/-- 'grafterykeep.PartsBack', WHERE WHAT IT READS IS OF BULK AT MOST 1048576: true; the input reads as it did. -/
def partsBackUptoRow : OpenClaim := { program := "ytghaididbhjpaaa", sum := "db558c1886a5d3322ed8182a8007b4b213f3b3149830edaa6162275c109438d3", func := "graftery/grafterykeep.PartsBack", spec := "partsBack", unfollowed := true, recurses := true, apart := false, narrowed := true }
def PartsBackUptoSaid : Prop := partsBackUptoRow.holds Try.pinned (OpenSpec.upto partsBackSpec)

end Rows
end Go.Proofs.Ytghaididbhjpaaa

/-
  NARROWER THAN 'FOR EVERY INPUT', by the rows' own cells (each row's printed sentence says how): UnitBehind: loops.
  DERIVED. THE GIVEN ROWS OF THIS SEAT. 3 by the template 'for every input the law returns true; each argument reads behind the call as it read before'; 0 by the template 'total and deterministic' (their statements: YtgdeomdnpgedbabTotals.lean).
  GIVEN WITH THE SEED: the statements are not yours to turn. If you find one false, say at which input.
  Laid BY PROGRAM, IN A SANDBOX (cutbox-rows.mjs): the forced cells as the released guide's own fill.sh prints them over the translation 16f3ac9fc84df12f… (all of the seat's roots in one cut). By AI agents, Wed Nov 11 2026. No macro, syntax, notation, axiom, sorry.
-/
import Derived.Test.YtgdeomdnpgedbabChecked
import GoSem.Claim
import GoSem.ClaimJoined
import GoSem.ClaimMapViews
import Derived.JoinedTies
import Derived.KernelRfl
namespace Go.Proofs.Ytgdeomdnpgedbab
/- THE CELL 'sum', in the pinned program and in every row, IS THE sha256 OF THE DUMP (.gsa) THAT YtgdeomdnpgedbabProg.lean LOADS. Nothing in Lean hashes anything: it is a label: what it is worth is what the hold of that sum in a sandbox is worth. -/
noncomputable def Try.pinned : Pinned := { name := "ytgdeomdnpgedbab", sum := "16f3ac9fc84df12f29426fb9a7fbc3f217d65a41fdb39b5e13e0d3b16e5f1ca0", checked := Try.checked }
namespace Rows
def none {H : Type} : Left H := { results := [], args := [] }

/-- 'grafterylaw.UnitShapes': WHATEVER THE INPUT: true; the input reads as it did. -/
def unitShapesSpec : ChangeSpec := { name := "unitShapes", fn := fun _ => fun
  | [d] => { results := [.lit (.bool true)], args := [d] }
  | _ => none }
def unitShapesRow : OpenClaim := { program := "ytgdeomdnpgedbab", sum := "16f3ac9fc84df12f29426fb9a7fbc3f217d65a41fdb39b5e13e0d3b16e5f1ca0", func := "graftery/grafterylaw.UnitShapes", spec := "unitShapes", inPlace := ["internal/bytealg.IndexByteString"], recurses := true, apart := false }
def UnitShapesSaid : Prop := unitShapesRow.holds Try.pinned (OpenSpec.ofChange unitShapesSpec)

/-- ITS FALSE NEIGHBOUR: 'it returns false'. Refute it at one input. -/
def unitShapesWrong : ChangeSpec := { name := "unitShapes", fn := fun _ => fun
  | [d] => { results := [.lit (.bool false)], args := [d] }
  | _ => none }
def UnitShapesWrongFalsely : Prop := unitShapesRow.holds Try.pinned (OpenSpec.ofChange unitShapesWrong)

/-- 'grafterylaw.UnitChecks': WHATEVER THE INPUT: true; the input reads as it did. -/
def unitChecksSpec : ChangeSpec := { name := "unitChecks", fn := fun _ => fun
  | [d] => { results := [.lit (.bool true)], args := [d] }
  | _ => none }
def unitChecksRow : OpenClaim := { program := "ytgdeomdnpgedbab", sum := "16f3ac9fc84df12f29426fb9a7fbc3f217d65a41fdb39b5e13e0d3b16e5f1ca0", func := "graftery/grafterylaw.UnitChecks", spec := "unitChecks", inPlace := ["internal/bytealg.IndexByteString"], unfollowed := true, recurses := true, apart := false }
def UnitChecksSaid : Prop := unitChecksRow.holds Try.pinned (OpenSpec.ofChange unitChecksSpec)

/-- ITS FALSE NEIGHBOUR: 'it returns false'. Refute it at one input. -/
def unitChecksWrong : ChangeSpec := { name := "unitChecks", fn := fun _ => fun
  | [d] => { results := [.lit (.bool false)], args := [d] }
  | _ => none }
def UnitChecksWrongFalsely : Prop := unitChecksRow.holds Try.pinned (OpenSpec.ofChange unitChecksWrong)

/-- 'grafterylaw.UnitBehind': WHATEVER THE INPUT: true; the input reads as it did. -/
def unitBehindSpec : ChangeSpec := { name := "unitBehind", fn := fun _ => fun
  | [d1, d2] => { results := [.lit (.bool true)], args := [d1, d2] }
  | _ => none }
def unitBehindRow : OpenClaim := { program := "ytgdeomdnpgedbab", sum := "16f3ac9fc84df12f29426fb9a7fbc3f217d65a41fdb39b5e13e0d3b16e5f1ca0", func := "graftery/grafterylaw.UnitBehind", spec := "unitBehind", loops := true, apart := false }
def UnitBehindSaid : Prop := unitBehindRow.holds Try.pinned (OpenSpec.ofChange unitBehindSpec)

/-- ITS FALSE NEIGHBOUR: 'it returns false'. Refute it at one input. -/
def unitBehindWrong : ChangeSpec := { name := "unitBehind", fn := fun _ => fun
  | [d1, d2] => { results := [.lit (.bool false)], args := [d1, d2] }
  | _ => none }
def UnitBehindWrongFalsely : Prop := unitBehindRow.holds Try.pinned (OpenSpec.ofChange unitBehindWrong)

/- THE SECOND FORM. 'bulk': how many values and letters a reading holds, each counted each time it is reached (what is shared counts as often as it is met; a slice's spare places count too). A statement '..UptoSaid' is the law's where the arguments, and the package variables that the reading takes, are together of bulk at most 1048576: NARROWER than '..Said'. Prove '..Said' where nothing that the law and all that it calls make is longer than what came in: it says more and counts as full. Else prove '..UptoSaid'. A law counts once. -/
mutual
def uptoBulk {H : Type} : DataW H → Nat
  | .lit (.string bytes) => bytes.length + 1
  | .lit _ => 1
  | .nil => 1
  | .ptr d => uptoBulk d + 1
  | .slice elems spare => uptoBulkAll elems + uptoBulkAll spare + 1
  | .agg parts => uptoBulkAll parts + 1
  | .iface _ d => uptoBulk d + 1
  | .map entries => uptoBulkEntries entries + 1
  | .held _ => 1
def uptoBulkAll {H : Type} : List (DataW H) → Nat
  | [] => 0
  | d :: r => uptoBulk d + uptoBulkAll r
def uptoBulkEntries {H : Type} : List (Lit × DataW H) → Nat
  | [] => 0
  | x :: r => uptoBulkEntry x + uptoBulkEntries r
def uptoBulkEntry {H : Type} : Lit × DataW H → Nat
  | (.string bytes, d) => bytes.length + uptoBulk d + 1
  | (_, d) => uptoBulk d + 1
 end
def uptoSmall : (H : Type) → List (DataW H) → Bool := fun _ ds => decide (uptoBulkAll ds ≤ 1048576)
def OpenSpec.upto (s : _root_.Go.ChangeSpec) : _root_.Go.OpenSpec := { _root_.Go.OpenSpec.ofChange s with cond := some uptoSmall }

/-- 'grafterylaw.UnitShapes', WHERE WHAT IT READS IS OF BULK AT MOST 1048576: true; the input reads as it did. -/
def unitShapesUptoRow : OpenClaim := { program := "ytgdeomdnpgedbab", sum := "16f3ac9fc84df12f29426fb9a7fbc3f217d65a41fdb39b5e13e0d3b16e5f1ca0", func := "graftery/grafterylaw.UnitShapes", spec := "unitShapes", inPlace := ["internal/bytealg.IndexByteString"], recurses := true, apart := false, narrowed := true }
def UnitShapesUptoSaid : Prop := unitShapesUptoRow.holds Try.pinned (OpenSpec.upto unitShapesSpec)

/-- 'grafterylaw.UnitChecks', WHERE WHAT IT READS IS OF BULK AT MOST 1048576: true; the input reads as it did. -/
def unitChecksUptoRow : OpenClaim := { program := "ytgdeomdnpgedbab", sum := "16f3ac9fc84df12f29426fb9a7fbc3f217d65a41fdb39b5e13e0d3b16e5f1ca0", func := "graftery/grafterylaw.UnitChecks", spec := "unitChecks", inPlace := ["internal/bytealg.IndexByteString"], unfollowed := true, recurses := true, apart := false, narrowed := true }
def UnitChecksUptoSaid : Prop := unitChecksUptoRow.holds Try.pinned (OpenSpec.upto unitChecksSpec)

/-- 'grafterylaw.UnitBehind', WHERE WHAT IT READS IS OF BULK AT MOST 1048576: true; the input reads as it did. -/
def unitBehindUptoRow : OpenClaim := { program := "ytgdeomdnpgedbab", sum := "16f3ac9fc84df12f29426fb9a7fbc3f217d65a41fdb39b5e13e0d3b16e5f1ca0", func := "graftery/grafterylaw.UnitBehind", spec := "unitBehind", loops := true, apart := false, narrowed := true }
def UnitBehindUptoSaid : Prop := unitBehindUptoRow.holds Try.pinned (OpenSpec.upto unitBehindSpec)

end Rows
end Go.Proofs.Ytgdeomdnpgedbab

/- Short names of two laws. -/
import Derived.Test.YtldmanfgmadbfaaGreatDoorQ09
import Derived.Below
import Derived.RegionTactic
import Derived.ProofKit
namespace Go.Proofs.YtldmanfgmadbfaaGreatDoor
open Go.RowKit
theorem Found.va {ops : Array Oper} {a0 : Act} {p : Nat → Value → World → Prop} {o : Oper} {a : Act} {w : World} (h : Found ops a0 p o a w) (j d : Nat) (he : (o.after.any fun e => e.on == j && Region.binds .any e) = true := by kernel_rfl) (hd : (ops[j]?).bind (·.dst) = some d := by kernel_rfl) : ∃ v, a.tmps[d]? = some v ∧ p j v w := h.val j d he hd
theorem cx {B : Nat} {w w' : World} {p : Addr} {v : Value} (h : Below B w w') (c : w.cell? p = some v) (hp : p.block < B := by dsimp only; omega) : w'.cell? p = some v := (h.cell hp).trans c
end Go.Proofs.YtldmanfgmadbfaaGreatDoor

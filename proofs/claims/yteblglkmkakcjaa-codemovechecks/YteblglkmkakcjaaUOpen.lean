/- What came in, opened: texts in a row. -/
import Derived.Test.YteblglkmkakcjaaUShape
import Derived.ProofKit
import Derived.OpenShut
import Derived.ShutString
import Derived.ChangeOld
import Derived.Below
import Derived.Deep.Slices
import Derived.Lib.SmallJoins
namespace Go.Proofs.Yteblglkmkakcjaa
set_option maxRecDepth 100000
open Go.ChangeShapes Go.WideShapes Go.ChangeAt Go.RowKit
theorem own : ownKnob Try.prog.godebug = none := by kernel_rfl
theorem laidOut : laidOutB Try.prog = true := by kernel_rfl
theorem cellsSh : Try.prog.cellsOf 64 = 2 := by kernel_rfl
theorem cellsS : Try.prog.cellsOf 9 = 1 := by kernel_rfl
theorem cellsSs : Try.prog.cellsOf 25 = 1 := by kernel_rfl
def strOf : Value → ByteArray
  | .string s => s
  | _ => ByteArray.empty
theorem strs_of {H : Type} {enc : TypeId × Value → H} {W : World} {fuel : Nat} {v : Value} {y : DataW H × List MemPlace}
    (h : DataW.trod enc Try.prog W 0 (fun _ => true) true fuel 25 [v] = some y) :
    ∃ a cap ss, v = .slice a (List.length ss) cap ∧ ss.length ≤ cap ∧ ss.length ≤ maxLen ∧ Strs W W.heap.size a ss := by
  rcases Deep.open_slice1 Try.underlying25 cellsS h with ⟨hcs, _⟩ | ⟨a, len, cap, m, n, V, D, Pl, hcs, _, hl, hm, hmm, _, hel⟩
  · exact ⟨none, 0, [], by simpa using hcs, Nat.le_refl _, Nat.zero_le _, fun i hi => absurd hi (by simp)⟩
  · simp at hmm
    have hstr : ∀ i, i < len → ∃ s, V i = .string s ∧ s.size ≤ maxLen := by
      intro i hi
      obtain ⟨_, h2⟩ := hel i (by omega)
      obtain ⟨s, e, _, hs⟩ := DataW.trod_string Try.underlying9 h2
      exact ⟨s, by simpa using e, hs⟩
    refine ⟨some a, cap, (List.range len).map (fun i => strOf (V i)), by simpa using hcs, by simpa using hl, by simp; omega, fun i hi => ?_⟩
    simp at hi
    obtain ⟨s, hs, hsz⟩ := hstr i hi
    obtain ⟨hc, _⟩ := hel i (by omega)
    obtain ⟨b, off, spot⟩ := a
    have hspot : spot = none := by
      obtain ⟨hc0, _⟩ := hel 0 (by omega)
      simpa [Addr.add] using World.cell?_spot (by simpa [Addr.add] using hc0)
    subst hspot
    rw [add_plain] at hc
    have e : ((List.range len).map (fun i => strOf (V i)))[i]'(by simpa using hi) = s := by simp [hs, strOf]
    rw [e]
    exact ⟨hsz, b, off, rfl, World.block_lt_of_cell? _ _ hc, by rw [hc, hs]⟩
end Go.Proofs.Yteblglkmkakcjaa

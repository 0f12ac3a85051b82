/- Words that came in, opened, with their bulk. -/
import Derived.Test.YtiiiockogcopaaaRows
import Derived.Test.YtiiiockogcopaaaHOpen
import Derived.JoinedCond
namespace Go.Proofs.Ytiiiockogcopaaa
set_option maxRecDepth 100000
open Go.ChangeShapes Go.WideShapes Go.ChangeAt Go.RowKit
theorem bulk_pos {H : Type} (d : DataW H) : 1 ≤ Rows.uptoBulk d := by
  cases d with
  | lit l => cases l <;> simp [Rows.uptoBulk]
  | _ => simp [Rows.uptoBulk]
theorem bulk_len {H : Type} : ∀ l : List (DataW H), l.length ≤ Rows.uptoBulkAll l
  | [] => by simp [Rows.uptoBulkAll]
  | x :: r => by have := bulk_len r; have := bulk_pos x; simp only [Rows.uptoBulkAll, List.length_cons]; omega
theorem wds_ofB {H : Type} {enc : TypeId × Value → H} {W : World} {fuel : Nat} {v : Value} {y : DataW H × List MemPlace}
    (h : DataW.trod enc Try.prog W 0 (fun _ => true) true fuel 22 [v] = some y) :
    ∃ a cap l, v = .slice a (List.length l) cap ∧ l.length ≤ cap ∧ l.length ≤ maxLen ∧ Wds W W.heap.size a l ∧ wfL l ∧ l.length ≤ Rows.uptoBulk y.1 := by
  obtain ⟨a, cap, l, rfl, h1, h2, h3, h4⟩ := wds_of h
  refine ⟨a, cap, l, rfl, h1, h2, h3, h4, ?_⟩
  rcases Deep.open_slice Try.underlying22 h with ⟨hcs, rfl⟩ | ⟨a', len, cap', m, n, D, Pl, hcs, _, hl, hm, hmm, rfl, hel⟩
  · have : l.length = 0 := by simp at hcs; rw [hcs.2.1]; rfl
    omega
  · have e : l.length = len := by simp at hcs; exact hcs.2.1
    have hb := bulk_len ((List.range len).map D)
    simp only [Rows.uptoBulk]
    simp at hb
    omega
end Go.Proofs.Ytiiiockogcopaaa

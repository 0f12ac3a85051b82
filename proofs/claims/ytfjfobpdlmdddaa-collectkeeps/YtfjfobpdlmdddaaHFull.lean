/- Words that came in, opened, with the row's own reach. -/
import Derived.Test.YtfjfobpdlmdddaaRows
import Derived.Test.YtfjfobpdlmdddaaHOpen
import Derived.SizedLaws
namespace Go.Proofs.Ytfjfobpdlmdddaa
set_option maxRecDepth 100000
open Go.ChangeShapes Go.WideShapes Go.ChangeAt Go.RowKit
/-- Nothing of it is beyond the reach. -/
def InR {H : Type} (P : Program) (t : TypeId) (d : DataW H) : Prop := ∀ n, n ∈ d.weights P t → n ≤ 140737488351232
theorem InR.field {H : Type} {P : Program} {t : TypeId} {fs : Array Field} {parts : List (DataW H)} (h : InR P t (.agg parts)) (ht : P.underlying t = some (.struct fs)) {j : Nat} {f : Field} {d : DataW H} (hf : fs[j]? = some f) (hd : parts[j]? = some d) : InR P f.type d := by
  intro n hn
  refine h n ?_
  simp only [DataW.weights, ht]
  exact DataW.weights_mem_each (by simp [hf]) hd n hn
theorem bytesWd : Try.prog.bytesOf 37 = 32 := by kernel_rfl
theorem wds_ofR {H : Type} {enc : TypeId × Value → H} {W : World} {fuel : Nat} {v : Value} {y : DataW H × List MemPlace}
    (h : DataW.trod enc Try.prog W 0 (fun _ => true) true fuel 22 [v] = some y) (hw : InR Try.prog 22 y.1) :
    ∃ a cap l, v = .slice a (List.length l) cap ∧ l.length ≤ cap ∧ l.length ≤ maxLen ∧ Wds W W.heap.size a l ∧ wfL l ∧ l.length * 32 ≤ 140737488351232 := by
  obtain ⟨a, cap, l, rfl, h1, h2, h3, h4⟩ := wds_of h
  refine ⟨a, cap, l, rfl, h1, h2, h3, h4, ?_⟩
  rcases Deep.open_slice Try.underlying22 h with ⟨hcs, rfl⟩ | ⟨a', len, cap', m, n, D, Pl, hcs, _, hl, hm, hmm, rfl, hel⟩
  · have : l.length = 0 := by simp at hcs; rw [hcs.2.1]; rfl
    omega
  · have e : l.length = len := by simp at hcs; exact hcs.2.1
    have h1 := hw ((len + (m - len)) * 32) (by
      simp only [DataW.weights, Try.underlying22, List.mem_cons, bytesWd]
      exact Or.inl (by simp))
    omega
theorem wds_inR {H : Type} {enc : TypeId × Value → H} {W : World} {v : Value} {d : DataW H} {p : List MemPlace} {base : Nat} (hv : Value.okWide Try.prog W .any base 22 v)
    (h : DataW.Trod enc Try.prog W 0 (fun _ => true) true 22 v d p) (hw : InR Try.prog 22 d) :
    ∃ a cap l, v = .slice a (List.length l) cap ∧ l.length ≤ cap ∧ l.length ≤ maxLen ∧ Wds W W.heap.size a l ∧ wfL l ∧ l.length * 32 ≤ 140737488351232 := by
  obtain ⟨a, n, c, rfl⟩ := okWide_slice Try.underlying22 hv
  obtain ⟨fuel, hf⟩ := h
  exact wds_ofR (y := (d, p)) (by simpa [Value.cells] using hf) hw
end Go.Proofs.Ytfjfobpdlmdddaa

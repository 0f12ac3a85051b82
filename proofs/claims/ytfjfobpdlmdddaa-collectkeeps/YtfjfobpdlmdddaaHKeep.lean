/- A box that a region has made is as it was behind a call. -/
import Derived.Test.YtfjfobpdlmdddaaHFindC
namespace Go.Proofs.Ytfjfobpdlmdddaa
set_option maxRecDepth 100000
open Go.RowKit
theorem undrew {B : Nat} {a w : World} (h : Below B a.drew w) : Below B a w := ⟨h.os, h.tape, h.output, h.size, h.block⟩
theorem box_kept {w w' : World} {u0 u1 u2 : Value} {t : TypeId} (g : Nat) (hg : g = w.heap.size) (hb : Below (w.alloc (.cells #[u0, u1, u2] t)).heap.size (w.alloc (.cells #[u0, u1, u2] t)) w') :
    (w'.cell? ⟨g, 0, none⟩ = some u0 ∧ w'.cell? ⟨g, 1, none⟩ = some u1 ∧ w'.cell? ⟨g, 2, none⟩ = some u2) ∧ (w'.frozen? ⟨g, 0, none⟩ = false ∧ w'.frozen? ⟨g, 1, none⟩ = false ∧ w'.frozen? ⟨g, 2, none⟩ = false) ∧ g < w'.heap.size := by
  subst hg
  have hz := hb.size
  have hlt : w.heap.size < (w.alloc (.cells #[u0, u1, u2] t)).heap.size := by simp
  refine ⟨⟨?_, ?_, ?_⟩, ⟨?_, ?_, ?_⟩, by omega⟩
  · rw [hb.cell (p := ⟨w.heap.size, 0, none⟩) hlt]; go_simp
  · rw [hb.cell (p := ⟨w.heap.size, 1, none⟩) hlt]; go_simp
  · rw [hb.cell (p := ⟨w.heap.size, 2, none⟩) hlt]; go_simp
  · rw [hb.frozen (p := ⟨w.heap.size, 0, none⟩) hlt]; go_simp
  · rw [hb.frozen (p := ⟨w.heap.size, 1, none⟩) hlt]; go_simp
  · rw [hb.frozen (p := ⟨w.heap.size, 2, none⟩) hlt]; go_simp
theorem box_still {w w' : World} {u0 u1 u2 : Value} {g : Nat} (h : (w.cell? ⟨g, 0, none⟩ = some u0 ∧ w.cell? ⟨g, 1, none⟩ = some u1 ∧ w.cell? ⟨g, 2, none⟩ = some u2) ∧ (w.frozen? ⟨g, 0, none⟩ = false ∧ w.frozen? ⟨g, 1, none⟩ = false ∧ w.frozen? ⟨g, 2, none⟩ = false) ∧ g < w.heap.size) (hb : Below w.heap.size w w') :
    (w'.cell? ⟨g, 0, none⟩ = some u0 ∧ w'.cell? ⟨g, 1, none⟩ = some u1 ∧ w'.cell? ⟨g, 2, none⟩ = some u2) ∧ (w'.frozen? ⟨g, 0, none⟩ = false ∧ w'.frozen? ⟨g, 1, none⟩ = false ∧ w'.frozen? ⟨g, 2, none⟩ = false) ∧ g < w'.heap.size := by
  obtain ⟨⟨a0, a1, a2⟩, ⟨b0, b1, b2⟩, hl⟩ := h
  have hz := hb.size
  exact ⟨⟨(hb.cell (p := ⟨g, _, none⟩) hl).trans a0, (hb.cell (p := ⟨g, _, none⟩) hl).trans a1, (hb.cell (p := ⟨g, _, none⟩) hl).trans a2⟩, ⟨(hb.frozen (p := ⟨g, _, none⟩) hl).trans b0, (hb.frozen (p := ⟨g, _, none⟩) hl).trans b1, (hb.frozen (p := ⟨g, _, none⟩) hl).trans b2⟩, by omega⟩
end Go.Proofs.Ytfjfobpdlmdddaa

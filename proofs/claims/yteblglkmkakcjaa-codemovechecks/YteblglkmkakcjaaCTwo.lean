/- Two rows of texts in one: slices.Concat and the document's texts. -/
import Derived.Test.YteblglkmkakcjaaCTexts
namespace Go.Proofs.Yteblglkmkakcjaa
set_option maxRecDepth 100000
open Go.RowKit Go.WideMaps Go.Maps
theorem strs_sizes {w : World} {B : Nat} {a : Option Addr} {ss : List ByteArray} (h : Strs w B a ss) : ∀ s ∈ ss, s.size ≤ maxLen := by
  intro s hs
  obtain ⟨i, hi, rfl⟩ := List.getElem_of_mem hs
  exact (h i hi).1
theorem rss2 (w : World) (ba na : Option Addr) (bs ns : List ByteArray) (bl nl bc nc : Nat) (hbl : bl = bs.length) (hnl : nl = ns.length) (h1 : Strs w w.heap.size ba bs) (h2 : Strs w w.heap.size na ns) :
    Rss (w.alloc (.cells #[.slice ba bl bc, .slice na nl nc] 25)) (w.heap.size + 1) (some ⟨w.heap.size, 0, none⟩) [⟨ba, bc, bs⟩, ⟨na, nc, ns⟩] := by
  subst hbl hnl
  have hb : Below w.heap.size w (w.alloc (.cells #[.slice ba bs.length bc, .slice na ns.length nc] 25)) := (Below.refl _ _).alloc (Nat.le_refl _) _
  intro i hi
  match i, hi with
  | 0, _ => exact ⟨⟨_, _, rfl, by omega, by go_simp⟩, (h1.below hb).mono (by omega)⟩
  | 1, _ => exact ⟨⟨_, _, rfl, by omega, by go_simp⟩, (h2.below hb).mono (by omega)⟩
theorem flat2 (ba na : Option Addr) (bs ns : List ByteArray) (bc nc : Nat) : flatS [⟨ba, bc, bs⟩, ⟨na, nc, ns⟩] = bs ++ ns := by simp [flatS]
theorem concat2 (w : World) (ba na : Option Addr) (bs ns : List ByteArray) (bl nl bc nc q : Nat) (hq : q = w.heap.size) (hbl : bl = bs.length) (hnl : nl = ns.length) (h1 : Strs w w.heap.size ba bs) (h2 : Strs w w.heap.size na ns) (hb : bl ≤ 40) (hn : nl ≤ 6) :
    Calls Try.prog 15 #[.slice (some ⟨q, 0, none⟩) 2 2] (w.alloc (.cells #[.slice ba bl bc, .slice na nl nc] 25)) fun e w' => ∃ a cap, e = .returned (.slice a (bl + nl) cap) ∧ bl + nl ≤ cap ∧ Strs w' w'.heap.size a (bs ++ ns) ∧ Below (w.heap.size + 1) (w.alloc (.cells #[.slice ba bl bc, .slice na nl nc] 25)) w' := by
  subst hq
  refine (Concat_str _ (w.heap.size + 1) _ 2 2 [⟨ba, bc, bs⟩, ⟨na, nc, ns⟩] (rss2 w ba na bs ns bl nl bc nc hbl hnl h1 h2) (by simp) rfl (by rw [flat2]; simp; omega) (by omega)).mono ?_
  rintro e w' ⟨v, rfl, hv, hb'⟩
  rw [flat2] at hv
  obtain ⟨a, cap, rfl, hc⟩ := hv.slice
  refine ⟨a, cap, by rw [List.length_append, hbl, hnl], by rw [hbl, hnl, ← List.length_append]; exact hc, hv.strs ?_, hb'.mono (by simp)⟩
  intro s hs
  rcases List.mem_append.1 hs with h | h
  · exact strs_sizes h1 s h
  · exact strs_sizes h2 s h
theorem texts2 (w : World) (ba na : Option Addr) (bs ns : List ByteArray) (bl nl bc nc q : Nat) (hq : q = w.heap.size) (hbl : bl = bs.length) (hnl : nl = ns.length) (h1 : Strs w w.heap.size ba bs) (h2 : Strs w w.heap.size na ns) (hb : bl ≤ 40) (hn : nl ≤ 6) :
    Calls Try.prog 21 #[.slice (some ⟨q, 0, none⟩) 2 2] (w.alloc (.cells #[.slice ba bl bc, .slice na nl nc] 25)) fun e w' => ∃ a cap, e = .returned (.slice a (bl + nl) cap) ∧ bl + nl ≤ cap ∧ Strs w' w'.heap.size a (bs ++ ns) ∧ Below (w.heap.size + 1) (w.alloc (.cells #[.slice ba bl bc, .slice na nl nc] 25)) w' := by
  subst hq
  refine (texts_str _ (w.heap.size + 1) _ 2 2 [⟨ba, bc, bs⟩, ⟨na, nc, ns⟩] (rss2 w ba na bs ns bl nl bc nc hbl hnl h1 h2) (by simp) rfl (by rw [flat2]; simp; omega) (by omega)).mono ?_
  rintro e w' ⟨v, rfl, hv, hb'⟩
  rw [flat2] at hv
  obtain ⟨a, cap, rfl, hc⟩ := hv.slice
  refine ⟨a, cap, by rw [List.length_append, hbl, hnl], by rw [hbl, hnl, ← List.length_append]; exact hc, hv.strs ?_, hb'.mono (by simp)⟩
  intro s hs
  rcases List.mem_append.1 hs with h | h
  · exact strs_sizes h1 s h
  · exact strs_sizes h2 s h
end Go.Proofs.Yteblglkmkakcjaa

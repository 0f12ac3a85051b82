/- A list of data that is being gathered. -/
import Derived.Test.YtfhiolnoalghmaaDoorQuoted
import Derived.Deep.AppendLies
namespace Go.Proofs.YtfhiolnoalghmaaDoor
open Go.RowKit
/-- The blocks that the items' own rows lie in. -/
def Own (w : World) (B : Nat) (v : Value) (b : Nat) : Prop := B ≤ b ∧ b < w.heap.size ∧ ¬ v.ownBlock = some b
/-- v holds the data acc, in memory of one's own from block B on. -/
def Lst (w : World) (B : Nat) (ty : TypeId) (d : Nat) (v : Value) (acc : List (DataW Unit)) : Prop :=
  ∃ cells, w.ownsRow B ty 4 v acc.length cells ∧ ∀ i t, acc[i]? = some t → ∃ u0 u1 u2 u3, cells[i * 4]? = some u0 ∧ cells[i * 4 + 1]? = some u1 ∧ cells[i * 4 + 2]? = some u2 ∧ cells[i * 4 + 3]? = some u3 ∧ Dat w (Own w B v) d t u0 u1 u2 u3
theorem Lst.nil (w : World) (B : Nat) (ty : TypeId) (d : Nat) : Lst w B ty d (.slice none 0 0) [] :=
  ⟨[], ⟨rfl, Or.inl ⟨rfl, rfl⟩⟩, fun i t h => by simp at h⟩
theorem ownsRow_keep {w w' : World} {B : Nat} {ty : TypeId} {v : Value} {n : Nat} {cells : List Value} (h : w.ownsRow B ty 4 v n cells) (hk : ∀ b, B ≤ b → b < w.heap.size → w'.heap[b]? = w.heap[b]?) : w'.ownsRow B ty 4 v n cells := by
  refine ⟨h.1, ?_⟩
  rcases h.2 with h | ⟨g, cap, cur, hv, hb, hg, hr⟩
  · exact Or.inl h
  · have hlt : g < w.heap.size := by
      rcases Nat.lt_or_ge g w.heap.size with h' | h'
      · exact h'
      · rw [Array.getElem?_eq_none h'] at hg; cases hg
    exact Or.inr ⟨g, cap, cur, hv, hb, by rw [hk g hb hlt]; exact hg, hr⟩
theorem Lst.keep {w w' : World} {B : Nat} {ty : TypeId} {d : Nat} {v : Value} {acc : List (DataW Unit)} (h : Lst w B ty d v acc) (hz : w.heap.size ≤ w'.heap.size) (hk : ∀ b, B ≤ b → b < w.heap.size → w'.heap[b]? = w.heap[b]?) : Lst w' B ty d v acc := by
  obtain ⟨cells, ho, hi⟩ := h
  refine ⟨cells, ownsRow_keep ho hk, fun i t ht => ?_⟩
  obtain ⟨u0, u1, u2, u3, e0, e1, e2, e3, hD⟩ := hi i t ht
  exact ⟨u0, u1, u2, u3, e0, e1, e2, e3, Dat.keep (fun b hb => ⟨hk b hb.1 hb.2.1, hb.1, by have := hb.2.1; omega, hb.2.2⟩) d hD⟩
theorem Lst.past {rb : Nat} {w w' : World} {B : Nat} {ty : TypeId} {d : Nat} {v : Value} {acc : List (DataW Unit)} (h : Lst w B ty d v acc) (hp : Past rb w w') (hr : rb < B) : Lst w' B ty d v acc :=
  h.keep hp.size (fun b h1 h2 => hp.block b h2 (by omega))
theorem Lst.own_lt {w : World} {B : Nat} {ty : TypeId} {d : Nat} {v : Value} {acc : List (DataW Unit)} (h : Lst w B ty d v acc) {g : Nat} (hg : v.ownBlock = some g) : B ≤ g ∧ g < w.heap.size := by
  obtain ⟨cells, ho, _⟩ := h
  rcases ho.2 with ⟨rfl, _⟩ | ⟨g', cap, cur, rfl, hb, hc, _⟩
  · simp [Value.ownBlock] at hg
  · simp [Value.ownBlock] at hg
    subst hg
    refine ⟨hb, ?_⟩
    rcases Nat.lt_or_ge g' w.heap.size with h' | h'
    · exact h'
    · rw [Array.getElem?_eq_none h'] at hc; cases hc
theorem Lst.shape {w : World} {B : Nat} {ty : TypeId} {d : Nat} {v : Value} {acc : List (DataW Unit)} (h : Lst w B ty d v acc) : ∃ a cap, v = .slice a acc.length cap ∧ acc.length ≤ cap ∧ RowD w (fun b => B ≤ b ∧ b < w.heap.size) (Dat w (fun b => B ≤ b ∧ b < w.heap.size) d) acc a acc.length := by
  obtain ⟨cells, ho, hi⟩ := h
  rcases ho.2 with ⟨rfl, h0⟩ | ⟨g, cap, cur, rfl, hb, hc, hn, _, hcs, hcut⟩
  · have : acc = [] := List.length_eq_zero_iff.1 h0
    subst this
    exact ⟨none, 0, rfl, Nat.le_refl _, rfl, fun i t ht => by simp at ht⟩
  · refine ⟨_, cap, rfl, hn, rfl, fun i t ht => ?_⟩
    obtain ⟨u0, u1, u2, u3, e0, e1, e2, e3, hD⟩ := hi i t ht
    have hlt : i < acc.length := by
      rcases Nat.lt_or_ge i acc.length with h' | h'
      · exact h'
      · rw [List.getElem?_eq_none h'] at ht; cases ht
    have hg : g < w.heap.size := by
      rcases Nat.lt_or_ge g w.heap.size with h' | h'
      · exact h'
      · rw [Array.getElem?_eq_none h'] at hc; cases hc
    have hat : ∀ j u, j < acc.length * 4 → cells[j]? = some u → w.cell? ⟨g, j, none⟩ = some u := fun j u hj hu => by
      rw [cell_of_row w g j cur ty (0, 0) hc, ← hu, ← hcut, List.getElem?_take_of_lt hj]
      simp
    exact ⟨g, 0, u0, u1, u2, u3, rfl, ⟨hb, hg⟩, by rw [Nat.zero_add]; exact hat _ _ (by omega) e0, by rw [Nat.zero_add]; exact hat _ _ (by omega) e1, by rw [Nat.zero_add]; exact hat _ _ (by omega) e2, by rw [Nat.zero_add]; exact hat _ _ (by omega) e3,
      Dat.keep (fun b hb => ⟨rfl, hb.1, hb.2.1⟩) d hD⟩
theorem Lst.append {w w' : World} {B N : Nat} {ty : TypeId} {d : Nat} {v : Value} {acc : List (DataW Unit)} {cells : List Value} {t : DataW Unit} {u0 u1 u2 u3 : Value} {g cap H : Nat}
    (hi : ∀ i t, acc[i]? = some t → ∃ u0 u1 u2 u3, cells[i * 4]? = some u0 ∧ cells[i * 4 + 1]? = some u1 ∧ cells[i * 4 + 2]? = some u2 ∧ cells[i * 4 + 3]? = some u3 ∧ Dat w (Own w B v) d t u0 u1 u2 u3)
    (hlen : cells.length = acc.length * 4) (hD : Dat w (fun b => N ≤ b ∧ b < w.heap.size) d t u0 u1 u2 u3) (hN : B ≤ N) (hv : ∀ k, v.ownBlock = some k → k < N)
    (ho : w'.ownsRow B ty 4 (.slice (some ⟨g, 0, none⟩) (acc.length + 1) cap) (acc.length + 1) (cells ++ [u0, u1, u2, u3])) (hg : w.grownBy w' v.ownBlock) (hat : v.ownBlock = some g ∨ g = H) (hH : w.heap.size = H) :
    Lst w' B ty d (.slice (some ⟨g, 0, none⟩) (acc.length + 1) cap) (acc ++ [t]) := by
  have hsz := hg.size
  refine ⟨_, by rw [List.length_append]; exact ho, fun i t' ht => ?_⟩
  have hk : ∀ b, b < w.heap.size → ¬ v.ownBlock = some b → w'.heap[b]? = w.heap[b]? := fun b h1 h2 => hg.block b h1 (fun e => h2 e.symm)
  by_cases hlt : i < acc.length
  · rw [List.getElem?_append_left hlt] at ht
    obtain ⟨y0, y1, y2, y3, e0, e1, e2, e3, hD'⟩ := hi i t' ht
    refine ⟨y0, y1, y2, y3, by rw [List.getElem?_append_left (by omega)]; exact e0, by rw [List.getElem?_append_left (by omega)]; exact e1, by rw [List.getElem?_append_left (by omega)]; exact e2, by rw [List.getElem?_append_left (by omega)]; exact e3, ?_⟩
    refine Dat.keep (fun b hb => ⟨hk b hb.2.1 hb.2.2, hb.1, by have := hb.2.1; omega, ?_⟩) d hD'
    simp only [Value.ownBlock]
    intro e
    injection e with e
    rcases hat with h | h
    · exact hb.2.2 (by rw [h, e])
    · have := hb.2.1; omega
  · have hil : i = acc.length := by
      rcases Nat.lt_or_ge i (acc.length + 1) with h' | h'
      · omega
      · rw [List.getElem?_eq_none (by simp; omega)] at ht; cases ht
    subst hil
    simp at ht
    subst ht
    refine ⟨u0, u1, u2, u3, by rw [List.getElem?_append_right (by omega), hlen]; simp, by rw [List.getElem?_append_right (by omega), hlen, show acc.length * 4 + 1 - acc.length * 4 = 1 from by omega]; rfl,
      by rw [List.getElem?_append_right (by omega), hlen, show acc.length * 4 + 2 - acc.length * 4 = 2 from by omega]; rfl, by rw [List.getElem?_append_right (by omega), hlen, show acc.length * 4 + 3 - acc.length * 4 = 3 from by omega]; rfl, ?_⟩
    refine Dat.keep (fun b hb => ⟨hk b hb.2 (fun e => by have := hv b e; omega), by omega, by have := hb.2; omega, ?_⟩) d hD
    simp only [Value.ownBlock]
    intro e
    injection e with e
    rcases hat with h | h
    · have := hv _ h; omega
    · have := hb.2; omega
end Go.Proofs.YtfhiolnoalghmaaDoor

/- Records that are being gathered in memory of one's own. -/
import Derived.Test.YtgdeomdnpgedbabUFind
import Derived.Deep.AppendLies
import Derived.Lib.SmallJoins
namespace Go.Proofs.Ytgdeomdnpgedbab
open Go.RowKit Go.WideMaps Go.Maps
/-- All that was there is as it was, but for block rb. -/
structure Past (rb : Nat) (w w' : World) : Prop where
  os : w'.os = w.os
  tape : w'.tape = w.tape
  output : w'.output = w.output
  size : w.heap.size ≤ w'.heap.size
  block : ∀ k, k < w.heap.size → ¬ k = rb → w'.heap[k]? = w.heap[k]?
theorem Past.refl (rb : Nat) (w : World) : Past rb w w := ⟨rfl, rfl, rfl, Nat.le_refl _, fun _ _ _ => rfl⟩
theorem Past.trans {rb : Nat} {a b c : World} (h : Past rb a b) (k : Past rb b c) : Past rb a c :=
  ⟨k.os.trans h.os, k.tape.trans h.tape, k.output.trans h.output, Nat.le_trans h.size k.size, fun i hi hn => (k.block i (Nat.lt_of_lt_of_le hi h.size) hn).trans (h.block i hi hn)⟩
theorem Past.of_below {rb B : Nat} {w w' : World} (h : Below B w w') (hB : w.heap.size ≤ B) : Past rb w w' := ⟨h.os, h.tape, h.output, h.size, fun k hk _ => h.block k (by omega)⟩
theorem Past.step {rb B : Nat} {w0 w w' : World} (h : Past rb w0 w) (hb : Below B w w') (hB : w0.heap.size ≤ B) : Past rb w0 w' :=
  ⟨hb.os.trans h.os, hb.tape.trans h.tape, hb.output.trans h.output, Nat.le_trans h.size hb.size, fun k hk hn => (hb.block k (by omega)).trans (h.block k hk hn)⟩
theorem Past.grown {rb : Nat} {w0 w w' : World} {row : Option Nat} (h : Past rb w0 w) (hg : w.grownBy w' row) (hr : ∀ k, row = some k → k = rb ∨ w0.heap.size ≤ k) : Past rb w0 w' := by
  obtain ⟨g1, g2, g3, g4, g5⟩ := hg
  refine ⟨g1.trans h.os, g2.trans h.tape, g3.trans h.output, Nat.le_trans h.size g4, fun k hk hn => ?_⟩
  refine (g5 k (Nat.lt_of_lt_of_le hk h.size) (fun e => ?_)).trans (h.block k hk hn)
  rcases hr k e.symm with h' | h'
  · exact hn h'
  · omega
theorem Past.cell {rb : Nat} {w w' : World} (h : Past rb w w') {p : Addr} (hp : p.block < w.heap.size) (hn : ¬ p.block = rb) : w'.cell? p = w.cell? p := World.cell?_of_block (w := w) (h.block p.block hp hn)
theorem Past.below {rb B : Nat} {w w' : World} (h : Past rb w w') (hr : B ≤ rb) (hB : B ≤ w.heap.size) : Below B w w' := ⟨h.os, h.tape, h.output, h.size, fun k hk => h.block k (by omega) (by omega)⟩
/-- Texts in a row, in blocks of S. -/
def StrsS (w : World) (S : Nat → Prop) (a : Option Addr) (ss : List ByteArray) : Prop :=
  ∀ i (h : i < ss.length), ss[i].size ≤ maxLen ∧ ∃ b o, a = some ⟨b, o, none⟩ ∧ S b ∧ w.cell? ⟨b, o + i, none⟩ = some (.string ss[i])
theorem StrsS.keep {w w' : World} {S S' : Nat → Prop} {a : Option Addr} {ss : List ByteArray} (h : StrsS w S a ss) (hk : ∀ b, S b → w'.heap[b]? = w.heap[b]? ∧ S' b) : StrsS w' S' a ss := by
  intro i hi
  obtain ⟨h1, b, o, h2, h3, h4⟩ := h i hi
  exact ⟨h1, b, o, h2, (hk b h3).2, (World.cell?_of_block (w := w) (a := ⟨b, o + i, none⟩) (hk b h3).1).trans h4⟩
/-- The blocks that the records' own rows lie in. -/
def Own (w : World) (B : Nat) (v : Value) (b : Nat) : Prop := B ≤ b ∧ b < w.heap.size ∧ ¬ v.ownBlock = some b
/-- A record's bounds. -/
def Sh.ok (s : Sh) : Prop := s.name.size ≤ maxLen ∧ s.fs.length ≤ s.cap ∧ s.fs.length ≤ maxLen
/-- v holds the records l, in memory of one's own from block B on. -/
def ShL (w : World) (B : Nat) (v : Value) (l : List Sh) : Prop :=
  ∃ cells, w.ownsRow B 24 2 v l.length cells ∧ ∀ i (h : i < l.length), cells[i * 2]? = some (.string l[i].name) ∧ cells[i * 2 + 1]? = some (.slice l[i].adr l[i].fs.length l[i].cap) ∧ l[i].ok ∧ StrsS w (Own w B v) l[i].adr l[i].fs
theorem ShL.nil (w : World) (B : Nat) : ShL w B (.slice none 0 0) [] := ⟨[], ⟨rfl, Or.inl ⟨rfl, rfl⟩⟩, fun i h => absurd h (by simp)⟩
theorem ownsRow_keep {w w' : World} {B k : Nat} {ty : TypeId} {v : Value} {n : Nat} {cells : List Value} (h : w.ownsRow B ty k v n cells) (hk : ∀ b, v.ownBlock = some b → w'.heap[b]? = w.heap[b]?) : w'.ownsRow B ty k v n cells := by
  refine ⟨h.1, ?_⟩
  rcases h.2 with h | ⟨g, cap, cur, hv, hb, hg, hr⟩
  · exact Or.inl h
  · exact Or.inr ⟨g, cap, cur, hv, hb, by rw [hk g (by rw [hv]; rfl)]; exact hg, hr⟩
theorem ownsRow_lt {w : World} {B k : Nat} {ty : TypeId} {v : Value} {n : Nat} {cells : List Value} (h : w.ownsRow B ty k v n cells) {g : Nat} (hg : v.ownBlock = some g) : B ≤ g ∧ g < w.heap.size := by
  rcases h.2 with ⟨rfl, _⟩ | ⟨g', cap, cur, rfl, hb, hc, _⟩
  · simp [Value.ownBlock] at hg
  · simp [Value.ownBlock] at hg
    subst hg
    refine ⟨hb, ?_⟩
    rcases Nat.lt_or_ge g' w.heap.size with h' | h'
    · exact h'
    · rw [Array.getElem?_eq_none h'] at hc; cases hc
theorem ShL.own_lt {w : World} {B : Nat} {v : Value} {l : List Sh} (h : ShL w B v l) {g : Nat} (hg : v.ownBlock = some g) : B ≤ g ∧ g < w.heap.size := by
  obtain ⟨cells, ho, _⟩ := h
  exact ownsRow_lt ho hg
/-- What lies from block B on stays. -/
theorem ShL.keep {w w' : World} {B : Nat} {v : Value} {l : List Sh} (h : ShL w B v l) (hz : w.heap.size ≤ w'.heap.size) (hk : ∀ b, B ≤ b → b < w.heap.size → w'.heap[b]? = w.heap[b]?) : ShL w' B v l := by
  have hlt := fun g hg => h.own_lt (g := g) hg
  obtain ⟨cells, ho, hi⟩ := h
  refine ⟨cells, ownsRow_keep ho (fun b hb => hk b (hlt b hb).1 (hlt b hb).2), fun i hi2 => ?_⟩
  obtain ⟨e0, e1, e2, e3⟩ := hi i hi2
  exact ⟨e0, e1, e2, e3.keep (fun b hb => ⟨hk b hb.1 hb.2.1, hb.1, by have := hb.2.1; omega, hb.2.2⟩)⟩
theorem ShL.past {rb : Nat} {w w' : World} {B : Nat} {v : Value} {l : List Sh} (h : ShL w B v l) (hp : Past rb w w') (hr : rb < B) : ShL w' B v l :=
  h.keep hp.size (fun b h1 h2 => hp.block b h2 (by omega))
theorem cell_of_row (w : World) (g j : Nat) (cur : Array Value) (ty : TypeId) (fr : Nat × Nat) (h : w.heap[g]? = some (.cells cur ty fr)) : w.cell? ⟨g, j, none⟩ = cur[j]? := by simp [World.cell?, h]
/-- As records in a row. -/
theorem ShL.shs {w : World} {B : Nat} {v : Value} {l : List Sh} (h : ShL w B v l) : ∃ a cap, v = .slice a l.length cap ∧ l.length ≤ cap ∧ l.length ≤ maxLen ∧ Shs w w.heap.size a l := by
  obtain ⟨cells, ho, hi⟩ := h
  rcases ho.2 with ⟨rfl, h0⟩ | ⟨g, cap, cur, rfl, hb, hc, hn, hm, hcs, hcut⟩
  · have : l = [] := List.length_eq_zero_iff.1 h0
    subst this
    exact ⟨none, 0, rfl, Nat.le_refl _, Nat.zero_le _, fun i h => absurd h (by simp)⟩
  · refine ⟨_, cap, rfl, hn, by omega, fun i hlt => ?_⟩
    obtain ⟨e0, e1, e2, e3⟩ := hi i hlt
    have hg : g < w.heap.size := by
      rcases Nat.lt_or_ge g w.heap.size with h' | h'
      · exact h'
      · rw [Array.getElem?_eq_none h'] at hc; cases hc
    have hat : ∀ j u, j < l.length * 2 → cells[j]? = some u → w.cell? ⟨g, j, none⟩ = some u := fun j u hj hu => by
      rw [cell_of_row w g j cur _ (0, 0) hc, ← hu, ← hcut, List.getElem?_take_of_lt hj]
      simp
    exact ⟨g, 0, rfl, hg, by rw [Nat.zero_add]; exact hat _ _ (by omega) e0, by rw [Nat.zero_add]; exact hat _ _ (by omega) e1, e2.1, e2.2.1, e2.2.2, e3.keep (fun b hb => ⟨rfl, hb.2.1⟩)⟩
/-- One more behind all. -/
theorem ShL.append {w w' : World} {B : Nat} {v : Value} {l : List Sh} {cells : List Value} {s : Sh} {N g cap H : Nat}
    (hi : ∀ i (h : i < l.length), cells[i * 2]? = some (.string l[i].name) ∧ cells[i * 2 + 1]? = some (.slice l[i].adr l[i].fs.length l[i].cap) ∧ l[i].ok ∧ StrsS w (Own w B v) l[i].adr l[i].fs)
    (hlen : cells.length = l.length * 2) (hok : s.ok) (hD : StrsS w (fun b => N ≤ b ∧ b < w.heap.size) s.adr s.fs) (hN : B ≤ N) (hv : ∀ k, v.ownBlock = some k → k < N)
    (ho : w'.ownsRow B 24 2 (.slice (some ⟨g, 0, none⟩) (l.length + 1) cap) (l.length + 1) (cells ++ [.string s.name, .slice s.adr s.fs.length s.cap])) (hg : w.grownBy w' v.ownBlock) (hat : v.ownBlock = some g ∨ g = H) (hH : w.heap.size = H) :
    ShL w' B (.slice (some ⟨g, 0, none⟩) (l.length + 1) cap) (l ++ [s]) := by
  have hsz := hg.size
  refine ⟨_, by rw [List.length_append]; exact ho, fun i h => ?_⟩
  have hk : ∀ b, b < w.heap.size → ¬ v.ownBlock = some b → w'.heap[b]? = w.heap[b]? := fun b h1 h2 => hg.block b h1 (fun e => h2 e.symm)
  by_cases hlt : i < l.length
  · rw [List.getElem_append_left hlt]
    obtain ⟨e0, e1, e2, e3⟩ := hi i hlt
    refine ⟨by rw [List.getElem?_append_left (by omega)]; exact e0, by rw [List.getElem?_append_left (by omega)]; exact e1, e2, e3.keep (fun b hb => ⟨hk b hb.2.1 hb.2.2, hb.1, by have := hb.2.1; omega, ?_⟩)⟩
    simp only [Value.ownBlock]
    intro e
    injection e with e
    rcases hat with h | h
    · exact hb.2.2 (by rw [h, e])
    · have := hb.2.1; omega
  · have hil : i = l.length := by simp at h; omega
    subst hil
    rw [List.getElem_append_right (Nat.le_refl _)]
    simp only [Nat.sub_self, List.getElem_cons_zero]
    refine ⟨by rw [List.getElem?_append_right (by omega), hlen]; simp, by rw [List.getElem?_append_right (by omega), hlen, show l.length * 2 + 1 - l.length * 2 = 1 from by omega]; rfl, hok, hD.keep (fun b hb => ⟨hk b hb.2 (fun e => by have := hv b e; omega), by omega, by have := hb.2; omega, ?_⟩)⟩
    simp only [Value.ownBlock]
    intro e
    injection e with e
    rcases hat with h | h
    · have := hv _ h; omega
    · have := hb.2; omega
/-- One takes another's place. -/
theorem ShL.set {w : World} {B : Nat} {v : Value} {l : List Sh} {s : Sh} {N k g len cap : Nat} (h : ShL w B v l) (hv : v = .slice (some ⟨g, 0, none⟩) len cap) (hk : k < l.length) (hok : s.ok) (hD : StrsS w (fun b => N ≤ b ∧ b < w.heap.size) s.adr s.fs) (_hN : B ≤ N) (hgN : g < N) :
    ShL ((w.setCell ⟨g, k * 2, none⟩ (.string s.name)).setCell ⟨g, k * 2 + 1, none⟩ (.slice s.adr s.fs.length s.cap)) B v (l.set k s) := by
  obtain ⟨cells, ho, hi⟩ := h
  have hoth : ∀ b, ¬ b = g → ((w.setCell ⟨g, k * 2, none⟩ (.string s.name)).setCell ⟨g, k * 2 + 1, none⟩ (.slice s.adr s.fs.length s.cap)).heap[b]? = w.heap[b]? := fun b hb => by
    rw [Below.heap_setCell _ _ _ _ hb, Below.heap_setCell _ _ _ _ hb]
  have hsz : ((w.setCell ⟨g, k * 2, none⟩ (.string s.name)).setCell ⟨g, k * 2 + 1, none⟩ (.slice s.adr s.fs.length s.cap)).heap.size = w.heap.size := by simp
  have hvo : v.ownBlock = some g := by rw [hv]; rfl
  rcases ho.2 with ⟨hv', _⟩ | ⟨g', cap', cur, hv', hb, hc, hn, hm, hcs, hcut⟩
  · rw [hv] at hv'; cases hv'
  · have hg' : g' = g := by rw [hv] at hv'; injection hv' with e; injection e with e; injection e with e; exact e.symm
    subst hg'
    have hlen := ho.1
    refine ⟨(cells.set (k * 2) (.string s.name)).set (k * 2 + 1) (.slice s.adr s.fs.length s.cap), ⟨by simpa using hlen, Or.inr ⟨g', cap', _, by rw [List.length_set]; exact hv', hb, Joins.block_setCell (Joins.block_setCell hc _) _, by rw [List.length_set]; exact hn, hm, by simpa using hcs, ?_⟩⟩, fun i hi2 => ?_⟩
    · rw [List.length_set, ← hcut]
      simp [List.take_set]
    · rw [List.length_set] at hi2
      obtain ⟨e0, e1, e2, e3⟩ := hi i hi2
      by_cases hik : i = k
      · subst hik
        rw [List.getElem_set_self]
        refine ⟨by rw [List.getElem?_set_ne (by omega), List.getElem?_set_self (by omega)], by rw [List.getElem?_set_self (by simp; omega)], hok, hD.keep (fun b hb => ⟨hoth b (by omega), by omega, by rw [hsz]; exact hb.2, ?_⟩)⟩
        rw [hvo]; intro e; injection e with e; omega
      · rw [List.getElem_set_ne (Ne.symm hik)]
        refine ⟨by rw [List.getElem?_set_ne (by omega), List.getElem?_set_ne (by omega)]; exact e0, by rw [List.getElem?_set_ne (by omega), List.getElem?_set_ne (by omega)]; exact e1, e2, e3.keep (fun b hb => ⟨hoth b (fun e => hb.2.2 (by rw [hvo, e])), hb.1, by rw [hsz]; exact hb.2.1, hb.2.2⟩)⟩
end Go.Proofs.Ytgdeomdnpgedbab

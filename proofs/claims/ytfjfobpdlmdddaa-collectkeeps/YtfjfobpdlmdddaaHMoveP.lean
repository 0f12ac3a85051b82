/- What a record leaves behind, plainly; words that are written in place. -/
import Derived.Test.YtfjfobpdlmdddaaHOne
namespace Go.Proofs.Ytfjfobpdlmdddaa
set_option maxRecDepth 100000
open Go.RowKit Go.Maps
abbrev nilW : Wd := ⟨3, 0, ⟨#[]⟩⟩
def nilN (l : List Wd) (f : Nat) : Nat → List Wd
  | 0 => l
  | k + 1 => (nilN l f k).set (f + k) nilW
theorem nilN_length (l : List Wd) (f : Nat) : ∀ k, (nilN l f k).length = l.length
  | 0 => rfl
  | k + 1 => by unfold nilN; rw [List.length_set, nilN_length l f k]
def headL (l : List Wd) (h : Nat) (b : Int) : List Wd := (l.set h ⟨10, b, ⟨#[]⟩⟩).set (h + 1) ⟨1, 0, ⟨#[]⟩⟩
/-- Words with a thing that was left for another one. -/
def leaveL (l : List Wd) (h f e : Nat) (b : Int) : List Wd := nilN (headL l h b) f (e - f)
theorem headL_length (l : List Wd) (h : Nat) (b : Int) : (headL l h b).length = l.length := by simp [headL]
theorem leaveL_length (l : List Wd) (h f e : Nat) (b : Int) : (leaveL l h f e b).length = l.length := by unfold leaveL; rw [nilN_length, headL_length]
theorem wfL_set {l : List Wd} {i : Nat} {x : Wd} (h : wfL l) (hx : wfI x.n ∧ x.s.size ≤ 9223372036854775807) : wfL (l.set i x) := by
  intro j hj
  by_cases e : i = j
  · subst e; rw [List.getElem_set_self]; exact hx
  · rw [List.getElem_set_ne e]; exact h j (by simpa using hj)
theorem wfL_nil {l : List Wd} (f : Nat) (h : wfL l) : ∀ k, wfL (nilN l f k)
  | 0 => h
  | k + 1 => wfL_set (wfL_nil f h k) ⟨by decide, by decide⟩
theorem wfL_leave {l : List Wd} {h f e : Nat} {b : Int} (hl : wfL l) (hb : wfI b) : wfL (leaveL l h f e b) :=
  wfL_nil f (wfL_set (wfL_set hl ⟨hb, Nat.zero_le _⟩) ⟨by decide, by decide⟩) _
/-- Only one block has turned. -/
structure Wr (w w' : World) (bb : Nat) : Prop where
  bel : Below bb w w'
  oth : ∀ k, k < w.heap.size → ¬ k = bb → w'.heap[k]? = w.heap[k]?
theorem Wr.trans {a b c : World} {bb : Nat} (h : Wr a b bb) (k : Wr b c bb) : Wr a c bb :=
  ⟨h.bel.trans k.bel, fun i hi hn => (k.oth i (Nat.lt_of_lt_of_le hi h.bel.size) hn).trans (h.oth i hi hn)⟩
theorem Wr.of {w w' : World} {bb : Nat} (hb : Below w.heap.size w w') (h : bb ≤ w.heap.size) : Wr w w' bb := ⟨hb.mono h, fun k hk _ => hb.block k hk⟩
theorem Wr.cell {w w' : World} {bb g c : Nat} (h : Wr w w' bb) (hg : g < w.heap.size) (hn : ¬ g = bb) : w'.cell? ⟨g, c, none⟩ = w.cell? ⟨g, c, none⟩ := World.cell?_of_block (w := w) (h.oth g hg hn)
structure Wn (w W : World) (bb o : Nat) (l : List Wd) : Prop where
  wds : Wds W W.heap.size (some ⟨bb, o, none⟩) l
  free : Free W (some ⟨bb, o, none⟩) l
  wr : Wr w W bb
theorem Wn.put {w w' : World} {bb o : Nat} {l : List Wd} (h : Wn w w' bb o l) {q : Nat} (hq : q < l.length) (x : Wd) (W : World) (hW : W = set3 w' bb (o + q * 3) (.int .i64 x.k) (.int .i64 x.n) (.string x.s)) :
    Wn w W bb o (l.set q x) ∧ W.heap.size = w'.heap.size ∧ (∀ g c, ¬ g = bb → W.cell? ⟨g, c, none⟩ = w'.cell? ⟨g, c, none⟩) := by
  subst hW
  have hsz : (set3 w' bb (o + q * 3) (.int .i64 x.k) (.int .i64 x.n) (.string x.s)).heap.size = w'.heap.size := by simp
  have hoth : ∀ g, ¬ g = bb → (set3 w' bb (o + q * 3) (.int .i64 x.k) (.int .i64 x.n) (.string x.s)).heap[g]? = w'.heap[g]? := fun g hg => by
    rw [Below.heap_setCell _ _ _ _ (by dsimp only; omega), Below.heap_setCell _ _ _ _ (by dsimp only; omega), Below.heap_setCell _ _ _ _ (by dsimp only; omega)]
  refine ⟨⟨?_, ?_, ?_⟩, hsz, fun g c hg => World.cell?_of_block (w := w') (hoth g hg)⟩
  · rw [hsz]; exact h.wds.put hq x
  · intro A hA j hj
    rw [List.length_set] at hj
    simpa using h.free A hA j hj
  · exact ⟨((h.wr.bel.setCell (p := ⟨bb, _, none⟩) (Nat.le_refl _) _).setCell (p := ⟨bb, _, none⟩) (Nat.le_refl _) _).setCell (p := ⟨bb, _, none⟩) (Nat.le_refl _) _, fun k hk hn => (hoth k hn).trans (h.wr.oth k hk hn)⟩
theorem Wn.at {w W : World} {bb o : Nat} {l : List Wd} (h : Wn w W bb o l) {q : Nat} (hq : q < l.length) :
    (∃ u0 u1 u2, W.cell? ⟨bb, o + q * 3, none⟩ = some (.int .i64 u0) ∧ W.cell? ⟨bb, o + q * 3 + 1, none⟩ = some (.int .i64 u1) ∧ W.cell? ⟨bb, o + q * 3 + 2, none⟩ = some (.string u2)) ∧
    W.frozen? ⟨bb, o + q * 3, none⟩ = false ∧ W.frozen? ⟨bb, o + q * 3 + 1, none⟩ = false ∧ W.frozen? ⟨bb, o + q * 3 + 2, none⟩ = false := by
  obtain ⟨b', o', e, _, c0, c1, c2⟩ := h.wds q hq
  injection e with e; injection e with e1 e2; subst e1 e2
  exact ⟨⟨_, _, _, c0, c1, c2⟩, h.free _ rfl (q * 3) (by omega), h.free _ rfl (q * 3 + 1) (by omega), h.free _ rfl (q * 3 + 2) (by omega)⟩
end Go.Proofs.Ytfjfobpdlmdddaa

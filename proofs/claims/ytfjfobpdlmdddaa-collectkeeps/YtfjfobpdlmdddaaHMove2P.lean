/- Boxes of a call, records, plainly. -/
import Derived.Test.YtfjfobpdlmdddaaHMoveP
namespace Go.Proofs.Ytfjfobpdlmdddaa
set_option maxRecDepth 100000
open Go.RowKit Go.Maps
/-- Two boxes in a row: a heap, and one that is filled in the end. -/
structure HpB (W : World) (g : Nat) (x0 x1 r0 r1 : Value) : Prop where
  x0 : W.cell? ⟨g, 0, none⟩ = some x0
  x1 : W.cell? ⟨g, 1, none⟩ = some x1
  r0 : W.cell? ⟨g + 1, 0, none⟩ = some r0
  r1 : W.cell? ⟨g + 1, 1, none⟩ = some r1
  f0 : W.frozen? ⟨g + 1, 0, none⟩ = false
  f1 : W.frozen? ⟨g + 1, 1, none⟩ = false
theorem HpB.below {W W' : World} {g N : Nat} {x0 x1 r0 r1 : Value} (h : HpB W g x0 x1 r0 r1) (hb : Below N W W') (hN : g + 2 ≤ N) : HpB W' g x0 x1 r0 r1 := by
  have c : ∀ b o, b < g + 2 → W'.cell? ⟨b, o, none⟩ = W.cell? ⟨b, o, none⟩ := fun b o hb' => hb.cell (p := ⟨b, o, none⟩) (by dsimp only; omega)
  have f : ∀ b o, b < g + 2 → W'.frozen? ⟨b, o, none⟩ = W.frozen? ⟨b, o, none⟩ := fun b o hb' => hb.frozen (p := ⟨b, o, none⟩) (by dsimp only; omega)
  exact ⟨(c _ _ (by omega)).trans h.x0, (c _ _ (by omega)).trans h.x1, (c _ _ (by omega)).trans h.r0, (c _ _ (by omega)).trans h.r1, (f _ _ (by omega)).trans h.f0, (f _ _ (by omega)).trans h.f1⟩
theorem hpB_born (w : World) (x0 x1 r0 r1 : Value) (a1 a2 : TypeId) (W : World) (hW : W = (w.alloc (.cells #[x0, x1] a1)).alloc (.cells #[r0, r1] a2)) :
    HpB W w.heap.size x0 x1 r0 r1 ∧ W.heap.size = w.heap.size + 2 ∧ Below w.heap.size w W := by
  subst hW
  refine ⟨⟨?_, ?_, ?_, ?_, ?_, ?_⟩, by simp, below_2 _ _ _⟩ <;> go_simp
/-- What Move tells. -/
def MvdI (lim : Int) (l : List Wd) (a b : Int) (l' : List Wd) (lim' r : Int) : Prop :=
  (∃ acc ms, OkC lim l acc ms ∧
    ((¬ (recB l (plOf acc) a = true ∧ recB l (plOf acc) b = true ∧ ¬ a = b) ∧ l' = [] ∧ lim' = 0 ∧ r = 3) ∨
     ((recB l (plOf acc) a = true ∧ recB l (plOf acc) b = true ∧ ¬ a = b) ∧ ∃ h f e : Nat, a = h ∧ h < l.length ∧ h + 1 < f ∧ tRef l h = some (f, e) ∧
       ((BadC lim (leaveL l h f e b) ∧ l' = [] ∧ lim' = 0 ∧ r = 4) ∨ ((∃ acc2 ms2, OkC lim (leaveL l h f e b) acc2 ms2) ∧ l' = leaveL l h f e b ∧ lim' = lim ∧ r = 0))))) ∨
  (BadC lim l ∧ l' = [] ∧ lim' = 0 ∧ r = 9)
theorem rec_front {l : List Wd} {h f e : Nat} (hl : h < l.length) (hk : kindAt l h = 9) (ht : tRef l h = some (f, e)) : f = h + 3 := by
  rw [kindAt_nat hl] at hk
  rw [tRef_at hl] at ht
  simp only [hk] at ht
  split at ht
  · simp at ht
    have := fitT_le ht.2
    omega
  · cases ht
theorem Chain.mem_tAt {l : List Wd} {acc : List Th} {a : Nat} (h : Chain l acc a) : ∀ i (hi : i < acc.length), acc[i].h < l.length ∧ tRef l acc[i].h = some (acc[i].f, acc[i].e) := fun _ hi => h.ref.mem _ (List.getElem_mem hi)
theorem bx_one {w w' : World} {u0 u1 : Value} {t : TypeId} (hb : Below (w.alloc (.cells #[u0, u1] t)).drew.heap.size (w.alloc (.cells #[u0, u1] t)).drew w') :
    (w'.cell? ⟨w.heap.size, 0, none⟩ = some u0 ∧ w'.cell? ⟨w.heap.size, 1, none⟩ = some u1) ∧ (w'.frozen? ⟨w.heap.size, 0, none⟩ = false ∧ w'.frozen? ⟨w.heap.size, 1, none⟩ = false) ∧ w.heap.size < w'.heap.size :=
  box2_kept w.heap.size rfl (undrew hb)
end Go.Proofs.Ytfjfobpdlmdddaa

/- A step of a copy, element by element; what stays as it was but for one box. -/
import Derived.Test.YtecjnlekckmhfaaVSame2
import Derived.Deep.DeepCutAuto
namespace Go.Proofs.Ytecjnlekckmhfaa
open Go.RowKit
/-- All blocks below a number are as they were, but for one. -/
structure Fr (g L : Nat) (w wr : World) : Prop where
  os : wr.os = w.os
  tape : wr.tape = w.tape
  output : wr.output = w.output
  size : w.heap.size ≤ wr.heap.size
  blk : ∀ b, b < L → ¬ b = g → wr.heap[b]? = w.heap[b]?
theorem Fr.refl (g L : Nat) (w : World) : Fr g L w w := ⟨rfl, rfl, rfl, Nat.le_refl _, fun _ _ _ => rfl⟩
theorem Fr.trans {g L : Nat} {a b c : World} (h : Fr g L a b) (k : Fr g L b c) : Fr g L a c :=
  ⟨k.os.trans h.os, k.tape.trans h.tape, k.output.trans h.output, Nat.le_trans h.size k.size, fun i hi hn => (k.blk i hi hn).trans (h.blk i hi hn)⟩
theorem Fr.mono {g L L' : Nat} {w w' : World} (h : Fr g L w w') (hl : L' ≤ L) : Fr g L' w w' := ⟨h.os, h.tape, h.output, h.size, fun b hb hn => h.blk b (by omega) hn⟩
theorem Fr.of {g L : Nat} {w w' : World} (h : Below L w w') : Fr g L w w' := ⟨h.os, h.tape, h.output, h.size, fun b hb _ => h.block b hb⟩
theorem Fr.below {g L : Nat} {w w' : World} (h : Fr g L w w') (hg : g ≤ L) : Below g w w' := ⟨h.os, h.tape, h.output, h.size, fun b hb => h.blk b (by omega) (by omega)⟩
theorem Fr.setCell {g L : Nat} {w w' : World} (h : Fr g L w w') {b o : Nat} (hb : b = g ∨ L ≤ b) (v : Value) : Fr g L w (w'.setCell ⟨b, o, none⟩ v) := by
  have k := (Below.refl 0 w').setCell (p := ⟨b, o, none⟩) (Nat.zero_le _) v
  refine ⟨k.os.trans h.os, k.tape.trans h.tape, k.output.trans h.output, Nat.le_trans h.size k.size, fun i hi hn => ?_⟩
  rw [Below.heap_setCell _ _ _ _ (by dsimp only; omega)]
  exact h.blk i hi hn
theorem Fr.cell {g L b c : Nat} {w w' : World} (h : Fr g L w w') (hb : b < L) (hn : ¬ b = g) : w'.cell? ⟨b, c, none⟩ = w.cell? ⟨b, c, none⟩ := World.cell?_of_block (w := w) (h.blk b hb hn)
theorem FreeC.keep {w w' : World} {S : Nat → Prop} {a : Option Addr} {cs : List Value} {n : Nat} (hC : Cs w S a cs) (hn : n ≤ cs.length) (h : FreeC w a n) (hk : ∀ b, S b → w'.heap[b]? = w.heap[b]?) : FreeC w' a n := by
  intro A hA j hj
  obtain ⟨u, hu⟩ : ∃ u, cs[j]? = some u := ⟨cs[j]'(by omega), List.getElem?_eq_getElem _⟩
  obtain ⟨b, o, e, hs, _⟩ := hC j u hu
  rw [hA] at e
  injection e with e
  subst e
  exact (World.frozen?_of_block (w := w) (a := ⟨b, o + j, none⟩) (hk b hs)).trans (h _ hA j hj)
theorem Half.put {α δ : Type} {wr wq : World} {L1 L2 bb o : Nat} {c : α → List Value} {sub : World → (Nat → Prop) → α → Prop} {dat : α → δ} {l0 : List α} {k K : Nat} {ks : List α} (h : Half wr L1 L2 (some ⟨bb, o, none⟩) c sub dat l0 k ks) (hK : ∀ x, (c x).length = K)
    (hsub : ∀ {w w' : World} {S S' : Nat → Prop} {x : α}, sub w S x → (∀ b, S b → w'.heap[b]? = w.heap[b]?) → (∀ b, S b → S' b) → sub w' S' x)
    (hk : k < ks.length) (x : α) (hx : dat x = dat ks[k]) (j : Nat) (hj : j < K) (v : Value) (hc : c x = (c ks[k]).set j v) (hbel : Below wr.heap.size wr wq) (hL2 : L2 ≤ wr.heap.size) (hnew : sub wq (fun b => L2 ≤ b ∧ b < wq.heap.size) x) :
    Half (wq.setCell ⟨bb, o + (k * K + j), none⟩ v) L1 L2 (some ⟨bb, o, none⟩) c sub dat l0 (k + 1) (ks.set k x) := by
  have hS : ∀ b, L1 ≤ b ∧ b < L2 → wq.heap[b]? = wr.heap[b]? := fun b hb => hbel.block b (by omega)
  have hrow := h.row.keep (S' := fun b => L1 ≤ b ∧ b < L2) hS (fun _ h => h)
  have hm : k * K + j < (flatC c ks).length := by
    rw [flatC_length hK]
    have : k * K + K ≤ ks.length * K := by rw [← Nat.succ_mul]; exact Nat.mul_le_mul_right K hk
    omega
  obtain ⟨u, hu⟩ : ∃ u, (flatC c ks)[k * K + j]? = some u := ⟨_, List.getElem?_eq_getElem hm⟩
  have hbb := (h.row.at hu).2
  have e := flatC_set hK x j v hj ks k hk hc
  have hoth : ∀ b, ¬ b = bb → (wq.setCell ⟨bb, o + (k * K + j), none⟩ v).heap[b]? = wq.heap[b]? := fun b hb => Below.heap_setCell _ _ _ _ (by dsimp only; omega)
  refine h.step hsub hk x hx ?_ ?_ (by simpa using hbel.size) (fun b h1 h2 => (hoth b (by have := hbb.2; omega)).trans (hbel.block b h2)) (hsub hnew (fun b hb => hoth b (by have := hbb.2; have := hb.1; omega)) (fun b hb => ⟨hb.1, by simpa using hb.2⟩))
  · rw [e]; exact hrow.set hm v
  · rw [e, List.length_set]
    have := FreeC.keep h.row (Nat.le_refl _) h.free hS
    intro A hA i hi
    simpa using this A hA i hi
theorem flatC_set3 {α : Type} {c : α → List Value} (hK : ∀ x, (c x).length = 3) (x : α) (u0 u1 u2 : Value) (hx : c x = [u0, u1, u2]) : ∀ (l : List α) (i : Nat), i < l.length → flatC c (l.set i x) = (((flatC c l).set (i * 3) u0).set (i * 3 + 1) u1).set (i * 3 + 2) u2
  | y :: r, 0, _ => by
    have hy := hK y
    simp only [flatC, List.set_cons_zero, List.flatMap_cons]
    rw [hx]
    match c y, hy with
    | [y0, y1, y2], _ => simp
  | y :: r, i + 1, hi => by
    have ih := flatC_set3 hK x u0 u1 u2 hx r i (by simpa using hi)
    simp only [flatC, List.set_cons_succ, List.flatMap_cons] at ih ⊢
    rw [ih, List.set_append_right _ _ (by rw [hK]; omega), List.set_append_right _ _ (by rw [hK]; omega), List.set_append_right _ _ (by rw [hK]; omega), hK, show (i + 1) * 3 - 3 = i * 3 by omega, show (i + 1) * 3 + 1 - 3 = i * 3 + 1 by omega, show (i + 1) * 3 + 2 - 3 = i * 3 + 2 by omega]
theorem Half.put3 {α δ : Type} {wr wq : World} {L1 L2 bb o : Nat} {c : α → List Value} {sub : World → (Nat → Prop) → α → Prop} {dat : α → δ} {l0 : List α} {k : Nat} {ks : List α} (h : Half wr L1 L2 (some ⟨bb, o, none⟩) c sub dat l0 k ks) (hK : ∀ x, (c x).length = 3)
    (hsub : ∀ {w w' : World} {S S' : Nat → Prop} {x : α}, sub w S x → (∀ b, S b → w'.heap[b]? = w.heap[b]?) → (∀ b, S b → S' b) → sub w' S' x)
    (hk : k < ks.length) (x : α) (hx : dat x = dat ks[k]) (u0 u1 u2 : Value) (hc : c x = [u0, u1, u2]) (hbel : Below wr.heap.size wr wq) (hL2 : L2 ≤ wr.heap.size) (hnew : sub wq (fun b => L2 ≤ b ∧ b < wq.heap.size) x) :
    Half (((wq.setCell ⟨bb, o + (k * 3), none⟩ u0).setCell ⟨bb, o + (k * 3 + 1), none⟩ u1).setCell ⟨bb, o + (k * 3 + 2), none⟩ u2) L1 L2 (some ⟨bb, o, none⟩) c sub dat l0 (k + 1) (ks.set k x) := by
  have hS : ∀ b, L1 ≤ b ∧ b < L2 → wq.heap[b]? = wr.heap[b]? := fun b hb => hbel.block b (by omega)
  have hrow := h.row.keep (S' := fun b => L1 ≤ b ∧ b < L2) hS (fun _ h => h)
  have hlen := flatC_length hK ks
  have hm : k * 3 + 2 < (flatC c ks).length := by omega
  obtain ⟨u, hu⟩ : ∃ u, (flatC c ks)[k * 3]? = some u := ⟨(flatC c ks)[k * 3]'(by omega), List.getElem?_eq_getElem _⟩
  have hbb := (h.row.at hu).2
  have e := flatC_set3 hK x u0 u1 u2 hc ks k hk
  have hoth : ∀ b, ¬ b = bb → (((wq.setCell ⟨bb, o + (k * 3), none⟩ u0).setCell ⟨bb, o + (k * 3 + 1), none⟩ u1).setCell ⟨bb, o + (k * 3 + 2), none⟩ u2).heap[b]? = wq.heap[b]? := fun b hb => by
    rw [Below.heap_setCell _ _ _ _ (by dsimp only; omega), Below.heap_setCell _ _ _ _ (by dsimp only; omega), Below.heap_setCell _ _ _ _ (by dsimp only; omega)]
  refine h.step hsub hk x hx ?_ ?_ (by simpa using hbel.size) (fun b h1 h2 => (hoth b (by have := hbb.2; omega)).trans (hbel.block b h2)) (hsub hnew (fun b hb => hoth b (by have := hbb.2; have := hb.1; omega)) (fun b hb => ⟨hb.1, by simpa using hb.2⟩))
  · rw [e]; exact ((hrow.set (by omega) u0).set (by simp; omega) u1).set (by simp; omega) u2
  · rw [e, List.length_set, List.length_set, List.length_set]
    have := FreeC.keep h.row (Nat.le_refl _) h.free hS
    intro A hA i hi
    simpa using this A hA i hi
/-- All of it is done. -/
theorem Half.all {α δ : Type} {wr : World} {L1 L2 : Nat} {a : Option Addr} {c : α → List Value} {sub : World → (Nat → Prop) → α → Prop} {dat : α → δ} {l0 : List α} {k : Nat} {ks : List α} (h : Half wr L1 L2 a c sub dat l0 k ks)
    (hsub : ∀ {w w' : World} {S S' : Nat → Prop} {x : α}, sub w S x → (∀ b, S b → w'.heap[b]? = w.heap[b]?) → (∀ b, S b → S' b) → sub w' S' x) (hk : ks.length ≤ k) (hL : L1 ≤ L2) (h2 : L2 ≤ wr.heap.size) :
    Cs wr (fun b => L1 ≤ b ∧ b < wr.heap.size) a (flatC c ks) ∧ ∀ x, x ∈ ks → sub wr (fun b => L1 ≤ b ∧ b < wr.heap.size) x := by
  refine ⟨h.row.keep (fun _ _ => rfl) (fun b hb => ⟨hb.1, by omega⟩), fun x hx => ?_⟩
  obtain ⟨i, hi, rfl⟩ := List.getElem_of_mem hx
  exact hsub (h.done i hi (by omega)) (fun _ _ => rfl) (fun b hb => ⟨by omega, hb.2⟩)
theorem Half.drop {α δ : Type} {wr w' : World} {L1 L2 : Nat} {a : Option Addr} {c : α → List Value} {sub : World → (Nat → Prop) → α → Prop} {dat : α → δ} {l0 : List α} {k : Nat} {ks : List α} (h : Half wr L1 L2 a c sub dat l0 k ks)
    (hsub : ∀ {w w' : World} {S S' : Nat → Prop} {x : α}, sub w S x → (∀ b, S b → w'.heap[b]? = w.heap[b]?) → (∀ b, S b → S' b) → sub w' S' x) (hk : ∀ b, L1 ≤ b → b < wr.heap.size → w'.heap[b]? = wr.heap[b]?) (h2 : L2 ≤ wr.heap.size) (hL : L1 ≤ L2) (hs : wr.heap.size ≤ w'.heap.size) : Half w' L1 L2 a c sub dat l0 k ks :=
  ⟨h.dat, h.row.keep (fun b hb => hk b hb.1 (by omega)) (fun _ h => h), FreeC.keep h.row (Nat.le_refl _) h.free (fun b hb => hk b hb.1 (by omega)), fun i hi hik => hsub (h.done i hi hik) (fun b hb => hk b (by omega) hb.2) (fun b hb => ⟨hb.1, by omega⟩), h.rest⟩
end Go.Proofs.Ytecjnlekckmhfaa

/- Cells in a row; lists of structs as cells. -/
import Derived.Test.YtecjnlekckmhfaaChecked
import Derived.WalkKit
import Derived.WalkSpells
import Derived.WalkLawsBesides
import Derived.Below
import Derived.Deep.QuietTactic
import Derived.BigQuiet
import Derived.Deep.Draws
import Derived.Deep.Light
import Derived.Deep.DeepFit
import Derived.Deep.AppendSrc
import Derived.OwnWalk
import Derived.Lib.SliceRun
import Derived.Lib.Bytealg
import Derived.RangeFuncRecord
namespace Go.Proofs.Ytecjnlekckmhfaa
open Go.RowKit
theorem hid {p : Prop} (h : p) : Hid p := h
theorem ret_bool {a b : Bool} (h : a = b) : Ending.returned (.bool a) = .returned (.bool b) := by rw [h]
theorem bdrew {B : Nat} {a w : World} (h : Below B a w) (n : Nat) : Below B a (w.drewN n) := ⟨h.os, h.tape, h.output, h.size, h.block⟩
theorem undrew {B : Nat} {a w : World} (h : Below B a.drew w) : Below B a w := ⟨h.os, h.tape, h.output, h.size, h.block⟩
/-- Cells in a row, from an address on, in a block of some. -/
def Cs (w : World) (S : Nat → Prop) (a : Option Addr) (cs : List Value) : Prop :=
  ∀ j u, cs[j]? = some u → ∃ b o, a = some ⟨b, o, none⟩ ∧ S b ∧ w.cell? ⟨b, o + j, none⟩ = some u
theorem Cs.keep {w w' : World} {S S' : Nat → Prop} {a : Option Addr} {cs : List Value} (h : Cs w S a cs) (hk : ∀ b, S b → w'.heap[b]? = w.heap[b]?) (hs : ∀ b, S b → S' b) : Cs w' S' a cs := by
  intro j u hj
  obtain ⟨b, o, h1, h2, h3⟩ := h j u hj
  exact ⟨b, o, h1, hs b h2, (World.cell?_of_block (w := w) (hk b h2)).trans h3⟩
theorem Cs.nil (w : World) (S : Nat → Prop) (a : Option Addr) : Cs w S a [] := fun j u h => by simp at h
theorem Cs.of_none {w : World} {S : Nat → Prop} {cs : List Value} (h : Cs w S none cs) : cs = [] := by
  cases cs with
  | nil => rfl
  | cons x r => obtain ⟨b, o, e, _⟩ := h 0 x rfl; cases e
theorem Cs.at {w : World} {S : Nat → Prop} {b o : Nat} {cs : List Value} (h : Cs w S (some ⟨b, o, none⟩) cs) {j : Nat} {u : Value} (hj : cs[j]? = some u) : w.cell? ⟨b, o + j, none⟩ = some u ∧ S b := by
  obtain ⟨b', o', e, h2, h3⟩ := h j u hj
  injection e with e; injection e with e1 e2; subst e1 e2
  exact ⟨h3, h2⟩
theorem Cs.set {w : World} {S : Nat → Prop} {b o : Nat} {cs : List Value} (h : Cs w S (some ⟨b, o, none⟩) cs) {m : Nat} (hm : m < cs.length) (v : Value) : Cs (w.setCell ⟨b, o + m, none⟩ v) S (some ⟨b, o, none⟩) (cs.set m v) := by
  intro j u hj
  have hj2 : j < cs.length := by have := (List.getElem?_eq_some_iff.1 hj).1; simpa using this
  obtain ⟨hc, hs⟩ := h.at (List.getElem?_eq_getElem hj2)
  refine ⟨b, o, rfl, hs, ?_⟩
  by_cases e : m = j
  · subst e
    rw [List.getElem?_set_self hm] at hj
    injection hj with hj
    subst hj
    exact World.cell?_setCell_same _ _ _ hc
  · rw [List.getElem?_set_ne e, List.getElem?_eq_getElem hj2] at hj
    rw [World.cell?_setCell_other _ _ _ _ (by intro e'; injection e' with _ e'; omega), hc]
    exact hj
theorem Cs.src {P : Program} {w : World} {S : Nat → Prop} {a : Option Addr} {cs : List Value} (h : Cs w S a cs) {tx e' : TypeId} (hk : P.underlying tx = some (.slice e')) (k n c : Nat) (hk0 : 0 < k) (hn : cs.length = n * k) (h1 : ∀ u, u ∈ cs → u.oneCell' = true) : Src P k tx (.slice a n c) n cs w := by
  cases cs with
  | nil =>
    have hn0 : n = 0 := by
      rcases Nat.eq_zero_or_pos n with h | h
      · exact h
      · have := Nat.mul_pos h hk0; simp at hn; omega
    subst hn0
    refine ⟨.inl ⟨e', hk⟩, fun _ => rfl, ?_, ?_, by simp, fun _ h => by cases h⟩
    · cases a with
      | none => exact run_firstCells_none w k 0 0 c
      | some a => exact run_firstCells_some w k 0 a 0 c [] (by simp) (fun j u h => by simp at h)
    · cases a with
      | none => exact run_firstCells_none w.drew k 0 0 c
      | some a => exact run_firstCells_some w.drew k 0 a 0 c [] (by simp) (fun j u h => by simp at h)
  | cons x r =>
    obtain ⟨b, o, rfl, _⟩ := h 0 x rfl
    exact Src.ofSlice w hk _ _ _ _ hn (fun j u hu => by rw [Addr.add_lit]; exact (h.at hu).1) h1
/-- An address in a new block. -/
def NewAt (B : Nat) (a : Option Addr) : Prop := ∀ A, a = some A → B ≤ A.block
def FreeC (w : World) (a : Option Addr) (n : Nat) : Prop := ∀ A, a = some A → ∀ j, j < n → w.frozen? ⟨A.block, A.off + j, none⟩ = false
def CopiedB (w : World) (e : TypeId) (base : Option Addr) (n : Nat) (news : List Value) (v : Value) (w' : World) : Prop :=
  (n = 0 ∧ v = .slice base 0 0 ∧ w' = w) ∨ (0 < n ∧ ∃ cap cells, n ≤ cap ∧ v = .slice (some ⟨w.heap.size, 0, none⟩) n cap ∧ w' = w.drew.alloc (.cells cells e) ∧ ∀ j, j < news.length → cells[j]? = news[j]?)
theorem wpList_append_copyb {P : Program} (w : World) {ops : Array Oper} {rest : List Oper} {o : Oper} {a : Act} {Q : Exit → Act → World → Prop}
    (hg : o.guard = none) (s x : Operand) (t tx : TypeId) (hop : o.op = Op.call { callee := Callee.builtin Builtin.append, args := #[s, x], argTypes := #[t, tx] })
    (e : TypeId) (size bytes : Nat) (ht : P.underlying t = some (.slice e)) (hinfo : (P.info? e).map (fun i => (i.zero.isSome, i.size, i.bytes)) = some (true, size, bytes))
    (A : Addr) (hs : a.eval s = .slice (some A) 0 0) (xv : Value) (hx : a.eval x = xv) (n : Nat) (news : List Value) (hsrc : Src P size tx xv n news w) (hn : n ≤ 9223372036854775807) (hfit : n * bytes ≤ 281474976710656)
    (hK : ∀ v w', CopiedB w e (some A) n news v w' → wpList P ops Q rest (a.put o.dst v) w') :
    wpList P ops Q (o :: rest) a w := by
  obtain ⟨i, hi, hzz⟩ := Option.map_eq_some_iff.1 hinfo
  simp only [Prod.mk.injEq] at hzz
  obtain ⟨hz0, rfl, rfl⟩ := hzz
  obtain ⟨z, hz⟩ := Option.isSome_iff_exists.1 hz0
  refine wpList_plain hg fun K hK' => ?_
  rcases Nat.eq_zero_or_pos n with h0 | h0
  · subst h0
    have hnl := hsrc.newsLen
    have : news = [] := by simpa using hnl
    subst this
    have hrun : (Builtin.append_ #[t, tx] o.type #[.slice (some A) 0 0, xv]).run P w = .ok (.slice (some A) 0 0) w := by
      rcases hsrc.kind with ⟨e', hk⟩ | hk <;> simp [Builtin.append_, run_underlying ht, run_underlying hk, sizeOf, typeInfo, hi, hsrc.len, hsrc.cells, storeCells]
    unfold Oper.wp
    simp [execOp, hop, resolve, invoke, builtin, hs, hx, hrun, Result.andThen]
    exact hK' _ _ (hK _ _ (Or.inl ⟨rfl, rfl, rfl⟩))
  · have hrun := run_append_grow_src (P := P) w t tx o.type e i z ht hi hz (some A) 0 0 [] (run_firstCells_some w.drew i.size 0 A 0 0 [] (by simp) (fun j u h => by simp at h)) xv n news hsrc (by omega) (by omega) (by
      have : Builtin.nextslicecap (0 + n) 0 = n := by unfold Builtin.nextslicecap; rw [if_pos (by omega)]; omega
      rw [this]; exact hfit)
    rw [Nat.zero_add] at hrun
    unfold Oper.wp
    simp only [execOp, hop, resolve, invoke, builtin]
    simp [hs, hx, hrun, Result.andThen]
    refine hK' _ _ (hK _ _ (Or.inr ⟨h0, grownCap w n 0 e, _, grownCap_ge w n 0 e, rfl, rfl, fun j hj => ?_⟩))
    simp [Array.getElem?_append, hj]
/-- New cells. -/
structure FreshC (w w' : World) (a : Option Addr) (cs : List Value) : Prop where
  bel : Below w.heap.size w w'
  row : Cs w' (fun b => w.heap.size ≤ b ∧ b < w'.heap.size) a cs
  free : FreeC w' a cs.length
theorem freshC_copied {w w1 w' : World} {cs : List Value} {v : Value} {e : TypeId} {n k : Nat} (hn : cs.length = n * k) (hb : Below w.heap.size w w1) (h : CopiedB w1 e (some ⟨w.heap.size, 0, none⟩) n cs v w') : ∃ a' cap', v = .slice a' n cap' ∧ n ≤ cap' ∧ FreshC w w' a' cs := by
  rcases h with ⟨h0, rfl, rfl⟩ | ⟨h0, cap, cells, h1, rfl, rfl, h2⟩
  · subst h0
    have : cs = [] := List.length_eq_zero_iff.1 (by simpa using hn)
    subst this
    exact ⟨_, 0, rfl, Nat.le_refl _, hb, Cs.nil _ _ _, fun A _ j hj => absurd hj (by simp)⟩
  · have hnew := World.alloc_heap_new w1.drew (.cells cells e)
    rw [show w1.drew.heap.size = w1.heap.size from rfl] at hnew
    have hz := hb.size
    refine ⟨_, cap, rfl, h1, (bdrew hb 1).alloc hz _, fun j u hj => ?_, fun A h j _ => by injection h with h; subst h; simp only [World.frozen?, hnew]; simp⟩
    refine ⟨w1.heap.size, 0, rfl, ⟨hz, by simp⟩, ?_⟩
    rw [Nat.zero_add, ← hj, ← h2 j (List.getElem?_eq_some_iff.1 hj).1]
    simp only [World.cell?, hnew]
    rfl
/-- A list of structs as cells. -/
def flatC {α : Type} (c : α → List Value) (l : List α) : List Value := l.flatMap c
theorem flatC_length {α : Type} {c : α → List Value} {k : Nat} (hk : ∀ x, (c x).length = k) : ∀ l : List α, (flatC c l).length = l.length * k
  | [] => by simp [flatC]
  | x :: r => by
    have ih := flatC_length hk r
    simp only [flatC, List.flatMap_cons, List.length_append, List.length_cons] at ih ⊢
    rw [ih, hk x, Nat.succ_mul]; omega
theorem flatC_at {α : Type} {c : α → List Value} {k : Nat} (hk : ∀ x, (c x).length = k) : ∀ (l : List α) (i : Nat) (hi : i < l.length) (j : Nat), j < k → (flatC c l)[i * k + j]? = (c l[i])[j]?
  | x :: r, 0, _, j, hj => by
    simp only [flatC, List.flatMap_cons]
    rw [List.getElem?_append_left (by rw [hk]; omega)]
    simp
  | x :: r, i + 1, hi, j, hj => by
    have ih := flatC_at hk r i (by simpa using hi) j hj
    simp only [flatC, List.flatMap_cons] at ih ⊢
    rw [List.getElem?_append_right (by rw [hk, Nat.succ_mul]; omega), hk, Nat.succ_mul, show i * k + k + j - k = i * k + j by omega, ih]
    simp
theorem flatC_set {α : Type} {c : α → List Value} {k : Nat} (hk : ∀ x, (c x).length = k) (x : α) (j : Nat) (v : Value) (hj : j < k) : ∀ (l : List α) (i : Nat) (hi : i < l.length), c x = (c l[i]).set j v → flatC c (l.set i x) = (flatC c l).set (i * k + j) v
  | y :: r, 0, _, hx => by
    simp only [flatC, List.set_cons_zero, List.flatMap_cons, List.getElem_cons_zero, Nat.zero_mul, Nat.zero_add] at hx ⊢
    rw [hx, List.set_append_left _ _ (by rw [hk]; exact hj)]
  | y :: r, i + 1, hi, hx => by
    have ih := flatC_set hk x j v hj r i (by simpa using hi) (by simpa using hx)
    simp only [flatC, List.set_cons_succ, List.flatMap_cons] at ih ⊢
    rw [ih, List.set_append_right _ _ (by rw [hk, Nat.succ_mul]; omega), hk, Nat.succ_mul, show i * k + k + j - k = i * k + j by omega]
theorem flatC_one {α : Type} {c : α → List Value} (h : ∀ x u, u ∈ c x → u.oneCell' = true) (l : List α) : ∀ u, u ∈ flatC c l → u.oneCell' = true := by
  intro u hu
  obtain ⟨x, _, hx⟩ := List.mem_flatMap.1 hu
  exact h x u hx
/-- Of a list whose cells are copied one by one: so many are done. -/
structure Half {α δ : Type} (wr : World) (L1 L2 : Nat) (a : Option Addr) (c : α → List Value) (sub : World → (Nat → Prop) → α → Prop) (dat : α → δ) (l0 : List α) (k : Nat) (ks : List α) : Prop where
  dat : ks.map dat = l0.map dat
  row : Cs wr (fun b => L1 ≤ b ∧ b < L2) a (flatC c ks)
  free : FreeC wr a (flatC c ks).length
  done : ∀ i (h : i < ks.length), i < k → sub wr (fun b => L2 ≤ b ∧ b < wr.heap.size) ks[i]
  rest : ∀ i (h : i < ks.length) (h0 : i < l0.length), k ≤ i → ks[i] = l0[i]
theorem Half.len {α δ : Type} {wr : World} {L1 L2 : Nat} {a : Option Addr} {c : α → List Value} {sub : World → (Nat → Prop) → α → Prop} {dat : α → δ} {l0 : List α} {k : Nat} {ks : List α} (h : Half wr L1 L2 a c sub dat l0 k ks) : ks.length = l0.length := by
  have := congrArg List.length h.dat
  simpa using this
theorem Half.begin {α δ : Type} {w w' : World} {a : Option Addr} {c : α → List Value} {sub : World → (Nat → Prop) → α → Prop} {dat : α → δ} {l0 : List α} (h : FreshC w w' a (flatC c l0)) : Half w' w.heap.size w'.heap.size a c sub dat l0 0 l0 :=
  ⟨rfl, h.row, h.free, fun i _ hi => absurd hi (by omega), fun i _ _ _ => rfl⟩
theorem Half.step {α δ : Type} {wr w' : World} {L1 L2 : Nat} {a : Option Addr} {c : α → List Value} {sub : World → (Nat → Prop) → α → Prop} {dat : α → δ} {l0 : List α} {k : Nat} {ks : List α} (h : Half wr L1 L2 a c sub dat l0 k ks)
    (hsub : ∀ {w w' : World} {S S' : Nat → Prop} {x : α}, sub w S x → (∀ b, S b → w'.heap[b]? = w.heap[b]?) → (∀ b, S b → S' b) → sub w' S' x)
    (hk : k < ks.length) (x : α) (hx : dat x = dat ks[k]) (hrow : Cs w' (fun b => L1 ≤ b ∧ b < L2) a (flatC c (ks.set k x))) (hfree : FreeC w' a (flatC c (ks.set k x)).length)
    (hsz : wr.heap.size ≤ w'.heap.size) (hkeep : ∀ b, L2 ≤ b → b < wr.heap.size → w'.heap[b]? = wr.heap[b]?) (hnew : sub w' (fun b => L2 ≤ b ∧ b < w'.heap.size) x) : Half w' L1 L2 a c sub dat l0 (k + 1) (ks.set k x) := by
  refine ⟨?_, hrow, hfree, fun i hi hik => ?_, fun i hi h0 hik => ?_⟩
  · rw [← h.dat]
    refine List.ext_getElem (by simp) (fun i h1 h2 => ?_)
    rw [List.getElem_map, List.getElem_map]
    by_cases e : k = i
    · subst e; rw [List.getElem_set_self, hx]
    · rw [List.getElem_set_ne e]
  · by_cases e : k = i
    · subst e; rw [List.getElem_set_self]; exact hnew
    · rw [List.getElem_set_ne e]
      exact hsub (h.done i (by simpa using hi) (by omega)) (fun b hb => hkeep b hb.1 hb.2) (fun b hb => ⟨hb.1, by omega⟩)
  · rw [List.getElem_set_ne (by omega)]
    exact h.rest i (by simpa using hi) h0 (by omega)
end Go.Proofs.Ytecjnlekckmhfaa

/- Words and things: what P3.1 and P3.2 say, as plain functions. · Cells in a row; lists of structs as cells. · A world's lists as plain data, and as cells. · A world's lists, all of them. · Plain functions on numbers and bytes: what P1.1 and P1.2 say. · Words of the language, free names: what P2.2 says; a map filled with known pairs. · Leaf contracts. · Leaf contracts of the document's answer. · The document's NameMay answers as P1.1 says. · One datum without what is in it. · A datum and what is in it. -/
import Derived.Lib.Bytealg
import Derived.Test.YtldmanfgmadbfaaGreatDoorChecked
import Derived.WalkKit
import Derived.WalkSpells
import Derived.WalkLawsBesides
import Derived.Below
import Derived.Deep.QuietTactic
import Derived.BigQuiet
import Derived.Deep.Draws
import Derived.Deep.Light
import Derived.Deep.DeepFit
import Derived.Deep.AppendSrc
import Derived.OwnWalk
import Derived.Lib.SliceRun
import Derived.RangeFuncRecord
import Derived.Maps.OwnSet
import Derived.Test.YtldmanfgmadbfaaGreatDoorShelf
namespace Go.Proofs.YtldmanfgmadbfaaGreatDoor.HH
set_option maxRecDepth 100000
/-- A word. -/
structure Wd where
  k : Int
  n : Int
  s : ByteArray
def plainB (n : Int) (s : ByteArray) (b : Int) : Bool := decide (0 ≤ n) && decide (n < b) && decide (s.size = 0)
def intAt (l : List Wd) (a : Nat) (b : Int) : Bool := match l[a]? with
  | some w => decide (w.k = 1) && plainB w.n w.s b
  | none => false
def nAt (l : List Wd) (a : Nat) : Nat := match l[a]? with
  | some w => w.n.toNat
  | none => 0
def headsI (k : Int) : Int := if k = 6 then 1 else if k = 7 then 1 else if k = 8 then 2000 else if k = 9 then 8 else if k = 10 then 60000 else 0
def versI (k : Int) : Int := if k = 9 then 20 else if k = 10 then 1 else 0
def valsI (k : Int) : Int := if k = 6 then 2 else if k = 7 then 1 else if k = 8 then 40 else if k = 9 then 6 else if k = 10 then 6 else 0
def cntdB (k : Int) : Bool := decide (k = 8) || decide (k = 9) || decide (k = 10)
def fitT (l : List Wd) (f n : Nat) : Option (Nat × Nat) := if f + n ≤ l.length then some (f, f + n) else none
def tailT (l : List Wd) (f : Nat) (k : Int) : Option (Nat × Nat) :=
  if cntdB k = true then (if intAt l f (valsI k + 1) = true then fitT l (f + 1) (nAt l f) else none) else fitT l f (valsI k).toNat
/-- What begins at an address: where its values do, and where it ends. -/
def tAt (l : List Wd) (a : Nat) : Option (Nat × Nat) := match l[a]? with
  | none => none
  | some h => if plainB h.n h.s (headsI h.k) = false then none else if 0 < versI h.k then (if intAt l (a + 1) (versI h.k) = true then tailT l (a + 2) h.k else none) else tailT l (a + 1) h.k
theorem headsI_le (k : Int) : headsI k ≤ 60000 := by unfold headsI; repeat' split; all_goals omega
theorem versI_le (k : Int) : versI k ≤ 20 := by unfold versI; repeat' split; all_goals omega
theorem valsI_le (k : Int) : 0 ≤ valsI k ∧ valsI k ≤ 40 := by unfold valsI; repeat' split; all_goals omega
end Go.Proofs.YtldmanfgmadbfaaGreatDoor.HH
namespace Go.Proofs.YtldmanfgmadbfaaGreatDoor.VV
set_option maxRecDepth 100000
open Go.RowKit
open HH (Wd)
theorem hid {p : Prop} (h : p) : Hid p := h
theorem ret_bool {a b : Bool} (h : a = b) : Ending.returned (.bool a) = .returned (.bool b) := by rw [h]
theorem bdrew {B : Nat} {a w : World} (h : Below B a w) (n : Nat) : Below B a (w.drewN n) := ⟨h.os, h.tape, h.output, h.size, h.block⟩
theorem undrew {B : Nat} {a w : World} (h : Below B a.drew w) : Below B a w := ⟨h.os, h.tape, h.output, h.size, h.block⟩
/-- Cells in a row, from an address on, in a block of some. -/
def Cs (w : World) (S : Nat → Prop) (a : Option Addr) (cs : List Value) : Prop :=
  ∀ j u, cs[j]? = some u → ∃ b o, a = some ⟨b, o, none⟩ ∧ S b ∧ w.cell? ⟨b, o + j, none⟩ = some u
theorem Cs.keep {w w' : World} {S S' : Nat → Prop} {a : Option Addr} {cs : List Value} (h : Cs w S a cs) (hk : ∀ b, S b → w'.heap[b]? = w.heap[b]?) (hs : ∀ b, S b → S' b) : Cs w' S' a cs := by
  intro j u hj
  obtain ⟨b, o, h1, h2, h3⟩ := h j u hj
  exact ⟨b, o, h1, hs b h2, (World.cell?_of_block (w := w) (hk b h2)).trans h3⟩
theorem Cs.nil (w : World) (S : Nat → Prop) (a : Option Addr) : Cs w S a [] := fun j u h => by simp at h
theorem Cs.of_none {w : World} {S : Nat → Prop} {cs : List Value} (h : Cs w S none cs) : cs = [] := by
  cases cs with
  | nil => rfl
  | cons x r => obtain ⟨b, o, e, _⟩ := h 0 x rfl; cases e
theorem Cs.at {w : World} {S : Nat → Prop} {b o : Nat} {cs : List Value} (h : Cs w S (some ⟨b, o, none⟩) cs) {j : Nat} {u : Value} (hj : cs[j]? = some u) : w.cell? ⟨b, o + j, none⟩ = some u ∧ S b := by
  obtain ⟨b', o', e, h2, h3⟩ := h j u hj
  injection e with e; injection e with e1 e2; subst e1 e2
  exact ⟨h3, h2⟩
theorem Cs.set {w : World} {S : Nat → Prop} {b o : Nat} {cs : List Value} (h : Cs w S (some ⟨b, o, none⟩) cs) {m : Nat} (hm : m < cs.length) (v : Value) : Cs (w.setCell ⟨b, o + m, none⟩ v) S (some ⟨b, o, none⟩) (cs.set m v) := by
  intro j u hj
  have hj2 : j < cs.length := by have := (List.getElem?_eq_some_iff.1 hj).1; simpa using this
  obtain ⟨hc, hs⟩ := h.at (List.getElem?_eq_getElem hj2)
  refine ⟨b, o, rfl, hs, ?_⟩
  by_cases e : m = j
  · subst e
    rw [List.getElem?_set_self hm] at hj
    injection hj with hj
    subst hj
    exact World.cell?_setCell_same _ _ _ hc
  · rw [List.getElem?_set_ne e, List.getElem?_eq_getElem hj2] at hj
    rw [World.cell?_setCell_other _ _ _ _ (by intro e'; injection e' with _ e'; omega), hc]
    exact hj
theorem Cs.src {P : Program} {w : World} {S : Nat → Prop} {a : Option Addr} {cs : List Value} (h : Cs w S a cs) {tx e' : TypeId} (hk : P.underlying tx = some (.slice e')) (k n c : Nat) (hk0 : 0 < k) (hn : cs.length = n * k) (h1 : ∀ u, u ∈ cs → u.oneCell' = true) : Src P k tx (.slice a n c) n cs w := by
  cases cs with
  | nil =>
    have hn0 : n = 0 := by
      rcases Nat.eq_zero_or_pos n with h | h
      · exact h
      · have := Nat.mul_pos h hk0; simp at hn; omega
    subst hn0
    refine ⟨.inl ⟨e', hk⟩, fun _ => rfl, ?_, ?_, by simp, fun _ h => by cases h⟩
    · cases a with
      | none => exact run_firstCells_none w k 0 0 c
      | some a => exact run_firstCells_some w k 0 a 0 c [] (by simp) (fun j u h => by simp at h)
    · cases a with
      | none => exact run_firstCells_none w.drew k 0 0 c
      | some a => exact run_firstCells_some w.drew k 0 a 0 c [] (by simp) (fun j u h => by simp at h)
  | cons x r =>
    obtain ⟨b, o, rfl, _⟩ := h 0 x rfl
    exact Src.ofSlice w hk _ _ _ _ hn (fun j u hu => by rw [Addr.add_lit]; exact (h.at hu).1) h1
/-- An address in a new block. -/
def NewAt (B : Nat) (a : Option Addr) : Prop := ∀ A, a = some A → B ≤ A.block
def FreeC (w : World) (a : Option Addr) (n : Nat) : Prop := ∀ A, a = some A → ∀ j, j < n → w.frozen? ⟨A.block, A.off + j, none⟩ = false
def CopiedB (w : World) (e : TypeId) (base : Option Addr) (n : Nat) (news : List Value) (v : Value) (w' : World) : Prop :=
  (n = 0 ∧ v = .slice base 0 0 ∧ w' = w) ∨ (0 < n ∧ ∃ cap cells, n ≤ cap ∧ v = .slice (some ⟨w.heap.size, 0, none⟩) n cap ∧ w' = w.drew.alloc (.cells cells e) ∧ ∀ j, j < news.length → cells[j]? = news[j]?)
theorem wpList_append_copyb {P : Program} (w : World) {ops : Array Oper} {rest : List Oper} {o : Oper} {a : Act} {Q : Exit → Act → World → Prop}
    (hg : o.guard = none) (s x : Operand) (t tx : TypeId) (hop : o.op = Op.call { callee := Callee.builtin Builtin.append, args := #[s, x], argTypes := #[t, tx] })
    (e : TypeId) (size bytes : Nat) (ht : P.underlying t = some (.slice e)) (hinfo : (P.info? e).map (fun i => (i.zero.isSome, i.size, i.bytes)) = some (true, size, bytes))
    (A : Addr) (hs : a.eval s = .slice (some A) 0 0) (xv : Value) (hx : a.eval x = xv) (n : Nat) (news : List Value) (hsrc : Src P size tx xv n news w) (hn : n ≤ 9223372036854775807) (hfit : n * bytes ≤ 281474976710656)
    (hK : ∀ v w', CopiedB w e (some A) n news v w' → wpList P ops Q rest (a.put o.dst v) w') :
    wpList P ops Q (o :: rest) a w := by
  obtain ⟨i, hi, hzz⟩ := Option.map_eq_some_iff.1 hinfo
  simp only [Prod.mk.injEq] at hzz
  obtain ⟨hz0, rfl, rfl⟩ := hzz
  obtain ⟨z, hz⟩ := Option.isSome_iff_exists.1 hz0
  refine wpList_plain hg fun K hK' => ?_
  rcases Nat.eq_zero_or_pos n with h0 | h0
  · subst h0
    have hnl := hsrc.newsLen
    have : news = [] := by simpa using hnl
    subst this
    have hrun : (Builtin.append_ #[t, tx] o.type #[.slice (some A) 0 0, xv]).run P w = .ok (.slice (some A) 0 0) w := by
      rcases hsrc.kind with ⟨e', hk⟩ | hk <;> simp [Builtin.append_, run_underlying ht, run_underlying hk, sizeOf, typeInfo, hi, hsrc.len, hsrc.cells, storeCells]
    unfold Oper.wp
    simp [execOp, hop, resolve, invoke, builtin, hs, hx, hrun, Result.andThen]
    exact hK' _ _ (hK _ _ (Or.inl ⟨rfl, rfl, rfl⟩))
  · have hrun := run_append_grow_src (P := P) w t tx o.type e i z ht hi hz (some A) 0 0 [] (run_firstCells_some w.drew i.size 0 A 0 0 [] (by simp) (fun j u h => by simp at h)) xv n news hsrc (by omega) (by omega) (by
      have : Builtin.nextslicecap (0 + n) 0 = n := by unfold Builtin.nextslicecap; rw [if_pos (by omega)]; omega
      rw [this]; exact hfit)
    rw [Nat.zero_add] at hrun
    unfold Oper.wp
    simp only [execOp, hop, resolve, invoke, builtin]
    simp [hs, hx, hrun, Result.andThen]
    refine hK' _ _ (hK _ _ (Or.inr ⟨h0, grownCap w n 0 e, _, grownCap_ge w n 0 e, rfl, rfl, fun j hj => ?_⟩))
    simp [Array.getElem?_append, hj]
/-- New cells. -/
structure FreshC (w w' : World) (a : Option Addr) (cs : List Value) : Prop where
  bel : Below w.heap.size w w'
  row : Cs w' (fun b => w.heap.size ≤ b ∧ b < w'.heap.size) a cs
  free : FreeC w' a cs.length
theorem freshC_copied {w w1 w' : World} {cs : List Value} {v : Value} {e : TypeId} {n k : Nat} (hn : cs.length = n * k) (hb : Below w.heap.size w w1) (h : CopiedB w1 e (some ⟨w.heap.size, 0, none⟩) n cs v w') : ∃ a' cap', v = .slice a' n cap' ∧ n ≤ cap' ∧ FreshC w w' a' cs := by
  rcases h with ⟨h0, rfl, rfl⟩ | ⟨h0, cap, cells, h1, rfl, rfl, h2⟩
  · subst h0
    have : cs = [] := List.length_eq_zero_iff.1 (by simpa using hn)
    subst this
    exact ⟨_, 0, rfl, Nat.le_refl _, hb, Cs.nil _ _ _, fun A _ j hj => absurd hj (by simp)⟩
  · have hnew := World.alloc_heap_new w1.drew (.cells cells e)
    rw [show w1.drew.heap.size = w1.heap.size from rfl] at hnew
    have hz := hb.size
    refine ⟨_, cap, rfl, h1, (bdrew hb 1).alloc hz _, fun j u hj => ?_, fun A h j _ => by injection h with h; subst h; simp only [World.frozen?, hnew]; simp⟩
    refine ⟨w1.heap.size, 0, rfl, ⟨hz, by simp⟩, ?_⟩
    rw [Nat.zero_add, ← hj, ← h2 j (List.getElem?_eq_some_iff.1 hj).1]
    simp only [World.cell?, hnew]
    rfl
/-- A list of structs as cells. -/
def flatC {α : Type} (c : α → List Value) (l : List α) : List Value := l.flatMap c
theorem flatC_length {α : Type} {c : α → List Value} {k : Nat} (hk : ∀ x, (c x).length = k) : ∀ l : List α, (flatC c l).length = l.length * k
  | [] => by simp [flatC]
  | x :: r => by
    have ih := flatC_length hk r
    simp only [flatC, List.flatMap_cons, List.length_append, List.length_cons] at ih ⊢
    rw [ih, hk x, Nat.succ_mul]; omega
theorem flatC_at {α : Type} {c : α → List Value} {k : Nat} (hk : ∀ x, (c x).length = k) : ∀ (l : List α) (i : Nat) (hi : i < l.length) (j : Nat), j < k → (flatC c l)[i * k + j]? = (c l[i])[j]?
  | x :: r, 0, _, j, hj => by
    simp only [flatC, List.flatMap_cons]
    rw [List.getElem?_append_left (by rw [hk]; omega)]
    simp
  | x :: r, i + 1, hi, j, hj => by
    have ih := flatC_at hk r i (by simpa using hi) j hj
    simp only [flatC, List.flatMap_cons] at ih ⊢
    rw [List.getElem?_append_right (by rw [hk, Nat.succ_mul]; omega), hk, Nat.succ_mul, show i * k + k + j - k = i * k + j by omega, ih]
    simp
theorem flatC_set {α : Type} {c : α → List Value} {k : Nat} (hk : ∀ x, (c x).length = k) (x : α) (j : Nat) (v : Value) (hj : j < k) : ∀ (l : List α) (i : Nat) (hi : i < l.length), c x = (c l[i]).set j v → flatC c (l.set i x) = (flatC c l).set (i * k + j) v
  | y :: r, 0, _, hx => by
    simp only [flatC, List.set_cons_zero, List.flatMap_cons, List.getElem_cons_zero, Nat.zero_mul, Nat.zero_add] at hx ⊢
    rw [hx, List.set_append_left _ _ (by rw [hk]; exact hj)]
  | y :: r, i + 1, hi, hx => by
    have ih := flatC_set hk x j v hj r i (by simpa using hi) (by simpa using hx)
    simp only [flatC, List.set_cons_succ, List.flatMap_cons] at ih ⊢
    rw [ih, List.set_append_right _ _ (by rw [hk, Nat.succ_mul]; omega), hk, Nat.succ_mul, show i * k + k + j - k = i * k + j by omega]
theorem flatC_one {α : Type} {c : α → List Value} (h : ∀ x u, u ∈ c x → u.oneCell' = true) (l : List α) : ∀ u, u ∈ flatC c l → u.oneCell' = true := by
  intro u hu
  obtain ⟨x, _, hx⟩ := List.mem_flatMap.1 hu
  exact h x u hx
/-- Of a list whose cells are copied one by one: so many are done. -/
structure Half {α δ : Type} (wr : World) (L1 L2 : Nat) (a : Option Addr) (c : α → List Value) (sub : World → (Nat → Prop) → α → Prop) (dat : α → δ) (l0 : List α) (k : Nat) (ks : List α) : Prop where
  dat : ks.map dat = l0.map dat
  row : Cs wr (fun b => L1 ≤ b ∧ b < L2) a (flatC c ks)
  free : FreeC wr a (flatC c ks).length
  done : ∀ i (h : i < ks.length), i < k → sub wr (fun b => L2 ≤ b ∧ b < wr.heap.size) ks[i]
  rest : ∀ i (h : i < ks.length) (h0 : i < l0.length), k ≤ i → ks[i] = l0[i]
theorem Half.len {α δ : Type} {wr : World} {L1 L2 : Nat} {a : Option Addr} {c : α → List Value} {sub : World → (Nat → Prop) → α → Prop} {dat : α → δ} {l0 : List α} {k : Nat} {ks : List α} (h : Half wr L1 L2 a c sub dat l0 k ks) : ks.length = l0.length := by
  have := congrArg List.length h.dat
  simpa using this
theorem Half.begin {α δ : Type} {w w' : World} {a : Option Addr} {c : α → List Value} {sub : World → (Nat → Prop) → α → Prop} {dat : α → δ} {l0 : List α} (h : FreshC w w' a (flatC c l0)) : Half w' w.heap.size w'.heap.size a c sub dat l0 0 l0 :=
  ⟨rfl, h.row, h.free, fun i _ hi => absurd hi (by omega), fun i _ _ _ => rfl⟩
theorem Half.step {α δ : Type} {wr w' : World} {L1 L2 : Nat} {a : Option Addr} {c : α → List Value} {sub : World → (Nat → Prop) → α → Prop} {dat : α → δ} {l0 : List α} {k : Nat} {ks : List α} (h : Half wr L1 L2 a c sub dat l0 k ks)
    (hsub : ∀ {w w' : World} {S S' : Nat → Prop} {x : α}, sub w S x → (∀ b, S b → w'.heap[b]? = w.heap[b]?) → (∀ b, S b → S' b) → sub w' S' x)
    (hk : k < ks.length) (x : α) (hx : dat x = dat ks[k]) (hrow : Cs w' (fun b => L1 ≤ b ∧ b < L2) a (flatC c (ks.set k x))) (hfree : FreeC w' a (flatC c (ks.set k x)).length)
    (hsz : wr.heap.size ≤ w'.heap.size) (hkeep : ∀ b, L2 ≤ b → b < wr.heap.size → w'.heap[b]? = wr.heap[b]?) (hnew : sub w' (fun b => L2 ≤ b ∧ b < w'.heap.size) x) : Half w' L1 L2 a c sub dat l0 (k + 1) (ks.set k x) := by
  refine ⟨?_, hrow, hfree, fun i hi hik => ?_, fun i hi h0 hik => ?_⟩
  · rw [← h.dat]
    refine List.ext_getElem (by simp) (fun i h1 h2 => ?_)
    rw [List.getElem_map, List.getElem_map]
    by_cases e : k = i
    · subst e; rw [List.getElem_set_self, hx]
    · rw [List.getElem_set_ne e]
  · by_cases e : k = i
    · subst e; rw [List.getElem_set_self]; exact hnew
    · rw [List.getElem_set_ne e]
      exact hsub (h.done i (by simpa using hi) (by omega)) (fun b hb => hkeep b hb.1 hb.2) (fun b hb => ⟨hb.1, by omega⟩)
  · rw [List.getElem_set_ne (by omega)]
    exact h.rest i (by simpa using hi) h0 (by omega)
end Go.Proofs.YtldmanfgmadbfaaGreatDoor.VV
namespace Go.Proofs.YtldmanfgmadbfaaGreatDoor.VV
set_option maxRecDepth 100000
open Go.RowKit
open HH (Wd)
structure Ins where
  op : Int
  a : Int
  b : Int
  s : ByteArray
  t : ByteArray
  w : Wd
structure Gl where
  name : ByteArray
  w : Wd
structure Fn where
  p : Int
  l : Int
  c : Int
  adr : Option Addr
  cap : Nat
  code : List Ins
structure Sh where
  name : ByteArray
  adr : Option Addr
  cap : Nat
  fs : List ByteArray
structure Mv where
  adr : Option Addr
  cap : Nat
  l : List Int
structure Rc where
  name : ByteArray
  va : Option Addr
  vcap : Nat
  vs : List Sh
  ma : Option Addr
  mcap : Nat
  ms : List Mv
def wdC (x : Wd) : List Value := [.int .i64 x.k, .int .i64 x.n, .string x.s]
def insC (x : Ins) : List Value := [.int .i64 x.op, .int .i64 x.a, .int .i64 x.b, .string x.s, .string x.t, .int .i64 x.w.k, .int .i64 x.w.n, .string x.w.s]
def glC (x : Gl) : List Value := [.string x.name, .int .i64 x.w.k, .int .i64 x.w.n, .string x.w.s]
def fnC (x : Fn) : List Value := [.int .i64 x.p, .int .i64 x.l, .int .i64 x.c, .slice x.adr x.code.length x.cap]
def shC (x : Sh) : List Value := [.string x.name, .slice x.adr x.fs.length x.cap]
def mvC (x : Mv) : List Value := [.slice x.adr x.l.length x.cap]
def rcC (x : Rc) : List Value := [.string x.name, .slice x.va x.vs.length x.vcap, .slice x.ma x.ms.length x.mcap]
def strC (x : ByteArray) : List Value := [.string x]
def intC (x : Int) : List Value := [.int .i64 x]
theorem wdC_len (x : Wd) : (wdC x).length = 3 := rfl
theorem insC_len (x : Ins) : (insC x).length = 8 := rfl
theorem glC_len (x : Gl) : (glC x).length = 4 := rfl
theorem fnC_len (x : Fn) : (fnC x).length = 4 := rfl
theorem shC_len (x : Sh) : (shC x).length = 2 := rfl
theorem mvC_len (x : Mv) : (mvC x).length = 1 := rfl
theorem rcC_len (x : Rc) : (rcC x).length = 3 := rfl
theorem strC_len (x : ByteArray) : (strC x).length = 1 := rfl
theorem intC_len (x : Int) : (intC x).length = 1 := rfl
theorem wdC_one (x : Wd) (u : Value) (h : u ∈ wdC x) : u.oneCell' = true := by
  simp only [wdC, List.mem_cons, List.not_mem_nil, or_false] at h; rcases h with rfl | rfl | rfl <;> rfl
theorem insC_one (x : Ins) (u : Value) (h : u ∈ insC x) : u.oneCell' = true := by
  simp only [insC, List.mem_cons, List.not_mem_nil, or_false] at h; rcases h with rfl | rfl | rfl | rfl | rfl | rfl | rfl | rfl <;> rfl
theorem glC_one (x : Gl) (u : Value) (h : u ∈ glC x) : u.oneCell' = true := by
  simp only [glC, List.mem_cons, List.not_mem_nil, or_false] at h; rcases h with rfl | rfl | rfl | rfl <;> rfl
theorem fnC_one (x : Fn) (u : Value) (h : u ∈ fnC x) : u.oneCell' = true := by
  simp only [fnC, List.mem_cons, List.not_mem_nil, or_false] at h; rcases h with rfl | rfl | rfl | rfl <;> rfl
theorem shC_one (x : Sh) (u : Value) (h : u ∈ shC x) : u.oneCell' = true := by
  simp only [shC, List.mem_cons, List.not_mem_nil, or_false] at h; rcases h with rfl | rfl <;> rfl
theorem mvC_one (x : Mv) (u : Value) (h : u ∈ mvC x) : u.oneCell' = true := by
  simp only [mvC, List.mem_cons, List.not_mem_nil, or_false] at h; rcases h with rfl; rfl
theorem rcC_one (x : Rc) (u : Value) (h : u ∈ rcC x) : u.oneCell' = true := by
  simp only [rcC, List.mem_cons, List.not_mem_nil, or_false] at h; rcases h with rfl | rfl | rfl <;> rfl
theorem strC_one (x : ByteArray) (u : Value) (h : u ∈ strC x) : u.oneCell' = true := by
  simp only [strC, List.mem_cons, List.not_mem_nil, or_false] at h; rcases h with rfl; rfl
theorem intC_one (x : Int) (u : Value) (h : u ∈ intC x) : u.oneCell' = true := by
  simp only [intC, List.mem_cons, List.not_mem_nil, or_false] at h; rcases h with rfl; rfl
/-- What lies behind an element of a list. -/
def subF (w : World) (S : Nat → Prop) (x : Fn) : Prop := Cs w S x.adr (flatC insC x.code)
def subS (w : World) (S : Nat → Prop) (x : Sh) : Prop := Cs w S x.adr (flatC strC x.fs)
def subM (w : World) (S : Nat → Prop) (x : Mv) : Prop := Cs w S x.adr (flatC intC x.l)
structure subR (w : World) (S : Nat → Prop) (x : Rc) : Prop where
  v : Cs w S x.va (flatC shC x.vs)
  vs : ∀ s, s ∈ x.vs → subS w S s
  m : Cs w S x.ma (flatC mvC x.ms)
  ms : ∀ m, m ∈ x.ms → subM w S m
theorem subF_keep {w w' : World} {S S' : Nat → Prop} {x : Fn} (h : subF w S x) (hk : ∀ b, S b → w'.heap[b]? = w.heap[b]?) (hs : ∀ b, S b → S' b) : subF w' S' x := Cs.keep h hk hs
theorem subS_keep {w w' : World} {S S' : Nat → Prop} {x : Sh} (h : subS w S x) (hk : ∀ b, S b → w'.heap[b]? = w.heap[b]?) (hs : ∀ b, S b → S' b) : subS w' S' x := Cs.keep h hk hs
theorem subM_keep {w w' : World} {S S' : Nat → Prop} {x : Mv} (h : subM w S x) (hk : ∀ b, S b → w'.heap[b]? = w.heap[b]?) (hs : ∀ b, S b → S' b) : subM w' S' x := Cs.keep h hk hs
theorem subR_keep {w w' : World} {S S' : Nat → Prop} {x : Rc} (h : subR w S x) (hk : ∀ b, S b → w'.heap[b]? = w.heap[b]?) (hs : ∀ b, S b → S' b) : subR w' S' x :=
  ⟨h.v.keep hk hs, fun s hs' => subS_keep (h.vs s hs') hk hs, h.m.keep hk hs, fun m hm => subM_keep (h.ms m hm) hk hs⟩
/-- The plain data. -/
def datF (x : Fn) : Int × Int × Int × List Ins := (x.p, x.l, x.c, x.code)
def datS (x : Sh) : ByteArray × List ByteArray := (x.name, x.fs)
def datM (x : Mv) : List Int := x.l
def datR (x : Rc) : ByteArray × List (ByteArray × List ByteArray) × List (List Int) := (x.name, x.vs.map datS, x.ms.map datM)
/-- No list is longer than one that can be read. -/
def bigF (x : Fn) : Prop := x.code.length * 88 ≤ 140737488355328
def bigS (x : Sh) : Prop := x.fs.length * 16 ≤ 140737488355328
def bigM (x : Mv) : Prop := x.l.length * 8 ≤ 140737488355328
structure bigR (x : Rc) : Prop where
  v : x.vs.length * 40 ≤ 140737488355328
  vs : ∀ s, s ∈ x.vs → bigS s
  m : x.ms.length * 24 ≤ 140737488355328
  ms : ∀ m, m ∈ x.ms → bigM m
theorem map_get {α δ : Type} {f : α → δ} {l l' : List α} (h : l.map f = l'.map f) (i : Nat) (hi : i < l.length) (hi' : i < l'.length) : f l[i] = f l'[i] := by
  have e1 : (l.map f)[i]'(by simpa using hi) = (l'.map f)[i]'(by simpa using hi') := by simp only [h]
  simpa using e1
theorem map_len {α δ : Type} {f : α → δ} {l l' : List α} (h : l.map f = l'.map f) : l.length = l'.length := by
  have := congrArg List.length h
  simpa using this
end Go.Proofs.YtldmanfgmadbfaaGreatDoor.VV
namespace Go.Proofs.YtldmanfgmadbfaaGreatDoor.VV
set_option maxRecDepth 100000
open Go.RowKit
open HH (Wd)
structure Wv where
  fa : Option Addr
  fcap : Nat
  fs : List Fn
  ga : Option Addr
  gcap : Nat
  gs : List Gl
  ra : Option Addr
  rcap : Nat
  rs : List Rc
  ha : Option Addr
  hcap : Nat
  hs : List Wd
structure subW (w : World) (S : Nat → Prop) (x : Wv) : Prop where
  f : Cs w S x.fa (flatC fnC x.fs)
  fs : ∀ y, y ∈ x.fs → subF w S y
  g : Cs w S x.ga (flatC glC x.gs)
  r : Cs w S x.ra (flatC rcC x.rs)
  rs : ∀ y, y ∈ x.rs → subR w S y
  h : Cs w S x.ha (flatC wdC x.hs)
theorem subW_keep {w w' : World} {S S' : Nat → Prop} {x : Wv} (h : subW w S x) (hk : ∀ b, S b → w'.heap[b]? = w.heap[b]?) (hs : ∀ b, S b → S' b) : subW w' S' x :=
  ⟨h.f.keep hk hs, fun y hy => subF_keep (h.fs y hy) hk hs, h.g.keep hk hs, h.r.keep hk hs, fun y hy => subR_keep (h.rs y hy) hk hs, h.h.keep hk hs⟩
structure bigW (x : Wv) : Prop where
  f : x.fs.length * 48 ≤ 140737488355328
  fs : ∀ y, y ∈ x.fs → bigF y
  g : x.gs.length * 48 ≤ 140737488355328
  r : x.rs.length * 64 ≤ 140737488355328
  rs : ∀ y, y ∈ x.rs → bigR y
  h : x.hs.length * 32 ≤ 140737488355328
end Go.Proofs.YtldmanfgmadbfaaGreatDoor.VV
namespace Go.Proofs.YtldmanfgmadbfaaGreatDoor.UU
set_option maxRecDepth 100000
def inI (a n b : Int) : Bool := decide (a ≤ n) && decide (n ≤ b)
def digI (c : Int) : Bool := decide (48 ≤ c) && decide (c ≤ 57)
def signI (c : Int) : Bool := c == 43 || c == 45 || c == 42 || c == 47 || c == 60 || c == 62 || c == 61 || c == 63 || c == 33 || c == 95
def smallI (c : Int) : Bool := decide (97 ≤ c) && decide (c ≤ 122)
def nameByteI (c : Int) : Bool := smallI c || digI c || signI c
def begins : List UInt8 → Bool
  | [] => false
  | c :: r => digI c.toNat || ((c.toNat : Int) == 45 && match r with | [] => false | d :: _ => digI d.toNat)
def nameB (l : List UInt8) : Bool := decide (1 ≤ l.length) && decide (l.length ≤ 16) && !begins l && l.all fun c => nameByteI c.toNat
end Go.Proofs.YtldmanfgmadbfaaGreatDoor.UU
namespace Go.Proofs.YtldmanfgmadbfaaGreatDoor.UU
set_option maxRecDepth 100000
open Go.Maps
/-- Keywords, primitives: the last one first, as a map is filled. -/
def keyws : List (List UInt8 × Int) := [([119, 97, 115], 10), ([117, 112, 103, 114, 97, 100, 101], 9), ([100, 101, 102, 105, 110, 101], 8), ([114, 101, 99, 111, 114, 100], 7), ([115, 101, 116, 33], 6), ([98, 101, 103, 105, 110], 5), ([108, 97, 109, 98, 100, 97], 4), ([108, 101, 116], 3), ([105, 102], 2), ([113, 117, 111, 116, 101], 1)]
def prims : List (List UInt8 × Int) := [([101, 114, 114, 111, 114], 1), ([110, 111, 116], 1), ([112, 97, 105, 114, 63], 1), ([110, 117, 108, 108, 63], 1), ([99, 100, 114], 1), ([99, 97, 114], 1), ([101, 113, 63], 2), ([99, 111, 110, 115], 2), ([60], 2), ([61], 2), ([114, 101, 109, 97, 105, 110, 100, 101, 114], 2), ([113, 117, 111, 116, 105, 101, 110, 116], 2), ([42], 2), ([45], 2), ([43], 2)]
def valOf : List (List UInt8 × Int) → List UInt8 → Int
  | [], _ => 0
  | p :: r, s => if p.1 = s then p.2 else valOf r s
def filled : List (List UInt8 × Int) → DataW Unit
  | [] => .map []
  | p :: r => (filled r).put (.string p.1) (.lit (.int .i64 p.2))
theorem filled_map : ∀ l, IsMap (filled l)
  | [] => isMap_empty
  | _ :: r => (filled_map r).put _ _
theorem filled_at (s : List UInt8) : ∀ l, (filled l).atKey (.string s) (.lit (.int .i64 0)) = .lit (.int .i64 (valOf l s))
  | [] => rfl
  | p :: r => by
    unfold filled valOf
    by_cases h : p.1 = s
    · rw [if_pos h, ← h]; exact atKey_put_same (k := .string p.1) (filled_map r) (by trivial) _ _
    · rw [if_neg h, atKey_put_other (by intro e; injection e with e; exact h e.symm)]; exact filled_at s r
def freeB (s : List UInt8) : Bool := nameB s && (valOf keyws s == 0) && (valOf prims s == 0)
end Go.Proofs.YtldmanfgmadbfaaGreatDoor.UU
namespace Go.Proofs.YtldmanfgmadbfaaGreatDoor.UU
set_option maxRecDepth 100000
open Go.RowKit
theorem hid {p : Prop} (h : p) : Hid p := h
theorem ret_bool {a b : Bool} (h : a = b) : Ending.returned (.bool a) = .returned (.bool b) := by rw [h]
theorem ret_int {k : IntKind} {a b : Int} (h : a = b) : Ending.returned (.int k a) = .returned (.int k b) := by rw [h]
set_option maxHeartbeats 400000 in
theorem isDigit_any (c : Int) (w : World) :
    Calls Tryz.prog 113 #[.int .u8 c] w fun e w' => e = .returned (.bool (digI c)) ∧ w' = w := by
  go_enter Tryz.func113, Tryz.ntmps113
  go_wp2
  all_goals (go_ret; exact ⟨ret_bool (by rw [Bool.eq_iff_iff]; simp [digI]; omega), rfl⟩)
set_option maxHeartbeats 400000 in
theorem fits_any (n : Int) (w : World) :
    Calls Tryz.prog 107 #[.int .i64 n] w fun e w' => e = .returned (.bool (inI (-1099511627776) n 1099511627776)) ∧ w' = w := by
  go_enter Tryz.func107, Tryz.ntmps107
  go_wp2
  all_goals (go_ret; exact ⟨ret_bool (by rw [Bool.eq_iff_iff]; simp [inI]; omega), rfl⟩)
theorem indexByte_signs (c : Int) (h0 : 0 ≤ c) (h1 : c ≤ 255) : decide (0 ≤ Lib.indexByte [43, 45, 42, 47, 60, 62, 61, 63, 33, 95] (UInt8.ofNat c.toNat)) = signI c := by
  obtain ⟨n, rfl⟩ := Int.eq_ofNat_of_zero_le h0
  have : ∀ n : Fin 256, decide (0 ≤ Lib.indexByte [43, 45, 42, 47, 60, 62, 61, 63, 33, 95] (UInt8.ofNat ((n.val : Int)).toNat)) = signI n.val := by decide +kernel
  exact this ⟨n, by omega⟩
set_option maxHeartbeats 400000 in
theorem isNameByte_any (c : Int) (w : World) (h0 : 0 ≤ c) (h1 : c ≤ 255) :
    Calls Tryz.prog 111 #[.int .u8 c] w fun e w' => e = .returned (.bool (nameByteI c)) ∧ w' = w := by
  have hs := hid (indexByte_signs c h0 h1)
  go_enter Tryz.func111, Tryz.ntmps111
  go_wp2_with (first | (go_at_call 113; refine (isDigit_any _ _).mono ?_; rintro e w' ⟨rfl, rfl⟩) | (go_at_call 114; refine (Tryz.strings_IndexByte _ _ _).mono ?_; rintro e w' ⟨rfl, rfl⟩))
  all_goals (go_ret; refine ⟨ret_bool ?_, rfl⟩; try rw [hs.out])
  all_goals (clear hs; simp only [nameByteI, smallI, digI] at *; cases signI c <;> (rw [Bool.eq_iff_iff]; simp at * <;> omega))
def trimmed (s : ByteArray) : ByteArray := if (s.extract 0 1).toList == [45] then s.extract 1 s.size else s
theorem trimmed_short (s : ByteArray) (h : (s.size : Int) < 1) : trimmed s = s := by
  have : s.size = 0 := by omega
  have e : s = ByteArray.empty := ByteArray.size_eq_zero_iff.1 this
  subst e; unfold trimmed; rw [if_neg]; rw [ByteArray.toList_eq]; simp [ByteArray.data_extract]
set_option maxHeartbeats 400000 in
theorem trim_any (s : ByteArray) (w : World) (_hs : s.size ≤ 9223372036854775807) :
    Calls Tryz.prog 112 #[.string s, .string ⟨#[45]⟩] w fun e w' => e = .returned (.string (trimmed s)) ∧ w' = w := by
  have h1 := hid (trimmed_short s)
  go_enter Tryz.func112, Tryz.ntmps112
  go_wp2
  · go_ret; exact ⟨congrArg (fun x => Ending.returned (.string x)) (by unfold trimmed; rw [if_pos (by assumption)]), rfl⟩
  · go_ret; exact ⟨congrArg (fun x => Ending.returned (.string x)) (by unfold trimmed; rw [if_neg (by simp [*])]), rfl⟩
  · go_ret; exact ⟨congrArg (fun x => Ending.returned (.string x)) (h1.out (by assumption)).symm, rfl⟩
def firstDig (s : ByteArray) : Bool := match s.data.toList with | [] => false | c :: _ => digI c.toNat
theorem firstDig_pos (s : ByteArray) (h : 0 < s.size) : firstDig s = digI s[0].toNat := by
  obtain ⟨⟨l⟩⟩ := s
  cases l with
  | nil => exact absurd (show 0 < ([] : List UInt8).length from h) (by simp)
  | cons c r => rfl
theorem firstDig_zero (s : ByteArray) (h : ¬ 0 < s.size) : firstDig s = false := by
  obtain ⟨⟨l⟩⟩ := s
  cases l with
  | nil => rfl
  | cons c r => exact absurd (show 0 < (c :: r).length by simp) h
theorem empty_of (s : ByteArray) (h : ¬ 0 < s.size) : s.toList = [] := by
  rw [ByteArray.toList_eq]
  obtain ⟨⟨l⟩⟩ := s
  cases l with
  | nil => rfl
  | cons c r => exact absurd (show 0 < (c :: r).length by simp) h
theorem nonempty_of (s : ByteArray) (h : 0 < s.size) : ¬ s.toList = [] := by
  rw [ByteArray.toList_eq]
  obtain ⟨⟨l⟩⟩ := s
  cases l with
  | nil => exact absurd (show 0 < ([] : List UInt8).length from h) (by simp)
  | cons c r => simp
theorem begins_eq (s : ByteArray) : firstDig (trimmed s) = begins s.data.toList := by
  obtain ⟨⟨l⟩⟩ := s
  unfold trimmed
  cases l with
  | nil =>
    have e : ((ByteArray.mk ([] : List UInt8).toArray).extract 0 1).toList = [] := by rw [ByteArray.toList_eq]; simp [ByteArray.data_extract]
    rw [e]; rfl
  | cons c r =>
    have e1 : ((ByteArray.mk (c :: r).toArray).extract 0 1).toList = [c] := by rw [ByteArray.toList_eq]; simp [ByteArray.data_extract]
    have e2 : ((ByteArray.mk (c :: r).toArray).extract 1 (ByteArray.mk (c :: r).toArray).size).data.toList = r := by
      have e0 : (ByteArray.mk (c :: r).toArray).size = r.length + 1 := rfl
      rw [e0]; simp [ByteArray.data_extract]
    rw [e1]
    by_cases h : c = 45
    · subst h
      rw [if_pos (by decide)]
      unfold firstDig; rw [e2]
      cases r <;> simp [begins, digI]
    · rw [if_neg (by simpa using h)]
      have : ((c.toNat : Int) == 45) = false := by
        rw [beq_eq_false_iff_ne]; intro e
        exact h (UInt8.toNat_inj.1 (by simpa using Int.ofNat.inj e))
      simp [firstDig, begins, this]
set_option maxHeartbeats 400000 in
theorem begins_any (s : ByteArray) (w : World) (hs : s.size ≤ 9223372036854775807) :
    Calls Tryz.prog 110 #[.string s] w fun e w' => e = .returned (.bool (begins s.data.toList)) ∧ w' = w := by
  have hb := hid (begins_eq s)
  by_cases ht : 0 < (trimmed s).size
  · have hne := nonempty_of _ ht
    have hf := hid (firstDig_pos _ ht)
    go_enter Tryz.func110, Tryz.ntmps110
    go_wp2_with (first | (go_at_call 112; refine (trim_any _ _ hs).mono ?_; rintro e w' ⟨rfl, rfl⟩) | (go_at_call 113; refine (isDigit_any _ _).mono ?_; rintro e w' ⟨rfl, rfl⟩))
    go_ret
    exact ⟨ret_bool (by rw [← hb.out, hf.out]; simp [hne]), rfl⟩
  · have hne := empty_of _ ht
    have hf := hid (firstDig_zero _ ht)
    go_enter Tryz.func110, Tryz.ntmps110
    go_wp2_with (first | (go_at_call 112; refine (trim_any _ _ hs).mono ?_; rintro e w' ⟨rfl, rfl⟩) | (go_at_call 113; refine (isDigit_any _ _).mono ?_; rintro e w' ⟨rfl, rfl⟩))
    go_ret
    exact ⟨ret_bool (by rw [← hb.out, hf.out]), rfl⟩
theorem take_snoc (s : ByteArray) (k : Nat) (h : k < s.size) : s.data.toList.take (k + 1) = s.data.toList.take k ++ [s[k]] := by
  rw [List.take_succ_eq_append_getElem (by simpa using h)]; rfl
theorem size_toList (s : ByteArray) : s.data.toList.length = s.size := by simp
def nb (c : UInt8) : Bool := nameByteI c.toNat
theorem nb_snoc (s : ByteArray) (k : Nat) (h : k < s.size) : (s.data.toList.take (k + 1)).all nb = ((s.data.toList.take k).all nb && nameByteI s[k].toNat) := by
  rw [take_snoc s k h]; simp [nb]
theorem nb_bad (s : ByteArray) (k : Nat) (h : k < s.size) (hb : nameByteI s[k].toNat = false) : s.data.toList.all nb = false := by
  have : s.data.toList.all nb = ((s.data.toList.take (k + 1)).all nb && (s.data.toList.drop (k + 1)).all nb) := by
    rw [← List.all_append, List.take_append_drop]
  rw [this, nb_snoc s k h, hb]; simp
theorem nameB_eq (l : List UInt8) : nameB l = (decide (1 ≤ l.length) && decide (l.length ≤ 16) && !begins l && l.all nb) := rfl
set_option maxHeartbeats 400000 in
theorem isName_any (s : ByteArray) (w : World) (hs : s.size ≤ 9223372036854775807) :
    Calls Tryz.prog 108 #[.string s] w fun e w' => e = .returned (.bool (nameB s.data.toList)) ∧ w' = w := by
  have hN := hid (nameB_eq s.data.toList)
  by_cases h1 : (s.size : Int) < 1
  · go_enter Tryz.func108, Tryz.ntmps108
    go_wp2_with fail
    go_ret
    refine ⟨ret_bool ?_, rfl⟩
    rw [hN.out, size_toList]; simp; omega
  by_cases h2 : (16 : Int) < s.size
  · go_enter Tryz.func108, Tryz.ntmps108
    go_wp2_with fail
    go_ret
    refine ⟨ret_bool ?_, rfl⟩
    rw [hN.out, size_toList]; simp; omega
  by_cases h3 : begins s.data.toList = true
  · go_enter Tryz.func108, Tryz.ntmps108
    go_wp2_with (go_at_call 110; refine (begins_any _ _ hs).mono ?_; rintro e w' ⟨rfl, rfl⟩)
    go_ret
    refine ⟨ret_bool ?_, rfl⟩
    rw [hN.out, size_toList]; simp [h3]
  have h3' : begins s.data.toList = false := by simpa using h3
  clear h3
  go_enter Tryz.func108, Tryz.ntmps108
  go_wp2_with (go_at_call 110; refine (begins_any _ _ hs).mono ?_; rintro e w' ⟨rfl, rfl⟩)
  go_loop [18] (fun i => ∃ k : Nat, k ≤ s.size ∧ i = .int .i64 k ∧ (s.data.toList.take k).all nb = true) (fun i => s.size - (intOf i).toNat)
  case atStart => exact ⟨0, Nat.zero_le _, rfl, by simp⟩
  case round =>
    obtain ⟨k, hk, rfl, hall⟩ := hrel
    have HA := hid hall
    clear hall
    by_cases hlt : k < s.size
    · have h255 : ((s[k].toNat : Nat) : Int) ≤ 255 := by have := s[k].toNat_lt; omega
      by_cases hb : nameByteI s[k].toNat = true
      · have HS := hid (nb_snoc s k hlt)
        have hb2 := hid hb
        go_wp2_with (go_at_call 111; refine (isNameByte_any _ _ (by omega) (by omega)).mono ?_; rintro e w' ⟨rfl, rfl⟩)
        go_round
        case rel => exact ⟨k + 1, by omega, by go_num, by rw [HS.out, HA.out, hb2.out]; rfl⟩
        case measure => simp [intOf]; omega
      · have hb' : nameByteI s[k].toNat = false := by simpa using hb
        clear hb
        have HB := hid (nb_bad s k hlt hb')
        go_wp2_with (go_at_call 111; refine (isNameByte_any _ _ (by omega) (by omega)).mono ?_; rintro e w' ⟨rfl, rfl⟩)
        go_ret
        exact ⟨ret_bool (by rw [hN.out, HB.out]; simp), rfl⟩
    · go_wp2
      go_ret
      refine ⟨ret_bool ?_, rfl⟩
      have : s.data.toList.take k = s.data.toList := List.take_of_length_le (by simp; omega)
      rw [hN.out, ← this, HA.out, this, h3', size_toList]; simp; omega
end Go.Proofs.YtldmanfgmadbfaaGreatDoor.UU
namespace Go.Proofs.YtldmanfgmadbfaaGreatDoor.UU
set_option maxRecDepth 100000
open Go.RowKit
set_option maxHeartbeats 400000 in
theorem digit_any (c : Int) (w : World) :
    Calls Tryz.prog 61 #[.int .u8 c] w fun e w' => e = .returned (.bool (digI c)) ∧ w' = w := by
  go_enter Tryz.func61, Tryz.ntmps61
  go_wp2
  all_goals (go_ret; exact ⟨ret_bool (by rw [Bool.eq_iff_iff]; simp [digI]; omega), rfl⟩)
set_option maxHeartbeats 400000 in
theorem In_any (n a b : Int) (w : World) :
    Calls Tryz.prog 31 #[.int .i64 n, .int .i64 a, .int .i64 b] w fun e w' => e = .returned (.bool (inI a n b)) ∧ w' = w := by
  go_enter Tryz.func31, Tryz.ntmps31
  go_wp2
  all_goals (go_ret; exact ⟨ret_bool (by rw [Bool.eq_iff_iff]; simp [inI]; omega), rfl⟩)
end Go.Proofs.YtldmanfgmadbfaaGreatDoor.UU
namespace Go.Proofs.YtldmanfgmadbfaaGreatDoor.UU
set_option maxRecDepth 100000
open Go.RowKit
def signs : List Int := [43, 45, 42, 47, 60, 62, 61, 63, 33, 95]
def okTo (c : Int) (k : Nat) : Bool := (digI c || smallI c) || (signs.take k).any (fun x => c == x)
theorem okTo_zero (c : Int) : okTo c 0 = (digI c || smallI c) := by simp [okTo]
theorem okTo_ten (c : Int) : okTo c 10 = nameByteI c := by
  unfold okTo nameByteI signI signs
  cases digI c <;> cases smallI c <;> simp [Bool.or_assoc]
theorem okTo_succ (c : Int) (k : Nat) (h : k < signs.length) : okTo c (k + 1) = (okTo c k || c == signs[k]) := by
  unfold okTo
  rw [List.take_succ_eq_append_getElem h, List.any_append]
  simp only [List.any_cons, List.any_nil, Bool.or_false, Bool.or_assoc]
theorem begins_zero (s : ByteArray) (h : 0 < s.size) (hd : digI s[0].toNat = true) : begins s.data.toList = true := by
  obtain ⟨⟨l⟩⟩ := s
  cases l with
  | nil => exact absurd (show 0 < ([] : List UInt8).length from h) (by simp)
  | cons c r =>
    have hd' : digI c.toNat = true := hd
    simp [begins, hd']
theorem begins_other (s : ByteArray) (h : 0 < s.size) (hd : digI s[0].toNat = false) (hm : ((s[0].toNat : Int) == 45) = false) : begins s.data.toList = false := by
  obtain ⟨⟨l⟩⟩ := s
  cases l with
  | nil => rfl
  | cons c r =>
    have hd' : digI c.toNat = false := hd
    have hm' : ((c.toNat : Int) == 45) = false := hm
    simp [begins, hd', hm']
theorem begins_one (s : ByteArray) (h : 0 < s.size) (hd : digI s[0].toNat = false) (h1 : ¬ 1 < s.size) : begins s.data.toList = false := by
  obtain ⟨⟨l⟩⟩ := s
  cases l with
  | nil => rfl
  | cons c r =>
    cases r with
    | nil => have hd' : digI c.toNat = false := hd; simp [begins, hd']
    | cons d q => exact absurd (show 1 < (c :: d :: q).length by simp) h1
theorem begins_two (s : ByteArray) (h : 0 < s.size) (hd : digI s[0].toNat = false) (hm : ((s[0].toNat : Int) == 45) = true) (h1 : 1 < s.size) : begins s.data.toList = digI s[1].toNat := by
  obtain ⟨⟨l⟩⟩ := s
  cases l with
  | nil => exact absurd (show 1 < ([] : List UInt8).length from h1) (by simp)
  | cons c r =>
    cases r with
    | nil => exact absurd (show 1 < ([c] : List UInt8).length from h1) (by simp)
    | cons d q =>
      have hd' : digI c.toNat = false := hd
      have hm' : ((c.toNat : Int) == 45) = true := hm
      have e : (ByteArray.mk (c :: d :: q).toArray)[1] = d := rfl
      simp [begins, hd', hm']
      rfl
theorem sign_at (c : Int) (m : Nat) (h : m < 10) : (c == (((ByteArray.mk #[43, 45, 42, 47, 60, 62, 61, 63, 33, 95])[m]'h).toNat : Int)) = (c == signs[m]'h) := by
  have : ∀ m : Fin 10, ((((ByteArray.mk #[43, 45, 42, 47, 60, 62, 61, 63, 33, 95])[m.val]'m.isLt).toNat : Nat) : Int) = signs[m.val]'m.isLt := by decide
  rw [this ⟨m, h⟩]
theorem nameB_short (s : ByteArray) (h : inI 1 s.size 16 = false) : nameB s.data.toList = false := by
  rw [nameB_eq, size_toList]
  simp [inI] at h ⊢
  intro a b
  exact absurd (h (by omega)) (by omega)
theorem nameB_begins (s : ByteArray) (h : begins s.data.toList = true) : nameB s.data.toList = false := by
  rw [nameB_eq, h]; simp
theorem nameB_full (s : ByteArray) (h1 : inI 1 s.size 16 = true) (hb : begins s.data.toList = false) (k : Nat) (hk : ¬ k < s.size) (ha : (s.data.toList.take k).all nb = true) : nameB s.data.toList = true := by
  have e : s.data.toList.take k = s.data.toList := List.take_of_length_le (by simp; omega)
  rw [e] at ha
  rw [nameB_eq, size_toList, ha, hb]
  simp [inI] at h1 ⊢
  omega
theorem nameB_bad (s : ByteArray) (k : Nat) (h : k < s.size) (hb : nameByteI s[k].toNat = false) : nameB s.data.toList = false := by
  rw [nameB_eq, nb_bad s k h hb]; simp
theorem okTo_start1 (c : Int) (h : digI c = true) : true = okTo c 0 := by rw [okTo_zero, h]; rfl
theorem okTo_start2 (c : Int) (h : ¬ digI c = true) (h2 : 97 ≤ c) : decide (c ≤ 122) = okTo c 0 := by rw [okTo_zero, Bool.eq_false_iff.2 h]; simp [smallI, h2]
theorem okTo_start3 (c : Int) (h : ¬ digI c = true) (h2 : c < 97) : false = okTo c 0 := by rw [okTo_zero, Bool.eq_false_iff.2 h]; simp [smallI]; omega
set_option maxHeartbeats 2000000 in
theorem NameMay_any (s : ByteArray) (w : World) (hs : s.size ≤ 9223372036854775807) :
    Calls Tryz.prog 36 #[.string s] w fun e w' => e = .returned (.bool (nameB s.data.toList)) ∧ ∃ n, w' = w.drewN n := by
  cases h1 : inI 1 s.size 16
  · have HN := hid (nameB_short s h1)
    go_enter Tryz.func36, Tryz.ntmps36
    go_wp2_with (go_at_call 31; refine (In_any _ _ _ _).mono ?_; rintro e w' ⟨rfl, hw⟩; obtain rfl := hw.symm)
    go_ret
    exact ⟨ret_bool HN.out.symm, 0, rfl⟩
  have hz : 0 < s.size := by simp [inI] at h1; omega
  cases hd : digI s[0].toNat
  case true =>
    have HN := hid (nameB_begins s (begins_zero s hz hd))
    go_enter Tryz.func36, Tryz.ntmps36
    go_wp2_with (first | (go_at_call 31; refine (In_any _ _ _ _).mono ?_; rintro e w' ⟨rfl, hw⟩; obtain rfl := hw.symm) | (go_at_call 61; refine (digit_any _ _).mono ?_; rintro e w' ⟨rfl, hw⟩; obtain rfl := hw.symm))
    go_ret
    exact ⟨ret_bool HN.out.symm, 0, rfl⟩
  by_cases hbad : ∃ h : 1 < s.size, ((s[0].toNat : Int) == 45) = true ∧ digI s[1].toNat = true
  · obtain ⟨hb1, hb2, hb3⟩ := hbad
    have HN := hid (nameB_begins s ((begins_two s hz hd hb2 hb1).trans hb3))
    have hb4 : (1 : Int) < s.size := by omega
    go_enter Tryz.func36, Tryz.ntmps36
    go_wp2_with (first | (go_at_call 31; refine (In_any _ _ _ _).mono ?_; rintro e w' ⟨rfl, hw⟩; obtain rfl := hw.symm) | (go_at_call 61; refine (digit_any _ _).mono ?_; rintro e w' ⟨rfl, hw⟩; obtain rfl := hw.symm))
    go_ret
    exact ⟨ret_bool HN.out.symm, 0, rfl⟩
  have hcase : ((s[0].toNat : Int) == 45) = false ∨ (((s[0].toNat : Int) == 45) = true ∧ (s.size : Int) ≤ 1) ∨ ∃ h : 1 < s.size, (((s[0].toNat : Int) == 45) = true ∧ (1 : Int) < s.size ∧ digI s[1].toNat = false) := by
    cases hm : ((s[0].toNat : Int) == 45)
    · exact Or.inl rfl
    · by_cases h2 : 1 < s.size
      · refine Or.inr (Or.inr ⟨h2, rfl, by omega, ?_⟩)
        cases h3 : digI s[1].toNat
        · rfl
        · exact absurd ⟨h2, hm, h3⟩ hbad
      · exact Or.inr (Or.inl ⟨rfl, by omega⟩)
  have HB : Hid (begins s.data.toList = false) := by
    rcases hcase with h | ⟨_, h⟩ | ⟨h, h2, _, h4⟩
    · exact begins_other s hz hd h
    · exact begins_one s hz hd (by omega)
    · exact (begins_two s hz hd h2 h).trans h4
  clear hbad
  rcases hcase with hc1 | ⟨hc1, hc2⟩ | ⟨hc0, hc1, hc2, hc3⟩
  all_goals
    go_enter Tryz.func36, Tryz.ntmps36
    go_wp2_with (first | (go_at_call 31; refine (In_any _ _ _ _).mono ?_; rintro e w' ⟨rfl, hw⟩; obtain rfl := hw.symm) | (go_at_call 61; refine (digit_any _ _).mono ?_; rintro e w' ⟨rfl, hw⟩; obtain rfl := hw.symm))
    go_loopw [3] (fun i wr => ∃ k : Nat, k ≤ s.size ∧ i = .int .i64 k ∧ (s.data.toList.take k).all nb = true ∧ ∃ n, wr = w.drewN n) (fun i _ => s.size - (intOf i).toNat)
    case atStart => exact ⟨0, Nat.zero_le _, rfl, by simp, 0, rfl⟩
    case round =>
      obtain ⟨k, hk, rfl, hall, n, rfl⟩ := hrel
      have HA := hid hall
      clear hall
      by_cases hlt : k < s.size
      · go_wp2_with (first | (go_at_call 61; refine (digit_any _ _).mono ?_; rintro e w' ⟨rfl, hw⟩; obtain rfl := hw.symm))
        all_goals
          go_loopw [4, 5] (fun o i wr => ∃ m : Nat, m ≤ 10 ∧ i = .int .i64 m ∧ o = .bool (okTo s[k].toNat m) ∧ ∃ n, wr = w.drewN n) (fun _ i _ => 10 - (intOf i).toNat)
          case atStart => exact ⟨0, by omega, rfl, congrArg Value.bool (by first | exact okTo_start1 _ ‹_› | exact okTo_start2 _ ‹_› ‹_› | exact okTo_start3 _ ‹_› ‹_›), _, rfl⟩
          case round =>
            obtain ⟨m, hm10, rfl, rfl, n2, rfl⟩ := hrel
            by_cases hm : m < 10
            · have HO := hid (okTo_succ s[k].toNat m hm)
              cases hb : okTo s[k].toNat m
              · go_wp2_with fail
                go_quiet (fail)
                go_wp2
                go_roundw
                case rel => exact ⟨m + 1, by omega, by go_num, congrArg Value.bool (by rw [HO.out, hb, sign_at _ m hm]; rfl), _, rfl⟩
                case measure => simp [intOf]; omega
              · go_wp2_with fail
                go_quiet (fail)
                go_wp2
                go_roundw
                case rel => exact ⟨m + 1, by omega, by go_num, congrArg Value.bool (by rw [HO.out, hb]; rfl), _, rfl⟩
                case measure => simp [intOf]; omega
            · obtain rfl : m = 10 := by omega
              have HT := hid (okTo_ten s[k].toNat)
              cases hb : okTo s[k].toNat 10
              · have HN := hid (nameB_bad s k hlt (HT.out.symm.trans hb))
                go_wp2
                go_ret
                exact ⟨ret_bool HN.out.symm, _, rfl⟩
              · have HS := hid (nb_snoc s k hlt)
                have HC := hid (HT.out.symm.trans hb)
                go_wp2
                go_roundw
                case rel => exact ⟨k + 1, by omega, by go_num, by rw [HS.out, HA.out, HC.out]; rfl, _, rfl⟩
                case measure => simp [intOf]; omega
      · have HN := hid (nameB_full s h1 HB.out k hlt HA.out)
        go_wp2
        go_ret
        exact ⟨ret_bool HN.out.symm, ⟨_, rfl⟩⟩
end Go.Proofs.YtldmanfgmadbfaaGreatDoor.UU
namespace Go.Proofs.YtldmanfgmadbfaaGreatDoor.UU
set_option maxRecDepth 100000
open Go.RowKit
def moreB (k n : Int) (s : ByteArray) (len : Nat) : Bool := (n != 0 && !(k == 1 || k == 2)) || (!s.toList.isEmpty && k != 3) || (decide (0 < len) && k != 4)
set_option maxHeartbeats 1000000 in
theorem hasMore_any (k n : Int) (s : ByteArray) (a : Option Addr) (len cap : Nat) (w : World) :
    Calls Tryz.prog 109 #[.agg #[.int .i64 k, .int .i64 n, .string s, .slice a len cap]] w fun e w' => e = .returned (.bool (moreB k n s len)) ∧ Below w.heap.size w w' := by
  go_enter Tryz.func109, Tryz.ntmps109
  go_wp2
  all_goals (go_ret; refine ⟨ret_bool ?_, (Below.refl _ _).alloc (Nat.le_refl _) _⟩; simp [moreB, *])
def aloneI (k n : Int) (s : ByteArray) (len : Nat) (o : Int) : Int :=
  if k < 1 ∨ 4 < k then 3 else if 40 ≤ o then 8 else if k = 1 ∧ inI (-1099511627776) n 1099511627776 = false then 2
  else if k = 2 ∧ ¬ n = 0 ∧ ¬ n = 1 then 2 else if k = 3 ∧ nameB s.data.toList = false then 4 else if moreB k n s len = true then 4 else 0
set_option maxHeartbeats 1000000 in
theorem alone_any (k n : Int) (s : ByteArray) (a : Option Addr) (len cap : Nat) (o : Int) (w : World) (hs : s.size ≤ 9223372036854775807) :
    Calls Tryz.prog 106 #[.agg #[.int .i64 k, .int .i64 n, .string s, .slice a len cap], .int .i64 o] w fun e w' => e = .returned (.int .i64 (aloneI k n s len o)) ∧ Below w.heap.size w w' := by
  go_enter Tryz.func106, Tryz.ntmps106
  go_wp2_with (first | (go_at_call 107; refine (fits_any _ _).mono ?_; rintro e w' ⟨rfl, hw⟩; obtain rfl := hw.symm) | (go_at_call 108; refine (isName_any _ _ hs).mono ?_; rintro e w' ⟨rfl, hw⟩; obtain rfl := hw.symm) | (go_at_call 109; refine (hasMore_any _ _ _ _ _ _ _).mono ?_; rintro e w' ⟨rfl, hb⟩))
  all_goals (go_ret; refine ⟨ret_int ?_, ?_⟩)
  all_goals first | exact (Below.refl _ _).alloc (Nat.le_refl _) _ | exact ((Below.refl _ _).alloc (Nat.le_refl _) _).trans (hb.mono (by simp)) | skip
  all_goals (go_light; simp_all [aloneI])
  all_goals (rw [if_neg (by omega), if_neg (by omega)])
end Go.Proofs.YtldmanfgmadbfaaGreatDoor.UU
namespace Go.Proofs.YtldmanfgmadbfaaGreatDoor.UU
set_option maxRecDepth 100000
open Go.RowKit
theorem bcell {W w1 : World} {B : Nat} (hb : Below B W w1) : (∀ b o, b < B → w1.cell? ⟨b, o, none⟩ = W.cell? ⟨b, o, none⟩) ∧ (∀ b o, b < B → w1.frozen? ⟨b, o, none⟩ = W.frozen? ⟨b, o, none⟩) :=
  ⟨fun b o h => hb.cell (p := ⟨b, o, none⟩) h, fun b o h => hb.frozen (p := ⟨b, o, none⟩) h⟩
def firstI (f : Nat → Int) : Nat → Nat → Int
  | _, 0 => 0
  | i, m + 1 => if f i = 0 then firstI f (i + 1) m else f i
def elemI (W : World) (g : Int → Int → ByteArray → Option Addr → Nat → Int) (a : Option Addr) (i : Nat) : Int :=
  match a with
  | none => 0
  | some p =>
    match W.cell? ⟨p.block, p.off + i * 4, none⟩, W.cell? ⟨p.block, p.off + i * 4 + 1, none⟩, W.cell? ⟨p.block, p.off + i * 4 + 2, none⟩, W.cell? ⟨p.block, p.off + i * 4 + 3, none⟩ with
    | some (.int _ k), some (.int _ n), some (.string s), some (.slice a' len _) => g k n s a' len
    | _, _, _, _ => 0
def fltI (W : World) : Nat → Int → Int → ByteArray → Option Addr → Nat → Int
  | 0, k, n, s, _, len => aloneI k n s len 40
  | d + 1, k, n, s, a, len => if aloneI k n s len (39 - d) = 0 then firstI (elemI W (fltI W d) a) 0 len else aloneI k n s len (39 - d)
def Fine (W : World) (B : Nat) : Nat → ByteArray → Option Addr → Nat → Prop
  | 0, s, _, len => s.size ≤ 9223372036854775807 ∧ len ≤ 9223372036854775807
  | d + 1, s, a, len => s.size ≤ 9223372036854775807 ∧ len ≤ 9223372036854775807 ∧ ∀ i, i < len → ∃ b o k n s' a' len' cap', a = some ⟨b, o, none⟩ ∧ b < B ∧
      W.cell? ⟨b, o + i * 4, none⟩ = some (.int .i64 k) ∧ W.cell? ⟨b, o + i * 4 + 1, none⟩ = some (.int .i64 n) ∧ W.cell? ⟨b, o + i * 4 + 2, none⟩ = some (.string s') ∧
      W.cell? ⟨b, o + i * 4 + 3, none⟩ = some (.slice a' len' cap') ∧ Fine W B d s' a' len'
theorem Fine.size {W : World} {B d : Nat} {s : ByteArray} {a : Option Addr} {len : Nat} (h : Fine W B d s a len) : s.size ≤ 9223372036854775807 := by
  cases d <;> exact h.1
theorem Fine.len {W : World} {B d : Nat} {s : ByteArray} {a : Option Addr} {len : Nat} (h : Fine W B d s a len) : len ≤ 9223372036854775807 := by
  cases d
  · exact h.2
  · exact h.2.1
theorem alone_deep (k n : Int) (s : ByteArray) (len : Nat) : ¬ aloneI k n s len 40 = 0 := by
  unfold aloneI
  split
  · decide
  · simp
theorem firstI_start (f : Nat → Int) (len : Nat) : firstI f 0 len = firstI f 0 (len - 0) := rfl
theorem firstI_step (f : Nat → Int) (len j : Nat) (h : j < len) (h0 : f j = 0) : firstI f j (len - j) = firstI f (j + 1) (len - (j + 1)) := by
  obtain ⟨m, hm⟩ : ∃ m, len - j = m + 1 := ⟨len - j - 1, by omega⟩
  rw [hm, show len - (j + 1) = m from by omega]
  simp [firstI, h0]
theorem firstI_stop (f : Nat → Int) (len j : Nat) (h : j < len) (h0 : ¬ f j = 0) : firstI f j (len - j) = f j := by
  obtain ⟨m, hm⟩ : ∃ m, len - j = m + 1 := ⟨len - j - 1, by omega⟩
  rw [hm]
  simp [firstI, h0]
theorem firstI_end (f : Nat → Int) (len j : Nat) (h : ¬ j < len) : firstI f j (len - j) = 0 := by
  rw [show len - j = 0 from by omega]; rfl
theorem fltI_pos (W : World) (d : Nat) (k n : Int) (s : ByteArray) (a : Option Addr) (len : Nat) (h : aloneI k n s len (39 - d) = 0) : fltI W (d + 1) k n s a len = firstI (elemI W (fltI W d) a) 0 len := by
  simp only [fltI]; rw [if_pos h]
theorem fltI_neg (W : World) (d : Nat) (k n : Int) (s : ByteArray) (a : Option Addr) (len : Nat) (h : ¬ aloneI k n s len (39 - d) = 0) : fltI W (d + 1) k n s a len = aloneI k n s len (39 - d) := by
  simp only [fltI]; rw [if_neg h]
theorem elemI_eq {W : World} {b q j : Nat} {k n : Int} {s : ByteArray} {a : Option Addr} {len cap : Nat} (g : Int → Int → ByteArray → Option Addr → Nat → Int)
    (c0 : W.cell? ⟨b, q + j * 4, none⟩ = some (.int .i64 k)) (c1 : W.cell? ⟨b, q + j * 4 + 1, none⟩ = some (.int .i64 n)) (c2 : W.cell? ⟨b, q + j * 4 + 2, none⟩ = some (.string s)) (c3 : W.cell? ⟨b, q + j * 4 + 3, none⟩ = some (.slice a len cap)) :
    elemI W g (some ⟨b, q, none⟩) j = g k n s a len := by
  unfold elemI
  simp [c0, c1, c2, c3]
set_option maxHeartbeats 1000000 in
theorem within_any (W : World) (B : Nat) (d : Nat) : ∀ (k n : Int) (s : ByteArray) (a : Option Addr) (len cap : Nat) (o : Int) (w : World), 0 ≤ o → o + d = 40 → Below B W w → B ≤ w.heap.size → Fine W B d s a len →
    Calls Tryz.prog 105 #[.agg #[.int .i64 k, .int .i64 n, .string s, .slice a len cap], .int .i64 o] w fun e w' => e = .returned (.int .i64 (fltI W d k n s a len)) ∧ Below w.heap.size w w' := by
  induction d with
  | zero =>
    intro k n s a len cap o w ho hd hW hB hF
    have hs := hF.size
    obtain rfl : o = 40 := by simpa using hd
    have hal := hid (alone_deep k n s len)
    generalize hE : aloneI k n s len 40 = E at hal
    have hal' : ¬ E = 0 := hal.out
    have HE := hid hE
    clear hE
    go_enter Tryz.func105, Tryz.ntmps105
    go_wp2_with (go_at_call 106; refine (alone_any _ _ _ _ _ _ _ _ hs).mono ?_; rintro e w' ⟨rfl, hb⟩; rw [HE.out])
    go_ret
    exact ⟨ret_int HE.out.symm, ((Below.refl _ _).alloc (Nat.le_refl _) _).trans (hb.mono (by simp))⟩
  | succ d ih =>
    intro k n s a len cap o w ho hd hW hB hF
    have hs := hF.size
    have hl := hF.len
    obtain rfl : o = 39 - (d : Int) := by omega
    by_cases hE : aloneI k n s len (39 - d) = 0
    · go_enter Tryz.func105, Tryz.ntmps105
      go_wp2_with (go_at_call 106; refine (alone_any _ _ _ _ _ _ _ _ hs).mono ?_; rintro e w' ⟨rfl, hb⟩; obtain ⟨hc, hf⟩ := bcell hb)
      clear hc hf
      have HE := hid hE
      clear hE
      go_loopw [18] (fun i wr => ∃ j : Nat, j ≤ len ∧ i = .int .i64 j ∧ firstI (elemI W (fltI W d) a) 0 len = firstI (elemI W (fltI W d) a) j (len - j) ∧ Below (w.heap.size + 1) (w.alloc (.cells #[.int .i64 k, .int .i64 n, .string s, .slice a len cap] 162)) wr) (fun i _ => len - (intOf i).toNat)
      case atStart => exact ⟨0, Nat.zero_le _, rfl, rfl, hb.mono (by simp)⟩
      case round =>
        obtain ⟨j, hj, rfl, hfi, hbr⟩ := hrel
        have HF := hid hfi
        clear hfi
        by_cases hlt : j < len
        · obtain ⟨b, q, k', n', s', a', len', cap', rfl, hbB, c0, c1, c2, c3, hF'⟩ := hF.2.2 j hlt
          have hsz := hbr.size
          simp at hsz
          have hrd : ∀ x, wr.cell? ⟨b, x, none⟩ = W.cell? ⟨b, x, none⟩ := fun x => by
            rw [hbr.cell (p := ⟨b, x, none⟩) (show b < w.heap.size + 1 by omega), (((Below.refl _ _).alloc (Nat.le_refl _) _ : Below w.heap.size w (w.alloc _))).cell (p := ⟨b, x, none⟩) (show b < w.heap.size by omega), hW.cell (p := ⟨b, x, none⟩) hbB]
          have g0 := (hrd _).trans c0
          have g1 := (hrd _).trans c1
          have g2 := (hrd _).trans c2
          have g3 := (hrd _).trans c3
          clear hrd
          have HI := hid (ih k' n' s' a' len' cap')
          have HX := hid (elemI_eq (fltI W d) c0 c1 c2 c3)
          have HS := hid (firstI_step (elemI W (fltI W d) (some ⟨b, q, none⟩)) len j hlt)
          have HT := hid (firstI_stop (elemI W (fltI W d) (some ⟨b, q, none⟩)) len j hlt)
          rw [HX.out] at HS HT
          have HW : Hid (Below B W (wr.alloc (.cells #[.int .i64 k', .int .i64 n', .string s', .slice a' len' cap'] 162))) :=
            (((hW.alloc hB _).trans (hbr.mono (by omega))).alloc (by omega) _)
          clear c0 c1 c2 c3
          generalize fltI W d k' n' s' a' len' = r at HI HX HS HT
          go_wp2_with fail
          have hcall := HI.out (39 - ↑d + 1) _ (by omega) (by omega) HW.out (by simp; omega) hF'
          go_fit hcall
          rintro e w2 ⟨rfl, hb2⟩
          by_cases hr : r = 0
          · have HSS := hid (HS.out hr)
            go_wp2_with fail
            go_roundw
            case rel => exact ⟨j + 1, by omega, by go_num, HF.out.trans HSS.out, ((hbr.alloc hsz _).trans (hb2.mono (by simp; omega)))⟩
            case measure => simp [intOf]; omega
          · have HTT := hid (HT.out hr)
            go_wp2_with fail
            go_ret
            exact ⟨ret_int ((fltI_pos W d k n s _ len HE.out).trans (HF.out.trans HTT.out)).symm, ((Below.refl _ _).alloc (Nat.le_refl _) _).trans (((hbr.alloc hsz _).trans (hb2.mono (by simp; omega))).mono (by omega))⟩
        · have HTT := hid (firstI_end (elemI W (fltI W d) a) len j hlt)
          go_wp2_with fail
          go_ret
          exact ⟨ret_int ((fltI_pos W d k n s _ len HE.out).trans (HF.out.trans HTT.out)).symm, ((Below.refl _ _).alloc (Nat.le_refl _) _).trans (hbr.mono (by omega))⟩
    · go_enter Tryz.func105, Tryz.ntmps105
      go_wp2_with (go_at_call 106; refine (alone_any _ _ _ _ _ _ _ _ hs).mono ?_; rintro e w' ⟨rfl, hb⟩; obtain ⟨hc, hf⟩ := bcell hb)
      go_ret
      exact ⟨ret_int (fltI_neg W d k n s _ len hE).symm, ((Below.refl _ _).alloc (Nat.le_refl _) _).trans (hb.mono (by simp))⟩
end Go.Proofs.YtldmanfgmadbfaaGreatDoor.UU

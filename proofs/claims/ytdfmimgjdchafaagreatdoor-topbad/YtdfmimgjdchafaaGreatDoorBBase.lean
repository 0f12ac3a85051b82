/- What an expression of the bard's leaves; the numbers' texts; texts of trees. -/
import Derived.Test.YtdfmimgjdchafaaGreatDoorShelf
import Derived.Test.YtdfmimgjdchafaaGreatDoorBard2
import Derived.Test.YtdfmimgjdchafaaGreatDoorInv
import Derived.Lib.ItoaMem
import Derived.Lib.AppendIntMem
namespace Go.Proofs.YtdfmimgjdchafaaGreatDoor
set_option maxRecDepth 100000
open Go.RowKit
theorem drewN_below (w : World) (m : Nat) : Below w.heap.size w (w.drewN m) := ⟨rfl, rfl, rfl, Nat.le_refl _, fun _ _ => rfl⟩
/-- The table of Itoa's; its block lies below B. -/
def TabB (w : World) (B : Nat) : Prop := ∃ g, Tryz.prog.globalNamed "internal/strconv.uint64pow10" = some g ∧ g < B ∧ w.var? Tryz.prog "internal/strconv.uint64pow10" = some (Lib.pow10Tab.map fun z => Value.int .u64 z).toArray
theorem TabB.below {w w' : World} {B : Nat} (h : TabB w B) (hb : Below B w w') : TabB w' B := by
  obtain ⟨g, hg, hlt, hv⟩ := h
  refine ⟨g, hg, hlt, ?_⟩
  unfold World.var? at hv ⊢
  rw [hg] at hv ⊢
  simp only [Option.bind_some] at hv ⊢
  rw [hb.block g hlt]
  exact hv
theorem bItoa (n : Int) (h0 : -1099511627776 ≤ n) (h1 : n ≤ 1099511627776) (w : World) {B : Nat} (hT : TabB w B) :
    Calls Tryz.prog 13 #[.int .i64 n] w fun e w' => e = .returned (.string ⟨(Lib.itoa n).toArray⟩) ∧ Below w.heap.size w w' := by
  refine (Tryz.strconv_Itoa n (by omega) (by omega) w (hT.elim fun _ k => k.2.2)).mono ?_
  rintro e w' ⟨rfl, k, os, rfl⟩
  exact ⟨rfl, Lib.below_grow _ _ (Nat.le_refl _) _ _⟩
/-- A step of the bard's: all old stands, but his block and the row of his locals. -/
def Stp (B bb : Nat) (n1 n2 : List ByteArray) (w w' : World) : Prop :=
  ∀ lv, Bard w B bb lv n1 → ∃ lv', Bard w' B bb lv' n2 ∧ Kept bb lv.ownBlock w w' ∧ ∀ g, lv'.ownBlock = some g → lv.ownBlock = some g ∨ w.heap.size ≤ g
theorem Stp.refl (B bb : Nat) (names : List ByteArray) (w : World) : Stp B bb names names w w := fun lv h => ⟨lv, h, Kept.refl _ _ _, fun _ h => Or.inl h⟩
theorem Stp.trans {B bb : Nat} {n1 n2 n3 : List ByteArray} {a b c : World} (h : Stp B bb n1 n2 a b) (k : Stp B bb n2 n3 b c) : Stp B bb n1 n3 a c := by
  intro lv hl
  obtain ⟨lv', h1, h2, h3⟩ := h lv hl
  obtain ⟨lv'', k1, k2, k3⟩ := k lv' h1
  refine ⟨lv'', k1, h2.trans k2 h3, fun g hg => ?_⟩
  rcases k3 g hg with h | h
  · exact h3 g h
  · exact Or.inr (Nat.le_trans h2.size h)
theorem Stp.of_below {B bb : Nat} {names : List ByteArray} {w w' : World} (hB : B ≤ w.heap.size) (h : Below w.heap.size w w') : Stp B bb names names w w' :=
  fun lv hl => ⟨lv, hl.keep hB h, Kept.of_below h (Nat.le_refl _), fun _ h => Or.inl h⟩
theorem Bard.row_ge {w : World} {B bb : Nat} {lv : Value} {names : List ByteArray} (h : Bard w B bb lv names) {g : Nat} (hg : lv.ownBlock = some g) : B ≤ g ∧ g < w.heap.size := rowS_lt h.row hg
/-- A step of the bard's leaves all below B. -/
theorem Stp.below {B bb : Nat} {n1 n2 : List ByteArray} {w w' : World} (h : Stp B bb n1 n2 w w') {lv : Value} (hl : Bard w B bb lv n1) (hB : B ≤ w.heap.size) : Below B w w' := by
  obtain ⟨_, _, h2, _⟩ := h lv hl
  exact h2.below hl.own (fun g hg => (hl.row_ge hg).1) hB
theorem Bard.det {w : World} {B bb : Nat} {lv lv' : Value} {names names' : List ByteArray} (h : Bard w B bb lv names) (k : Bard w B bb lv' names') : lv = lv' := by
  obtain ⟨_, _, _, _, h1, _⟩ := h.blk
  obtain ⟨_, _, _, _, k1, _⟩ := k.blk
  rw [h1] at k1
  injection k1 with k1
  injection k1 with k1 _
  injection k1 with k1
  simp only [List.cons.injEq] at k1
  exact k1.2.1
/-- A block that is not the bard's, nor his row's. -/
structure Apart (B bb b : Nat) (w : World) : Prop where
  lt : b < w.heap.size
  ne : b ≠ bb
  row : ∀ lv names, Bard w B bb lv names → lv.ownBlock ≠ some b
theorem Apart.step {B bb b : Nat} {n1 n2 : List ByteArray} {w w' : World} (h : Apart B bb b w) (hs : Stp B bb n1 n2 w w') {lv : Value} (hl : Bard w B bb lv n1) : Apart B bb b w' ∧ w'.heap[b]? = w.heap[b]? := by
  obtain ⟨lv', h1, h2, h3⟩ := hs lv hl
  refine ⟨⟨Nat.lt_of_lt_of_le h.lt h2.size, h.ne, fun l _ k e => ?_⟩, h2.block b h.lt h.ne (h.row lv _ hl)⟩
  obtain rfl := h1.det k
  rcases h3 b e with h' | h'
  · exact h.row lv _ hl h'
  · have := h.lt
    omega
theorem Apart.cell {B bb b : Nat} {n1 n2 : List ByteArray} {w w' : World} (h : Apart B bb b w) (hs : Stp B bb n1 n2 w w') {lv : Value} (hl : Bard w B bb lv n1) (o : Nat) : w'.cell? ⟨b, o, none⟩ = w.cell? ⟨b, o, none⟩ :=
  World.cell?_of_block (w := w) (h.step hs hl).2
theorem Apart.new {B bb : Nat} {names : List ByteArray} {w : World} {lv : Value} (hl : Bard w B bb lv names) (hB : B ≤ w.heap.size) (o : Obj) : Apart B bb w.heap.size (w.alloc o) := by
  have hlt := hl.lt
  refine ⟨by simp, by omega, fun l _ k e => ?_⟩
  obtain rfl := (hl.keep hB ((Below.refl _ _).alloc (Nat.le_refl _) o)).det k
  have := (hl.row_ge e).2
  omega
/-- What lies before the bard at an expression: his boxes, and the raw thing. -/
structure Desk (w : World) (B bb : Nat) (names : List ByteArray) (p q : Nat) (d k x y z : Int) : Prop where
  bard : ∃ lv, Bard w B bb lv names
  tab : TabB w B
  box : w.cell? ⟨p, 0, none⟩ = some (.pointer (some ⟨bb, 0, none⟩))
  dep : w.cell? ⟨p + 1, 0, none⟩ = some (.int .i64 d)
  c0 : w.cell? ⟨q, 0, none⟩ = some (.int .i64 k)
  c1 : w.cell? ⟨q, 1, none⟩ = some (.int .i64 x)
  c2 : w.cell? ⟨q, 2, none⟩ = some (.int .i64 y)
  c3 : w.cell? ⟨q, 3, none⟩ = some (.int .i64 z)
  a0 : Apart B bb p w
  a1 : Apart B bb (p + 1) w
  a2 : Apart B bb q w
  size : B ≤ w.heap.size
theorem Desk.step {w w' : World} {B bb : Nat} {n1 n2 : List ByteArray} {p q : Nat} {d k x y z : Int} (h : Desk w B bb n1 p q d k x y z) (hs : Stp B bb n1 n2 w w') : Desk w' B bb n2 p q d k x y z := by
  obtain ⟨lv, hl⟩ := h.bard
  obtain ⟨lv', h1, h2, h3⟩ := hs lv hl
  exact ⟨⟨lv', h1⟩, h.tab.below (hs.below hl h.size), (h.a0.cell hs hl 0).trans h.box, (h.a1.cell hs hl 0).trans h.dep, (h.a2.cell hs hl 0).trans h.c0, (h.a2.cell hs hl 1).trans h.c1, (h.a2.cell hs hl 2).trans h.c2, (h.a2.cell hs hl 3).trans h.c3,
    (h.a0.step hs hl).1, (h.a1.step hs hl).1, (h.a2.step hs hl).1, Nat.le_trans h.size h2.size⟩
/-- A row of texts that was made here. -/
structure Arr (B bb b : Nat) (cs : Array Value) (w : World) : Prop where
  blk : w.heap[b]? = some (.cells cs 9 (0, 0))
  apart : Apart B bb b w
theorem Arr.step {B bb b : Nat} {n1 n2 : List ByteArray} {cs : Array Value} {w w' : World} (h : Arr B bb b cs w) (hs : Stp B bb n1 n2 w w') {lv : Value} (hl : Bard w B bb lv n1) : Arr B bb b cs w' :=
  ⟨(h.apart.step hs hl).2.trans h.blk, (h.apart.step hs hl).1⟩
theorem Arr.cell {B bb b : Nat} {cs : Array Value} {w : World} (h : Arr B bb b cs w) (i : Nat) : w.cell? ⟨b, i, none⟩ = cs[i]? := by
  simp [World.cell?, h.blk]
/-- Texts. -/
def InL (L : List UInt8 → Prop) (v : Value) : Prop := ∃ l, v = .string ⟨l.toArray⟩ ∧ L l
def One (s : List UInt8) : List UInt8 → Prop := fun l => l = s
def Tr (D M : Nat) : List UInt8 → Prop := fun l => ∃ t : Tx, l = t.pr ∧ t.fit = true ∧ t.dep ≤ D ∧ l.length ≤ M
def Cat (L M : List UInt8 → Prop) : List UInt8 → Prop := fun l => ∃ a b, l = a ++ b ∧ L a ∧ M b
theorem byt_app (l m : List UInt8) : ByteArray.mk l.toArray ++ ByteArray.mk m.toArray = ⟨(l ++ m).toArray⟩ := by
  apply ByteArray.ext; simp [ByteArray.data_append]
theorem InL.cat {L M : List UInt8 → Prop} {a b : ByteArray} (h : InL L (.string a)) (k : InL M (.string b)) : InL (Cat L M) (.string (a ++ b)) := by
  obtain ⟨l, h1, h2⟩ := h
  obtain ⟨m, k1, k2⟩ := k
  injection h1 with h1
  injection k1 with k1
  subst h1 k1
  exact ⟨l ++ m, by rw [byt_app], l, m, rfl, h2, k2⟩
theorem InL.one (s : List UInt8) : InL (One s) (.string ⟨s.toArray⟩) := ⟨s, rfl, rfl⟩
theorem InL.tr {D E M N : Nat} (h : D ≤ E) (hM : M ≤ N) {v : Value} (k : InL (Tr D M) v) : InL (Tr E N) v := by
  obtain ⟨l, h1, t, h2, h3, h4, h5⟩ := k
  exact ⟨l, h1, t, h2, h3, Nat.le_trans h4 h, Nat.le_trans h5 hM⟩
/-- How long a text may be. -/
def Bnd (L : List UInt8 → Prop) (N : Nat) : Prop := ∀ l, L l → l.length ≤ N
theorem Bnd.one (s : List UInt8) : Bnd (One s) s.length := fun l h => by rw [h]; exact Nat.le_refl _
theorem Bnd.tr (D M : Nat) : Bnd (Tr D M) M := fun _ h => h.elim fun _ h => h.2.2.2
theorem Bnd.cat {L K : List UInt8 → Prop} {N M : Nat} (h : Bnd L N) (k : Bnd K M) : Bnd (Cat L K) (N + M) := by
  rintro l ⟨a, b, rfl, ha, hb⟩
  have := h a ha
  have := k b hb
  simp only [List.length_append]
  omega
theorem Bnd.size {L : List UInt8 → Prop} {N : Nat} (h : Bnd L N) {s : ByteArray} (k : InL L (.string s)) : s.size ≤ N := by
  obtain ⟨l, h1, h2⟩ := k
  injection h1 with h1
  subst h1
  have := h l h2
  show l.toArray.size ≤ N
  simpa using this
theorem word_ok {D M : Nat} (hD : 2 ≤ D) (hM : 20 ≤ M) (l : List UInt8) (h : (wordOk l && cutOk l && decide (l.length ≤ 20)) = true) : InL (Tr D M) (.string ⟨l.toArray⟩) := by
  simp only [Bool.and_eq_true, decide_eq_true_eq] at h
  exact ⟨l, rfl, .w l, rfl, by simp [Tx.fit, h.1.1, h.1.2], by simp [Tx.dep]; omega, by omega⟩
theorem itoa_ok {D M : Nat} (hD : 2 ≤ D) (hM : 20 ≤ M) (n : Int) (h0 : -2 ≤ n) (h1 : n ≤ 9) : InL (Tr D M) (.string ⟨(Lib.itoa n).toArray⟩) := by
  apply word_ok hD hM
  have : n = -2 ∨ n = -1 ∨ n = 0 ∨ n = 1 ∨ n = 2 ∨ n = 3 ∨ n = 4 ∨ n = 5 ∨ n = 6 ∨ n = 7 ∨ n = 8 ∨ n = 9 := by omega
  rcases this with rfl | rfl | rfl | rfl | rfl | rfl | rfl | rfl | rfl | rfl | rfl | rfl <;> decide +kernel
theorem tree_ok {D M : Nat} (t : Tx) (l : List UInt8) (h : l = t.pr) (h1 : t.fit = true) (h2 : t.dep ≤ D) (h3 : l.length ≤ M) : InL (Tr D M) (.string ⟨l.toArray⟩) := ⟨l, rfl, t, h, h1, h2, h3⟩
/-- A row of n texts of trees that was made here. -/
def RowT (B bb b n D M : Nat) (w : World) : Prop := ∃ cs, Arr B bb b cs w ∧ cs.size = n ∧ ∀ (i : Nat) u, cs[i]? = some u → InL (Tr D M) u
theorem RowT.step {B bb b n D M : Nat} {n1 n2 : List ByteArray} {w w' : World} (h : RowT B bb b n D M w) (hs : Stp B bb n1 n2 w w') {lv : Value} (hl : Bard w B bb lv n1) : RowT B bb b n D M w' := by
  obtain ⟨cs, h1, h2⟩ := h
  exact ⟨cs, h1.step hs hl, h2⟩
theorem RowT.cell {B bb b n D M : Nat} {w : World} (h : RowT B bb b n D M w) {i : Nat} (hi : i < n) : ∃ u, w.cell? ⟨b, i, none⟩ = some u ∧ InL (Tr D M) u := by
  obtain ⟨cs, h1, h2, h3⟩ := h
  have : cs[i]? = some cs[i] := Array.getElem?_eq_getElem (by omega)
  exact ⟨_, (h1.cell i).trans this, h3 i _ this⟩
/-- What the names may be. -/
structure NamesOk (names : List ByteArray) (m : Nat) : Prop where
  pos : 0 < names.length
  len : names.length ≤ m
  ok : ∀ nm, nm ∈ names → InL (Tr 2 20) (.string nm)
end Go.Proofs.YtdfmimgjdchafaaGreatDoor

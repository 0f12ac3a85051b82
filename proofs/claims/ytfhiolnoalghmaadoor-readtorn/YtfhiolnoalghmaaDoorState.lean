/- The reader in memory, what a call of it leaves alone, and a datum in memory. -/
import Derived.Test.YtfhiolnoalghmaaDoorParse
import Derived.WalkKit
import Derived.Deep.Draws
namespace Go.Proofs.YtfhiolnoalghmaaDoor
open Go.RowKit
/-- A reader lies in block rb: the text, the place, how many began. -/
structure R (w : World) (rb : Nat) (s : ByteArray) (p c : Nat) : Prop where
  c0 : w.cell? ⟨rb, 0, none⟩ = some (.string s)
  c1 : w.cell? ⟨rb, 1, none⟩ = some (.int .i64 p)
  c2 : w.cell? ⟨rb, 2, none⟩ = some (.int .i64 c)
  f1 : w.frozen? ⟨rb, 1, none⟩ = false
  f2 : w.frozen? ⟨rb, 2, none⟩ = false
/-- All that was there is as it was, but for block rb. -/
structure Past (rb : Nat) (w w' : World) : Prop where
  os : w'.os = w.os
  tape : w'.tape = w.tape
  output : w'.output = w.output
  size : w.heap.size ≤ w'.heap.size
  block : ∀ k, k < w.heap.size → ¬ k = rb → w'.heap[k]? = w.heap[k]?
theorem Past.refl (rb : Nat) (w : World) : Past rb w w := ⟨rfl, rfl, rfl, Nat.le_refl _, fun _ _ _ => rfl⟩
theorem Past.trans {rb : Nat} {a b c : World} (h : Past rb a b) (k : Past rb b c) : Past rb a c :=
  ⟨k.os.trans h.os, k.tape.trans h.tape, k.output.trans h.output, Nat.le_trans h.size k.size, fun i hi hn => (k.block i (Nat.lt_of_lt_of_le hi h.size) hn).trans (h.block i hi hn)⟩
theorem Past.of_below {rb : Nat} {w w' : World} (h : Below w.heap.size w w') : Past rb w w' := ⟨h.os, h.tape, h.output, h.size, fun k hk _ => h.block k hk⟩
theorem Past.drewN {rb : Nat} {a w : World} (h : Past rb a w) (n : Nat) : Past rb a (w.drewN n) := ⟨h.os, h.tape, h.output, h.size, h.block⟩
theorem Past.drew {rb : Nat} {a w : World} (h : Past rb a w) : Past rb a w.drew := ⟨h.os, h.tape, h.output, h.size, h.block⟩
theorem Past.alloc {rb : Nat} {a w : World} (h : Past rb a w) (o : Obj) : Past rb a (w.alloc o) := h.trans (Past.of_below ((Below.refl _ _).alloc (Nat.le_refl _) o))
theorem Past.setCell {rb : Nat} {a w : World} (h : Past rb a w) {p : Addr} (hp : p.block = rb ∨ a.heap.size ≤ p.block) (u : Value) : Past rb a (w.setCell p u) := by
  have e := (Below.refl p.block w).setCell (Nat.le_refl _) u
  refine ⟨e.os.trans h.os, e.tape.trans h.tape, e.output.trans h.output, Nat.le_trans h.size e.size, fun k hk hn => ?_⟩
  rw [Below.heap_setCell w p u k (by omega)]
  exact h.block k hk hn
theorem Past.cell {rb : Nat} {w w' : World} (h : Past rb w w') {p : Addr} (hp : p.block < w.heap.size) (hn : ¬ p.block = rb) : w'.cell? p = w.cell? p := World.cell?_of_block (w := w) (h.block p.block hp hn)
theorem Past.frozen {rb : Nat} {w w' : World} (h : Past rb w w') {p : Addr} (hp : p.block < w.heap.size) (hn : ¬ p.block = rb) : w'.frozen? p = w.frozen? p := World.frozen?_of_block (w := w) (h.block p.block hp hn)
theorem Past.below {rb B : Nat} {w w' : World} (h : Past rb w w') (hr : B ≤ rb) (hB : B ≤ w.heap.size) : Below B w w' := ⟨h.os, h.tape, h.output, h.size, fun k hk => h.block k (by omega) (by omega)⟩
theorem R.lt {w : World} {rb : Nat} {s : ByteArray} {p c : Nat} (h : R w rb s p c) : rb < w.heap.size := World.block_lt_of_cell? w _ h.c0
theorem R.of_block {w w' : World} {rb : Nat} {s : ByteArray} {p c : Nat} (h : R w rb s p c) (hb : w'.heap[rb]? = w.heap[rb]?) : R w' rb s p c :=
  ⟨(World.cell?_of_block (w := w) hb).trans h.c0, (World.cell?_of_block (w := w) hb).trans h.c1, (World.cell?_of_block (w := w) hb).trans h.c2,
   (World.frozen?_of_block (w := w) hb).trans h.f1, (World.frozen?_of_block (w := w) hb).trans h.f2⟩
theorem R.below {w w' : World} {rb : Nat} {s : ByteArray} {p c : Nat} (h : R w rb s p c) (hb : Below w.heap.size w w') : R w' rb s p c := h.of_block (hb.block _ h.lt)
theorem R.drewN {w : World} {rb : Nat} {s : ByteArray} {p c : Nat} (h : R w rb s p c) (n : Nat) : R (w.drewN n) rb s p c := ⟨h.c0, h.c1, h.c2, h.f1, h.f2⟩
theorem R.alloc {w : World} {rb : Nat} {s : ByteArray} {p c : Nat} (h : R w rb s p c) (o : Obj) : R (w.alloc o) rb s p c := h.below ((Below.refl _ _).alloc (Nat.le_refl _) o)
theorem R.setPlace {w : World} {rb : Nat} {s : ByteArray} {p c : Nat} (h : R w rb s p c) (q : Nat) (z : Int) (hz : z = q) : R (w.setCell ⟨rb, 1, none⟩ (.int .i64 z)) rb s q c := by
  have g0 := h.c0
  have g1 := h.c1
  have g2 := h.c2
  have g3 := h.f1
  have g4 := h.f2
  subst hz
  constructor <;> go_simp
theorem R.setCount {w : World} {rb : Nat} {s : ByteArray} {p c : Nat} (h : R w rb s p c) (q : Nat) (z : Int) (hz : z = q) : R (w.setCell ⟨rb, 2, none⟩ (.int .i64 z)) rb s p q := by
  have g0 := h.c0
  have g1 := h.c1
  have g2 := h.c2
  have g3 := h.f1
  have g4 := h.f2
  subst hz
  constructor <;> go_simp
theorem R.setOther {w : World} {rb : Nat} {s : ByteArray} {p c : Nat} (h : R w rb s p c) {a : Addr} (ha : ¬ a.block = rb) (u : Value) : R (w.setCell a u) rb s p c :=
  h.of_block (Below.heap_setCell w a u rb (by omega))
/-- Four cells of a variable of one's own. -/
structure Box (w : World) (g : Nat) (v0 v1 v2 v3 : Value) : Prop where
  c0 : w.cell? ⟨g, 0, none⟩ = some v0
  c1 : w.cell? ⟨g, 1, none⟩ = some v1
  c2 : w.cell? ⟨g, 2, none⟩ = some v2
  c3 : w.cell? ⟨g, 3, none⟩ = some v3
  f0 : w.frozen? ⟨g, 0, none⟩ = false
  f1 : w.frozen? ⟨g, 1, none⟩ = false
  f2 : w.frozen? ⟨g, 2, none⟩ = false
  f3 : w.frozen? ⟨g, 3, none⟩ = false
theorem Box.new (w : World) (v0 v1 v2 v3 : Value) (t : TypeId) : Box (w.alloc (.cells #[v0, v1, v2, v3] t)) w.heap.size v0 v1 v2 v3 := by
  constructor <;> go_simp
theorem Box.of_block {w w' : World} {g : Nat} {v0 v1 v2 v3 : Value} (h : Box w g v0 v1 v2 v3) (hb : w'.heap[g]? = w.heap[g]?) : Box w' g v0 v1 v2 v3 :=
  ⟨(World.cell?_of_block (w := w) hb).trans h.c0, (World.cell?_of_block (w := w) hb).trans h.c1, (World.cell?_of_block (w := w) hb).trans h.c2, (World.cell?_of_block (w := w) hb).trans h.c3,
   (World.frozen?_of_block (w := w) hb).trans h.f0, (World.frozen?_of_block (w := w) hb).trans h.f1, (World.frozen?_of_block (w := w) hb).trans h.f2, (World.frozen?_of_block (w := w) hb).trans h.f3⟩
theorem Box.lt {w : World} {g : Nat} {v0 v1 v2 v3 : Value} (h : Box w g v0 v1 v2 v3) : g < w.heap.size := World.block_lt_of_cell? w _ h.c0
theorem Box.below {w w' : World} {g B : Nat} {v0 v1 v2 v3 : Value} (h : Box w g v0 v1 v2 v3) (hb : Below B w w') (hg : g < B) : Box w' g v0 v1 v2 v3 := h.of_block (hb.block _ hg)
theorem Box.past {w w' : World} {g rb : Nat} {v0 v1 v2 v3 : Value} (h : Box w g v0 v1 v2 v3) (hb : Past rb w w') (hg : ¬ g = rb) : Box w' g v0 v1 v2 v3 := h.of_block (hb.block _ h.lt hg)
theorem below_set4 {B g : Nat} {a w : World} (h : Below B a w) (hg : B ≤ g) (x0 x1 x2 x3 : Value) :
    Below B a ((((w.setCell ⟨g, 0, none⟩ x0).setCell ⟨g, 1, none⟩ x1).setCell ⟨g, 2, none⟩ x2).setCell ⟨g, 3, none⟩ x3) :=
  (((h.setCell (p := ⟨g, 0, none⟩) hg _).setCell (p := ⟨g, 1, none⟩) hg _).setCell (p := ⟨g, 2, none⟩) hg _).setCell (p := ⟨g, 3, none⟩) hg _
theorem past_set4 {rb g : Nat} {a w : World} (h : Past rb a w) (hg : a.heap.size ≤ g) (x0 x1 x2 x3 : Value) :
    Past rb a ((((w.setCell ⟨g, 0, none⟩ x0).setCell ⟨g, 1, none⟩ x1).setCell ⟨g, 2, none⟩ x2).setCell ⟨g, 3, none⟩ x3) :=
  (((h.setCell (p := ⟨g, 0, none⟩) (Or.inr hg) _).setCell (p := ⟨g, 1, none⟩) (Or.inr hg) _).setCell (p := ⟨g, 2, none⟩) (Or.inr hg) _).setCell (p := ⟨g, 3, none⟩) (Or.inr hg) _
theorem heap_set4 {g k : Nat} (w : World) (hk : ¬ k = g) (x0 x1 x2 x3 : Value) :
    ((((w.setCell ⟨g, 0, none⟩ x0).setCell ⟨g, 1, none⟩ x1).setCell ⟨g, 2, none⟩ x2).setCell ⟨g, 3, none⟩ x3).heap[k]? = w.heap[k]? := by
  rw [Below.heap_setCell _ _ _ _ hk, Below.heap_setCell _ _ _ _ hk, Below.heap_setCell _ _ _ _ hk, Below.heap_setCell _ _ _ _ hk]
theorem size_set4 {g : Nat} (w : World) (x0 x1 x2 x3 : Value) :
    ((((w.setCell ⟨g, 0, none⟩ x0).setCell ⟨g, 1, none⟩ x1).setCell ⟨g, 2, none⟩ x2).setCell ⟨g, 3, none⟩ x3).heap.size = w.heap.size := by
  simp
theorem R.set4 {w : World} {rb : Nat} {s : ByteArray} {p c g : Nat} (h : R w rb s p c) (hg : ¬ rb = g) (x0 x1 x2 x3 : Value) :
    R ((((w.setCell ⟨g, 0, none⟩ x0).setCell ⟨g, 1, none⟩ x1).setCell ⟨g, 2, none⟩ x2).setCell ⟨g, 3, none⟩ x3) rb s p c := h.of_block (heap_set4 w hg x0 x1 x2 x3)
/-- A datum without a list: its four values. -/
def Leaf (t : DataW Unit) (v0 v1 v2 v3 : Value) : Prop :=
  (∃ n, t = .lit (.int .i64 n) ∧ v0 = .int .i64 1 ∧ v1 = .int .i64 n ∧ v2 = .string ⟨#[]⟩ ∧ v3 = .slice none 0 0) ∨
  (∃ b, t = .lit (.bool b) ∧ v0 = .int .i64 2 ∧ v1 = .int .i64 (if b = true then 1 else 0) ∧ v2 = .string ⟨#[]⟩ ∧ v3 = .slice none 0 0) ∨
  (∃ l, t = .lit (.string l) ∧ v0 = .int .i64 3 ∧ v1 = .int .i64 0 ∧ v2 = .string ⟨l.toArray⟩ ∧ v3 = .slice none 0 0)
/-- Data in a row: item i in the four cells from o + 4 i on of a block in S. -/
def RowD (w : World) (S : Nat → Prop) (D : DataW Unit → Value → Value → Value → Value → Prop) (items : List (DataW Unit)) (a : Option Addr) (len : Nat) : Prop :=
  len = items.length ∧ ∀ i t, items[i]? = some t → ∃ b o u0 u1 u2 u3, a = some ⟨b, o, none⟩ ∧ S b ∧ w.cell? ⟨b, o + i * 4, none⟩ = some u0 ∧ w.cell? ⟨b, o + i * 4 + 1, none⟩ = some u1 ∧
    w.cell? ⟨b, o + i * 4 + 2, none⟩ = some u2 ∧ w.cell? ⟨b, o + i * 4 + 3, none⟩ = some u3 ∧ D t u0 u1 u2 u3
/-- A datum: its four values. -/
def Dat (w : World) (S : Nat → Prop) : Nat → DataW Unit → Value → Value → Value → Value → Prop
  | 0, t, v0, v1, v2, v3 => Leaf t v0 v1 v2 v3
  | d + 1, t, v0, v1, v2, v3 => Leaf t v0 v1 v2 v3 ∨ ∃ items a len cap, t = .slice items [] ∧ v0 = .int .i64 4 ∧ v1 = .int .i64 0 ∧ v2 = .string ⟨#[]⟩ ∧ v3 = .slice a len cap ∧ (len ≤ cap ∧ len ≤ 9223372036854775807) ∧ RowD w S (Dat w S d) items a len
theorem Dat.leaf {w : World} {S : Nat → Prop} {t : DataW Unit} {v0 v1 v2 v3 : Value} (h : Leaf t v0 v1 v2 v3) : ∀ d, Dat w S d t v0 v1 v2 v3
  | 0 => h
  | _ + 1 => Or.inl h
theorem Dat.keep {w w' : World} {S S' : Nat → Prop} (hk : ∀ b, S b → w'.heap[b]? = w.heap[b]? ∧ S' b) : ∀ (d : Nat) {t : DataW Unit} {v0 v1 v2 v3 : Value}, Dat w S d t v0 v1 v2 v3 → Dat w' S' d t v0 v1 v2 v3
  | 0, _, _, _, _, _, h => h
  | d + 1, _, _, _, _, _, h => by
    rcases h with h | ⟨items, a, len, cap, h1, h2, h3, h4, h5, h6, h7, h8⟩
    · exact Or.inl h
    · refine Or.inr ⟨items, a, len, cap, h1, h2, h3, h4, h5, h6, h7, fun i t hi => ?_⟩
      obtain ⟨b, o, u0, u1, u2, u3, ha, hS, c0, c1, c2, c3, hD⟩ := h8 i t hi
      obtain ⟨hb, hS'⟩ := hk b hS
      exact ⟨b, o, u0, u1, u2, u3, ha, hS', (World.cell?_of_block (w := w) hb).trans c0, (World.cell?_of_block (w := w) hb).trans c1, (World.cell?_of_block (w := w) hb).trans c2, (World.cell?_of_block (w := w) hb).trans c3, Dat.keep hk d hD⟩
theorem RowD.keep {w w' : World} {S S' : Nat → Prop} (hk : ∀ b, S b → w'.heap[b]? = w.heap[b]? ∧ S' b) {d : Nat} {items : List (DataW Unit)} {a : Option Addr} {len : Nat} (h : RowD w S (Dat w S d) items a len) : RowD w' S' (Dat w' S' d) items a len := by
  refine ⟨h.1, fun i t hi => ?_⟩
  obtain ⟨b, o, u0, u1, u2, u3, ha, hS, c0, c1, c2, c3, hD⟩ := h.2 i t hi
  obtain ⟨hb, hS'⟩ := hk b hS
  exact ⟨b, o, u0, u1, u2, u3, ha, hS', (World.cell?_of_block (w := w) hb).trans c0, (World.cell?_of_block (w := w) hb).trans c1, (World.cell?_of_block (w := w) hb).trans c2, (World.cell?_of_block (w := w) hb).trans c3, Dat.keep hk d hD⟩
theorem Leaf.shape {t : DataW Unit} {v0 v1 v2 v3 : Value} (h : Leaf t v0 v1 v2 v3) : ∃ k n s, v0 = .int .i64 k ∧ v1 = .int .i64 n ∧ v2 = .string s ∧ v3 = .slice none 0 0 := by
  rcases h with ⟨n, _, rfl, rfl, rfl, rfl⟩ | ⟨b, _, rfl, rfl, rfl, rfl⟩ | ⟨l, _, rfl, rfl, rfl, rfl⟩
  · exact ⟨_, _, _, rfl, rfl, rfl, rfl⟩
  · exact ⟨_, _, _, rfl, rfl, rfl, rfl⟩
  · exact ⟨_, _, _, rfl, rfl, rfl, rfl⟩
theorem Dat.shape {w : World} {S : Nat → Prop} {d : Nat} {t : DataW Unit} {v0 v1 v2 v3 : Value} (h : Dat w S d t v0 v1 v2 v3) : ∃ k n s a len cap, v0 = .int .i64 k ∧ v1 = .int .i64 n ∧ v2 = .string s ∧ v3 = .slice a len cap := by
  cases d with
  | zero =>
    obtain ⟨k, n, s, h0, h1, h2, h3⟩ := Leaf.shape h
    exact ⟨k, n, s, _, _, _, h0, h1, h2, h3⟩
  | succ d =>
    rcases h with h | ⟨items, a, len, cap, _, h0, h1, h2, h3, _⟩
    · obtain ⟨k, n, s, h0, h1, h2, h3⟩ := Leaf.shape h
      exact ⟨k, n, s, _, _, _, h0, h1, h2, h3⟩
    · exact ⟨_, _, _, a, len, cap, h0, h1, h2, h3⟩
/-- How a call that reads a datum ends. -/
def Out (w w' : World) (rb : Nat) (s : ByteArray) (d : Nat) (o : Res) (e : Ending) : Prop :=
  match o with
  | .inl (x, q) => e = .returned (.tuple #[.agg #[.int .i64 0, .int .i64 0, .string ⟨#[]⟩, .slice none 0 0], .int .i64 x]) ∧ ∃ c, R w' rb s (s.size - q.length) c
  | .inr (t, q, c) => ∃ u0 u1 u2 u3, e = .returned (.tuple #[.agg #[u0, u1, u2, u3], .int .i64 0]) ∧ R w' rb s (s.size - q.length) c ∧ Dat w' (fun b => w.heap.size ≤ b ∧ b < w'.heap.size) d t u0 u1 u2 u3
end Go.Proofs.YtfhiolnoalghmaaDoor

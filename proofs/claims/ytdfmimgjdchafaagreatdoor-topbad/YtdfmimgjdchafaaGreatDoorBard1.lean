/- The bard in memory, and its next raw thing. -/
import Derived.Test.YtdfmimgjdchafaaGreatDoorTrees
import Derived.Test.YtdfmimgjdchafaaGreatDoorPicked
import Derived.Test.YtdfmimgjdchafaaGreatDoorLeaf
import Derived.Deep.DeepFit
import Derived.Deep.Draws
import Derived.Lib.SmallJoins
namespace Go.Proofs.YtdfmimgjdchafaaGreatDoor
set_option maxRecDepth 100000
open Go.RowKit
def i64B (n : Int) : Prop := -9223372036854775808 ≤ n ∧ n ≤ 9223372036854775807
/-- Raw things in a row, in blocks below B. -/
def Raws (w : World) (B : Nat) (a : Option Addr) (n : Nat) : Prop :=
  ∀ i, i < n → ∃ b o k x y z, a = some ⟨b, o, none⟩ ∧ b < B ∧ w.cell? ⟨b, o + i * 4, none⟩ = some (.int .i64 k) ∧ w.cell? ⟨b, o + i * 4 + 1, none⟩ = some (.int .i64 x) ∧ w.cell? ⟨b, o + i * 4 + 2, none⟩ = some (.int .i64 y) ∧
    w.cell? ⟨b, o + i * 4 + 3, none⟩ = some (.int .i64 z) ∧ i64B k ∧ i64B x ∧ i64B y ∧ i64B z
theorem Raws.below {w w' : World} {B : Nat} {a : Option Addr} {n : Nat} (h : Raws w B a n) (hb : Below B w w') : Raws w' B a n := by
  intro i hi
  obtain ⟨b, o, k, x, y, z, h1, h2, c0, c1, c2, c3, h3⟩ := h i hi
  exact ⟨b, o, k, x, y, z, h1, h2, (hb.cell (p := ⟨b, _, none⟩) h2).trans c0, (hb.cell (p := ⟨b, _, none⟩) h2).trans c1, (hb.cell (p := ⟨b, _, none⟩) h2).trans c2, (hb.cell (p := ⟨b, _, none⟩) h2).trans c3, h3⟩
theorem Raws.tail {w : World} {B b o n : Nat} (h : Raws w B (some ⟨b, o, none⟩) (n + 1)) : Raws w B (some ⟨b, o + 4, none⟩) n := by
  intro i hi
  obtain ⟨b', o', k, x, y, z, h1, h2, c0, c1, c2, c3, h3⟩ := h (i + 1) (by omega)
  injection h1 with h1
  injection h1 with h11 h12
  subst h11 h12
  exact ⟨b, o + 4, k, x, y, z, rfl, h2, by rw [← c0]; congr 2; omega, by rw [← c1]; congr 2; omega, by rw [← c2]; congr 2; omega, by rw [← c3]; congr 2; omega, h3⟩
theorem Raws.none {w : World} {B : Nat} {a : Option Addr} : Raws w B a 0 := fun i hi => absurd hi (by omega)
/-- What a call of the bard's leaves alone: all but his own block, and the row of his locals. -/
structure Kept (bb : Nat) (row : Option Nat) (w w' : World) : Prop where
  os : w'.os = w.os
  tape : w'.tape = w.tape
  output : w'.output = w.output
  size : w.heap.size ≤ w'.heap.size
  block : ∀ k, k < w.heap.size → ¬ k = bb → ¬ row = some k → w'.heap[k]? = w.heap[k]?
theorem Kept.refl (bb : Nat) (row : Option Nat) (w : World) : Kept bb row w w := ⟨rfl, rfl, rfl, Nat.le_refl _, fun _ _ _ _ => rfl⟩
theorem Kept.of_below {bb B : Nat} {row : Option Nat} {w w' : World} (h : Below B w w') (hB : w.heap.size ≤ B) : Kept bb row w w' := ⟨h.os, h.tape, h.output, h.size, fun k hk _ _ => h.block k (by omega)⟩
/-- Behind one another: the row may have moved to a new block. -/
theorem Kept.trans {bb : Nat} {row row' : Option Nat} {a b c : World} (h : Kept bb row a b) (k : Kept bb row' b c) (hr : ∀ g, row' = some g → row = some g ∨ a.heap.size ≤ g) : Kept bb row a c :=
  ⟨k.os.trans h.os, k.tape.trans h.tape, k.output.trans h.output, Nat.le_trans h.size k.size, fun i hi h1 h2 => (k.block i (Nat.lt_of_lt_of_le hi h.size) h1 (fun e => by rcases hr i e with h' | h'; exact h2 h'; omega)).trans (h.block i hi h1 h2)⟩
theorem Kept.below {bb B : Nat} {row : Option Nat} {w w' : World} (h : Kept bb row w w') (h1 : B ≤ bb) (h2 : ∀ g, row = some g → B ≤ g) (hB : B ≤ w.heap.size) : Below B w w' :=
  ⟨h.os, h.tape, h.output, h.size, fun k hk => h.block k (by omega) (by omega) (fun e => by have := h2 k e; omega)⟩
theorem Kept.cell {bb : Nat} {row : Option Nat} {w w' : World} (h : Kept bb row w w') {p : Addr} (hp : p.block < w.heap.size) (h1 : ¬ p.block = bb) (h2 : ¬ row = some p.block) : w'.cell? p = w.cell? p := World.cell?_of_block (w := w) (h.block p.block hp h1 h2)
/-- The bard lies in block bb: his raw things, his locals, his depth. -/
structure Bard (w : World) (B bb : Nat) (lv : Value) (names : List ByteArray) : Prop where
  own : B ≤ bb
  blk : ∃ ra rn rc dd, w.heap[bb]? = some (.cells #[.slice ra rn rc, lv, dd] 61 (0, 0)) ∧ rn ≤ rc ∧ rc ≤ maxLen ∧ Raws w B ra rn
  row : w.ownsRow B 9 1 lv names.length (names.map Value.string)
  ne : ¬ lv.ownBlock = some bb
theorem cell3 {w : World} {bb : Nat} {v0 v1 v2 : Value} {t : TypeId} (h : w.heap[bb]? = some (.cells #[v0, v1, v2] t (0, 0))) :
    w.cell? ⟨bb, 0, none⟩ = some v0 ∧ w.cell? ⟨bb, 1, none⟩ = some v1 ∧ w.cell? ⟨bb, 2, none⟩ = some v2 ∧ (∀ i, w.frozen? ⟨bb, i, none⟩ = false) := by
  refine ⟨?_, ?_, ?_, fun i => ?_⟩
  · simp [World.cell?, h]
  · simp [World.cell?, h]
  · simp [World.cell?, h]
  · simp [World.frozen?, h]
set_option maxRecDepth 100000 in
set_option maxHeartbeats 1000000 in
theorem next_none (bb : Nat) (w : World) (ra : Option Addr) (rc : Nat) (lv dd : Value) (h : w.heap[bb]? = some (.cells #[.slice ra 0 rc, lv, dd] 61 (0, 0))) :
    Calls Tryz.prog 31 #[.pointer (some ⟨bb, 0, none⟩)] w fun e w' => e = .returned (.agg #[.int .i64 0, .int .i64 0, .int .i64 0, .int .i64 0]) ∧ Below w.heap.size w w' := by
  obtain ⟨c0, c1, c2, f⟩ := cell3 h
  have hlt : bb < w.heap.size := World.block_lt_of_cell? w _ c0
  have hne : ¬ bb = w.heap.size := by omega
  clear h
  go_enter Tryz.func31, Tryz.ntmps31
  go_wp2_with fail
  refine bodyPost_ret (v := .agg #[.int .i64 0, .int .i64 0, .int .i64 0, .int .i64 0]) (by simp [results, Tryz.results31, go_sem]) rfl ?_
  exact ⟨rfl, by repeat (first | exact Below.refl _ _ | refine Below.setCell ?_ (by simp) _ | refine Below.alloc ?_ (by simp) _)⟩
theorem after_set {w : World} {bb : Nat} {v0 v1 v2 v' : Value} {t : TypeId} (h : w.heap[bb]? = some (.cells #[v0, v1, v2] t (0, 0))) (o1 o2 : Obj) :
    (((w.setCell ⟨bb, 0, none⟩ v').alloc o1).alloc o2).heap[bb]? = some (.cells #[v', v1, v2] t (0, 0)) ∧ Kept bb none w (((w.setCell ⟨bb, 0, none⟩ v').alloc o1).alloc o2) := by
  have hlt : bb < w.heap.size := (Array.getElem?_eq_some_iff.1 h).1
  have hb := ((Below.refl (w.setCell ⟨bb, 0, none⟩ v').heap.size (w.setCell ⟨bb, 0, none⟩ v')).alloc (Nat.le_refl _) o1).alloc (by simp) o2
  have hz : (w.setCell ⟨bb, 0, none⟩ v').heap.size = w.heap.size := by simp
  have h1 := Joins.block_setCell (i := 0) h v'
  refine ⟨(hb.block bb (by rw [hz]; exact hlt)).trans (by rw [h1]; rfl), ⟨hb.os, hb.tape, hb.output, by have := hb.size; omega, fun k hk hn _ => ?_⟩⟩
  exact (hb.block k (by rw [hz]; exact hk)).trans (Below.heap_setCell w ⟨bb, 0, none⟩ v' k hn)
set_option maxRecDepth 100000 in
set_option maxHeartbeats 1000000 in
theorem next_some (bb : Nat) (w : World) (b o n rc : Nat) (k x y z : Int) (lv dd : Value) (h : w.heap[bb]? = some (.cells #[.slice (some ⟨b, o, none⟩) (n + 1) rc, lv, dd] 61 (0, 0))) (hbl : b < w.heap.size) (_hne2 : ¬ b = bb) (hrc : n + 1 ≤ rc) (hm : rc ≤ maxLen)
    (d0 : w.cell? ⟨b, o, none⟩ = some (.int .i64 k)) (d1 : w.cell? ⟨b, o + 1, none⟩ = some (.int .i64 x)) (d2 : w.cell? ⟨b, o + 2, none⟩ = some (.int .i64 y)) (d3 : w.cell? ⟨b, o + 3, none⟩ = some (.int .i64 z)) :
    Calls Tryz.prog 31 #[.pointer (some ⟨bb, 0, none⟩)] w fun e w' => e = .returned (.agg #[.int .i64 k, .int .i64 x, .int .i64 y, .int .i64 z]) ∧ (∃ ra' rc', w'.heap[bb]? = some (.cells #[.slice ra' n rc', lv, dd] 61 (0, 0)) ∧ n ≤ rc' ∧ rc' ≤ maxLen ∧ (0 < n → ra' = some ⟨b, o + 4, none⟩)) ∧ Kept bb none w w' := by
  obtain ⟨c0, c1, c2, f⟩ := cell3 h
  have f0 := f 0
  have hlt : bb < w.heap.size := World.block_lt_of_cell? w _ c0
  have hne : ¬ bb = w.heap.size := by omega
  have HH := hid h
  clear h f
  have hn1 : (n : Int) + 1 ≤ rc := by omega
  have hmx : rc ≤ 9223372036854775807 := by unfold maxLen at hm; omega
  go_enter Tryz.func31, Tryz.ntmps31
  go_wp2_with fail
  all_goals refine bodyPost_ret (v := .agg #[.int .i64 k, .int .i64 x, .int .i64 y, .int .i64 z]) (by simp [results, Tryz.results31, go_sem]) rfl ?_
  · obtain ⟨h1, h2⟩ := after_set (v' := .slice (some ⟨b, o, none⟩) n 0) HH.out (.cells #[.int .i64 k, .int .i64 x, .int .i64 y, .int .i64 z] 46) (.cells #[.int .i64 k, .int .i64 x, .int .i64 y, .int .i64 z] 46)
    exact ⟨rfl, ⟨_, 0, h1, by omega, Nat.zero_le _, fun hh => by omega⟩, h2⟩
  · obtain ⟨h1, h2⟩ := after_set (v' := .slice (some ⟨b, o + 4, none⟩) n (rc - 1)) HH.out (.cells #[.int .i64 k, .int .i64 x, .int .i64 y, .int .i64 z] 46) (.cells #[.int .i64 k, .int .i64 x, .int .i64 y, .int .i64 z] 46)
    exact ⟨rfl, ⟨_, rc - 1, h1, by omega, by omega, fun _ => rfl⟩, h2⟩
theorem Bard.lt {w : World} {B bb : Nat} {lv : Value} {names : List ByteArray} (h : Bard w B bb lv names) : bb < w.heap.size := by
  obtain ⟨ra, rn, rc, dd, h1, _⟩ := h.blk
  exact (Array.getElem?_eq_some_iff.1 h1).1
theorem rowS_lt {w : World} {B k : Nat} {ty : TypeId} {v : Value} {n : Nat} {cells : List Value} (h : w.ownsRow B ty k v n cells) {g : Nat} (hg : v.ownBlock = some g) : B ≤ g ∧ g < w.heap.size := by
  rcases h.2 with ⟨rfl, _⟩ | ⟨g', cap, cur, rfl, hb, hc, _⟩
  · simp [Value.ownBlock] at hg
  · simp [Value.ownBlock] at hg
    subst hg
    exact ⟨hb, (Array.getElem?_eq_some_iff.1 hc).1⟩
theorem rowS_keep {w w' : World} {B k : Nat} {ty : TypeId} {v : Value} {n : Nat} {cells : List Value} (h : w.ownsRow B ty k v n cells) (hk : ∀ b, v.ownBlock = some b → w'.heap[b]? = w.heap[b]?) : w'.ownsRow B ty k v n cells := by
  refine ⟨h.1, ?_⟩
  rcases h.2 with h | ⟨g, cap, cur, hv, hb, hg, hr⟩
  · exact Or.inl h
  · exact Or.inr ⟨g, cap, cur, hv, hb, by rw [hk g (by rw [hv]; rfl)]; exact hg, hr⟩
/-- New blocks, and others' writes below, leave the bard as he is. -/
theorem Bard.keep {w w' : World} {B bb : Nat} {lv : Value} {names : List ByteArray} (h : Bard w B bb lv names) (hB : B ≤ w.heap.size) (hb : Below w.heap.size w w') : Bard w' B bb lv names := by
  have hlt := h.lt
  obtain ⟨h0, ⟨ra, rn, rc, dd, h1, h2, h3, h4⟩, h5, h6⟩ := h
  exact ⟨h0, ⟨ra, rn, rc, dd, (hb.block bb hlt).trans h1, h2, h3, h4.below (hb.mono hB)⟩, rowS_keep h5 (fun g hg => hb.block g (rowS_lt h5 hg).2), h6⟩
theorem next_any (w : World) (B bb : Nat) (lv : Value) (names : List ByteArray) (hB : B ≤ w.heap.size) (h : Bard w B bb lv names) :
    Calls Tryz.prog 31 #[.pointer (some ⟨bb, 0, none⟩)] w fun e w' => (∃ k x y z, e = .returned (.agg #[.int .i64 k, .int .i64 x, .int .i64 y, .int .i64 z]) ∧ i64B k ∧ i64B x ∧ i64B y ∧ i64B z) ∧ Bard w' B bb lv names ∧ Kept bb none w w' := by
  have hlt := h.lt
  obtain ⟨h0, ⟨ra, rn, rc, dd, h1, h2, h3, h4⟩, h5, h6⟩ := h
  cases rn with
  | zero =>
    refine (next_none bb w ra rc lv dd h1).mono ?_
    rintro e w' ⟨rfl, hb⟩
    have z : i64B 0 := ⟨by omega, by omega⟩
    exact ⟨⟨0, 0, 0, 0, rfl, z, z, z, z⟩, ⟨h0, ⟨ra, 0, rc, dd, (hb.block bb hlt).trans h1, h2, h3, Raws.none⟩, rowS_keep h5 (fun g hg => hb.block g (rowS_lt h5 hg).2), h6⟩, Kept.of_below hb (Nat.le_refl _)⟩
  | succ n =>
    obtain ⟨b, o, k, x, y, z, rfl, hbB, d0, d1, d2, d3, i1, i2, i3, i4⟩ := h4 0 (by omega)
    simp only [Nat.zero_mul, Nat.add_zero] at d0 d1 d2 d3
    refine (next_some bb w b o n rc k x y z lv dd h1 (by omega) (by omega) h2 h3 d0 d1 d2 d3).mono ?_
    rintro e w' ⟨rfl, ⟨ra', rc', e1, e2, e3, e4⟩, hk⟩
    have hbel : Below B w w' := hk.below h0 (fun g hg => by cases hg) hB
    refine ⟨⟨k, x, y, z, rfl, i1, i2, i3, i4⟩, ⟨h0, ⟨ra', n, rc', dd, e1, e2, e3, ?_⟩, rowS_keep h5 (fun g hg => hk.block g (rowS_lt h5 hg).2 (fun e => h6 (by rw [hg, e])) (fun e => by cases e)), h6⟩, hk⟩
    cases n with
    | zero => exact Raws.none
    | succ n => rw [e4 (by omega)]; exact (h4.tail).below hbel
/-- The same, the raw thing named ahead. -/
theorem next_det (w : World) (B bb : Nat) (lv : Value) (names : List ByteArray) (hB : B ≤ w.heap.size) (h : Bard w B bb lv names) : ∃ k x y z, i64B k ∧ i64B x ∧ i64B y ∧ i64B z ∧
    Calls Tryz.prog 31 #[.pointer (some ⟨bb, 0, none⟩)] w fun e w' => e = .returned (.agg #[.int .i64 k, .int .i64 x, .int .i64 y, .int .i64 z]) ∧ Bard w' B bb lv names ∧ Kept bb none w w' := by
  have hlt := h.lt
  obtain ⟨h0, ⟨ra, rn, rc, dd, h1, h2, h3, h4⟩, h5, h6⟩ := h
  cases rn with
  | zero =>
    have z : i64B 0 := ⟨by omega, by omega⟩
    refine ⟨0, 0, 0, 0, z, z, z, z, (next_none bb w ra rc lv dd h1).mono ?_⟩
    rintro e w' ⟨rfl, hb⟩
    exact ⟨rfl, ⟨h0, ⟨ra, 0, rc, dd, (hb.block bb hlt).trans h1, h2, h3, Raws.none⟩, rowS_keep h5 (fun g hg => hb.block g (rowS_lt h5 hg).2), h6⟩, Kept.of_below hb (Nat.le_refl _)⟩
  | succ n =>
    obtain ⟨b, o, k, x, y, z, rfl, hbB, d0, d1, d2, d3, i1, i2, i3, i4⟩ := h4 0 (by omega)
    simp only [Nat.zero_mul, Nat.add_zero] at d0 d1 d2 d3
    refine ⟨k, x, y, z, i1, i2, i3, i4, (next_some bb w b o n rc k x y z lv dd h1 (by omega) (by omega) h2 h3 d0 d1 d2 d3).mono ?_⟩
    rintro e w' ⟨rfl, ⟨ra', rc', e1, e2, e3, e4⟩, hk⟩
    have hbel : Below B w w' := hk.below h0 (fun g hg => by cases hg) hB
    refine ⟨rfl, ⟨h0, ⟨ra', n, rc', dd, e1, e2, e3, ?_⟩, rowS_keep h5 (fun g hg => hk.block g (rowS_lt h5 hg).2 (fun e => h6 (by rw [hg, e])) (fun e => by cases e)), h6⟩, hk⟩
    cases n with
    | zero => exact Raws.none
    | succ n => rw [e4 (by omega)]; exact (h4.tail).below hbel
end Go.Proofs.YtdfmimgjdchafaaGreatDoor

/- A name goes behind the bard's locals, and is taken off again. -/
import Derived.Test.YtdfmimgjdchafaaGreatDoorBSub
import Derived.Deep.AppendLies
import Derived.Deep.Cut
namespace Go.Proofs.YtdfmimgjdchafaaGreatDoor
set_option maxRecDepth 100000
open Go.RowKit
theorem infoTxt : (Tryz.prog.info? 9).map (fun i => (i.zero, i.size, i.bytes)) = some (some (.string ⟨#[]⟩), 1, 16) := by kernel_rfl
theorem Bard.cell1 {w : World} {B bb : Nat} {lv : Value} {names : List ByteArray} (h : Bard w B bb lv names) : w.cell? ⟨bb, 1, none⟩ = some lv ∧ w.frozen? ⟨bb, 1, none⟩ = false := by
  obtain ⟨_, ⟨ra, rn, rc, dd, hb, _⟩, _⟩ := h
  obtain ⟨_, c1, _, f⟩ := cell3 hb
  exact ⟨c1, f 1⟩
/-- What stands while a name is being appended. -/
structure Push (p bb B : Nat) (lv : Value) (names : List ByteArray) (W w' : World) (not : Prop) : Prop where
  box : w'.cell? ⟨p, 0, none⟩ = some (.pointer (some ⟨bb, 0, none⟩))
  blk : w'.heap[bb]? = W.heap[bb]?
  kept : Kept bb lv.ownBlock W w'
  bard : not → Bard w' B bb lv names
theorem Push.not {p bb B : Nat} {lv : Value} {names : List ByteArray} {W w' : World} {m n : Prop} (h : Push p bb B lv names W w' m) (k : n → m) : Push p bb B lv names W w' n := ⟨h.box, h.blk, h.kept, fun x => h.bard (k x)⟩
theorem Push.alloc {p bb B : Nat} {lv : Value} {names : List ByteArray} {W w' : World} {m : Prop} (h : Push p bb B lv names W w' m) (hb : bb < w'.heap.size) (hB : B ≤ w'.heap.size) (o : Obj) : Push p bb B lv names W (w'.alloc o) m :=
  have hx := (Below.refl w'.heap.size w').alloc (Nat.le_refl _) o
  ⟨(hx.cell (World.block_lt_of_cell? w' _ h.box)).trans h.box, (hx.block bb hb).trans h.blk, h.kept.trans (row' := none) (Kept.of_below hx (Nat.le_refl _)) (by simp), fun k => (h.bard k).keep hB hx⟩
theorem Push.cell1 {p bb B : Nat} {lv : Value} {names n1 : List ByteArray} {W w' : World} {m : Prop} (h : Push p bb B lv names W w' m) (hl : Bard W B bb lv n1) : w'.cell? ⟨bb, 1, none⟩ = some lv ∧ w'.frozen? ⟨bb, 1, none⟩ = false :=
  ⟨(World.cell?_of_block (a := ⟨bb, 1, none⟩) h.blk).trans hl.cell1.1, (World.frozen?_of_block (a := ⟨bb, 1, none⟩) h.blk).trans hl.cell1.2⟩
theorem grown_kept {bb : Nat} {row : Option Nat} {w w' : World} (h : w.grownBy w' row) : Kept bb row w w' := ⟨h.os, h.tape, h.output, h.size, fun k h1 _ h3 => h.block k h1 (fun e => h3 e.symm)⟩
/-- The bard with another row of locals. -/
theorem push_done {W w' : World} {B bb : Nat} {lv v' : Value} {n1 n2 : List ByteArray} (h : Bard W B bb lv n1) (hB : B ≤ W.heap.size) (hK : Kept bb lv.ownBlock W w') (hb : w'.heap[bb]? = W.heap[bb]?)
    (hrow : w'.ownsRow B 9 1 v' n2.length (n2.map Value.string)) (hown : ∀ g, v'.ownBlock = some g → lv.ownBlock = some g ∨ W.heap.size ≤ g) :
    Bard (w'.setCell ⟨bb, 1, none⟩ v') B bb v' n2 ∧ Stp B bb n1 n2 W (w'.setCell ⟨bb, 1, none⟩ v') := by
  have hlt := h.lt
  have hne : ¬ v'.ownBlock = some bb := fun e => by
    rcases hown bb e with h' | h'
    · exact h.ne h'
    · omega
  have hbel : Below B W (w'.setCell ⟨bb, 1, none⟩ v') := (hK.below h.own (fun g hg => (h.row_ge hg).1) hB).setCell h.own v'
  obtain ⟨ra, rn, rc, dd, h1, h2, h3, h4⟩ := h.blk
  have hset : (w'.setCell ⟨bb, 1, none⟩ v').heap[bb]? = some (.cells #[.slice ra rn rc, v', dd] 61 (0, 0)) := by
    have := Joins.block_setCell (i := 1) (hb.trans h1) v'
    rw [this]
    rfl
  have hoth : ∀ k, ¬ k = bb → (w'.setCell ⟨bb, 1, none⟩ v').heap[k]? = w'.heap[k]? := fun k hk => Below.heap_setCell w' ⟨bb, 1, none⟩ v' k hk
  have hbd : Bard (w'.setCell ⟨bb, 1, none⟩ v') B bb v' n2 := ⟨h.own, ⟨ra, rn, rc, dd, hset, h2, h3, h4.below hbel⟩, rowS_keep hrow (fun g hg => hoth g (fun e => hne (by rw [hg, e]))), hne⟩
  refine ⟨hbd, fun l hl => ?_⟩
  obtain rfl := h.det hl
  exact ⟨v', hbd, ⟨hK.os, hK.tape, hK.output, by simp only [World.size_setCell]; exact hK.size, fun k h1 h2 h3 => (hoth k h2).trans (hK.block k h1 h2 h3)⟩, hown⟩
theorem row_take {w : World} {B : Nat} {ty : TypeId} {g n cap : Nat} {xs ys : List Value} (h : w.ownsRow B ty 1 (.slice (some ⟨g, 0, none⟩) (n + 1) cap) (n + 1) (xs ++ ys)) (hx : xs.length = n) : w.ownsRow B ty 1 (.slice (some ⟨g, 0, none⟩) n cap) n xs := by
  refine ⟨by omega, Or.inr ?_⟩
  rcases h.2 with ⟨h1, _⟩ | ⟨g', cap', cur, h1, h2, h3, h4, h5, h6, h7⟩
  · cases h1
  · injection h1 with e1 e2 e3
    injection e1 with e1
    injection e1 with e1 _
    subst e1 e3
    refine ⟨g, cap, cur, rfl, h2, h3, by omega, h5, h6, ?_⟩
    have h8 : cur.toList.take (n * 1) = (cur.toList.take ((n + 1) * 1)).take (n * 1) := by rw [List.take_take]; congr 1; omega
    rw [h8, h7, List.take_left' (by omega)]
end Go.Proofs.YtdfmimgjdchafaaGreatDoor

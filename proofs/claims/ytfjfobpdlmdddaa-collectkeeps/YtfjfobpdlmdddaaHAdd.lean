/- A thing more on the chart: heap's add. -/
import Derived.Test.YtfjfobpdlmdddaaHChart
import Derived.BigRegion
namespace Go.Proofs.Ytfjfobpdlmdddaa
set_option maxRecDepth 100000
open Go.RowKit Go.Maps
theorem infoTh : (Try.prog.info? 81).map (fun i => (i.zero, i.size, i.bytes)) = some (some (.agg #[.int .i64 0, .int .i64 0, .int .i64 0]), 3, 24) := by kernel_rfl
theorem news3 (w : World) (x y z : Int) (ty : TypeId) : ∀ j u, [Value.int .i64 x, .int .i64 y, .int .i64 z][j]? = some u → (w.alloc (.cells #[.int .i64 x, .int .i64 y, .int .i64 z] ty)).cell? ((⟨w.heap.size, 0, none⟩ : Addr).add j) = some u := fun j u hj => by
  have hadd : (⟨w.heap.size, 0, none⟩ : Addr).add j = ⟨w.heap.size, j, none⟩ := by unfold Addr.add; split <;> simp_all
  rw [hadd, World.cell?_alloc_at _ _ _ j (by simp)]
  simpa using hj
theorem wf_nat {n : Nat} (h : n ≤ 9223372036854775807) : wfI (n : Int) := WalkArith.wf_i64 (by omega)
theorem add_end {w2 w3 : World} {B cb : Nat} {a : Option Addr} {len cap : Nat} {l : List Wd} {v : Value} {acc : List Th} {pb mb : Nat} {ms : List (Int × Int)} {t : Th} {x y z : Int} {cells : List Value} {g cap3 : Nat}
    (hx : x = t.h) (hy : y = t.f) (hz : z = t.e) (q1 : Wds w2 B a l) (q2 : w2.cell? ⟨cb, 0, none⟩ = some (.slice a len cap)) (q3 : w2.cell? ⟨cb, 1, none⟩ = some v) (q4 : w2.cell? ⟨cb, 2, none⟩ = some (.map (some pb))) (q5 : w2.cell? ⟨cb, 3, none⟩ = some (.map (some mb))) (q6 : w2.frozen? ⟨cb, 1, none⟩ = false)
    (q8 : OwnsI w2 mb ms) (qp : OwnsI w2 pb ((x, (acc.length : Int)) :: plOf acc)) (hcb : B ≤ cb) (hpb : B ≤ pb) (hmb : B ≤ mb) (n1 : ¬ cb = pb) (n2 : ¬ cb = mb) (n3 : ¬ pb = mb) (n4 : ∀ g, v.ownBlock = some g → ¬ g = cb ∧ ¬ g = pb ∧ ¬ g = mb)
    (hr0 : w2.ownsRow B 81 3 v acc.length cells)
    (hi : ∀ i (h : i < acc.length), cells[i * 3]? = some (.int .i64 acc[i].h) ∧ cells[i * 3 + 1]? = some (.int .i64 acc[i].f) ∧ cells[i * 3 + 2]? = some (.int .i64 acc[i].e))
    (hown : w3.ownsRow B 81 3 (.slice (some ⟨g, 0, none⟩) (acc.length + 1) cap3) (acc.length + 1) (cells ++ [.int .i64 x, .int .i64 y, .int .i64 z])) {o : Obj}
    (hg : (w2.alloc o).grownBy w3 v.ownBlock) (hat : v.ownBlock = some g ∨ g = (w2.alloc o).heap.size) :
    Below B w2 (w3.setCell ⟨cb, 1, none⟩ (.slice (some ⟨g, 0, none⟩) (acc.length + 1) cap3)) ∧ Chart (w3.setCell ⟨cb, 1, none⟩ (.slice (some ⟨g, 0, none⟩) (acc.length + 1) cap3)) B cb a len cap l (.slice (some ⟨g, 0, none⟩) (acc.length + 1) cap3) (acc ++ [t]) pb mb ms ∧ ∀ b, b < w2.heap.size → ¬ b = cb → ¬ v.ownBlock = some b → (w3.setCell ⟨cb, 1, none⟩ (.slice (some ⟨g, 0, none⟩) (acc.length + 1) cap3)).heap[b]? = w2.heap[b]? := by
  subst hx hy hz
  have hlc : cb < w2.heap.size := World.block_lt_of_cell? w2 _ q2
  have hlp := qp.lt
  have hlm := q8.lt
  simp at hat
  have ng : ¬ g = cb ∧ ¬ g = pb ∧ ¬ g = mb := by
    rcases hat with h | h
    · exact n4 g h
    · omega
  have nv : ∀ b, (b = cb ∨ b = pb ∨ b = mb) → some b ≠ v.ownBlock := fun b hb e => by
    have := n4 b e.symm
    omega
  have hB3 : Below B w2 w3 := ((Below.refl _ _).alloc (by omega) o).grown hg (by simp; omega) (fun k hk => (ownsRow_lt hr0 hk).1)
  have hsz : (w2.alloc o).heap.size = w2.heap.size + 1 := by simp
  have hblk : ∀ b, b < w2.heap.size → some b ≠ v.ownBlock → w3.heap[b]? = w2.heap[b]? := fun b h1 h2 => (hg.block b (by omega) h2).trans (Below.heap_alloc w2 o b h1)
  have u0 := (World.cell?_of_block (w := w2) (a := ⟨cb, 0, none⟩) (hblk cb hlc (nv cb (by simp)))).trans q2
  have u1 := (World.cell?_of_block (w := w2) (a := ⟨cb, 1, none⟩) (hblk cb hlc (nv cb (by simp)))).trans q3
  have u2 := (World.cell?_of_block (w := w2) (a := ⟨cb, 2, none⟩) (hblk cb hlc (nv cb (by simp)))).trans q4
  have u3 := (World.cell?_of_block (w := w2) (a := ⟨cb, 3, none⟩) (hblk cb hlc (nv cb (by simp)))).trans q5
  have uf := (World.frozen?_of_block (w := w2) (a := ⟨cb, 1, none⟩) (hblk cb hlc (nv cb (by simp)))).trans q6
  have hoth : ∀ b, ¬ b = cb → (w3.setCell ⟨cb, 1, none⟩ (.slice (some ⟨g, 0, none⟩) (acc.length + 1) cap3)).heap[b]? = w3.heap[b]? := fun b hb => Below.heap_setCell _ _ _ _ hb
  have hB4 := hB3.setCell (p := ⟨cb, 1, none⟩) hcb (.slice (some ⟨g, 0, none⟩) (acc.length + 1) cap3)
  refine ⟨hB4, ⟨q1.below hB4, ?_, ?_, ?_, ?_, ?_, ?_, ?_, ?_, hcb, hpb, hmb, n1, n2, n3, ?_⟩, fun b hb hc hv => (hoth b hc).trans (hblk b hb (fun e => hv e.symm))⟩
  · go_simp
  · go_simp
  · go_simp
  · go_simp
  · go_simp
  · refine (ThL.append hi hr0.1 hown).keep (fun b hb => hoth b ?_)
    simp [Value.ownBlock] at hb
    rw [← hb]; exact ng.1
  · rw [plOf_snoc]
    exact qp.keep ((hoth pb (fun e => n1 e.symm)).trans (hblk pb hlp (nv pb (by simp))))
  · exact q8.keep ((hoth mb (fun e => n2 e.symm)).trans (hblk mb hlm (nv mb (by simp))))
  · intro k hk
    simp [Value.ownBlock] at hk
    rw [← hk]; exact ng
set_option maxHeartbeats 2000000 in
theorem add_any (w : World) (B cb : Nat) (a : Option Addr) (len cap : Nat) (l : List Wd) (v : Value) (acc : List Th) (pb mb : Nat) (ms : List (Int × Int)) (t : Th) (hC : Chart w B cb a len cap l v acc pb mb ms)
    (hacc : acc.length ≤ 60000) (ht : t.h ≤ 60000) :
    Calls Try.prog 53 #[.pointer (some ⟨cb, 0, none⟩), .agg #[.int .i64 t.h, .int .i64 t.f, .int .i64 t.e]] w fun e w' => e = .returned (.tuple #[]) ∧ Below B w w' ∧ (∃ v', Chart w' B cb a len cap l v' (acc ++ [t]) pb mb ms) ∧ ∀ b, b < w.heap.size → ¬ b = cb → ¬ b = pb → ¬ v.ownBlock = some b → w'.heap[b]? = w.heap[b]? := by
  obtain ⟨i0, hi, iz0, iz1, iz2⟩ := info_parts infoTh
  have HI := hid hi
  have HZ0 := hid iz0
  have HZ1 := hid iz1
  have HZ2 := hid iz2
  clear hi iz0 iz1 iz2
  obtain ⟨th, tf, te⟩ := t
  dsimp only at ht ⊢
  obtain ⟨x, hx⟩ : ∃ x : Int, x = th := ⟨_, rfl⟩
  obtain ⟨y, hy⟩ : ∃ y : Int, y = tf := ⟨_, rfl⟩
  obtain ⟨z, hz⟩ : ∃ z : Int, z = te := ⟨_, rfl⟩
  rw [← hx, ← hy, ← hz]
  obtain ⟨w1, hw1⟩ : ∃ w1, w1 = w.alloc (.cells #[.int .i64 x, .int .i64 y, .int .i64 z] 81) := ⟨_, rfl⟩
  have hb1 : Below w.heap.size w w1 := by rw [hw1]; exact (Below.refl _ _).alloc (Nat.le_refl _) _
  have hz1 : w1.heap.size = w.heap.size + 1 := by rw [hw1]; simp
  have C1 := hid (hC.below hb1)
  have tt : w1.cell? ⟨w.heap.size, 0, none⟩ = some (.int .i64 x) ∧ w1.cell? ⟨w.heap.size, 1, none⟩ = some (.int .i64 y) ∧ w1.cell? ⟨w.heap.size, 2, none⟩ = some (.int .i64 z) := by
    rw [hw1]; refine ⟨?_, ?_, ?_⟩ <;> go_simp
  have hlt := hC.lt
  obtain ⟨a', cap', hv, hcv, _⟩ := hC.row.cells
  subst hv
  obtain ⟨w2, hrun, hO2, hG2⟩ := OwnsI.put (w := w1.drew) (b := pb) (l := plOf acc) C1.out.pl.drew (by rw [plOf_length]; unfold maxLen; omega) (k := x) (c := (acc.length : Int)) (by rw [hx]; exact wf_nat (by omega)) (wf_nat (by omega))
  have hz2 := hG2.size
  have P2 := C1.out.placed (w' := w2) ⟨hG2.os, hG2.tape, hG2.output, hG2.size, hG2.block⟩
  have HX := hid hx
  have HY := hid hy
  have HZ := hid hz
  have HW := hid hw1
  have HS := hid hz1
  have HS2 := hid hz2
  clear hx hy hz hw1 hz1 hz2
  go_enter Try.func53, Try.ntmps53
  go_wp2_with fail
  rw [← HW.out]
  have g1 := C1.out.c1
  have g2 := C1.out.c2
  obtain ⟨t0, t1, t2⟩ := tt
  go_region
  have hpl : pb < w.heap.size := hC.pl.lt
  have hne : some w.heap.size ≠ some pb := fun e => by injection e with e; omega
  have HG2 : w1.grownBy w2 (some pb) := ⟨hG2.os, hG2.tape, hG2.output, hG2.size, hG2.block⟩
  have hs1 := HS.out
  have hs2 : w1.heap.size ≤ w2.heap.size := HS2.out
  have s0 := (HG2.cell_far ⟨w.heap.size, 0, none⟩ (by simp; omega) hne).trans t0
  have s1 := (HG2.cell_far ⟨w.heap.size, 1, none⟩ (by simp; omega) hne).trans t1
  have s2 := (HG2.cell_far ⟨w.heap.size, 2, none⟩ (by simp; omega) hne).trans t2
  obtain ⟨q1, q2, q3, q4, q5, q6, q7, q8⟩ := P2
  have hB2 : Below B w w2 := (hb1.mono (by have := hC.hcb; omega)).trans ((Below.refl _ _).grown HG2 (by have := hC.hcb; omega) (fun j hj => by cases hj; exact hC.hpb))
  have hn4 := hC.n4
  have hcb := hC.hcb
  have hcw2 : cb < w2.heap.size := by omega
  obtain ⟨cells, hrow, hcell⟩ := q7
  have HRow := hid hrow
  have HCell := hid hcell
  have hln := hrow.1
  clear g1 g2 t0 t1 t2 hrun hG2 hrow hcell
  clear HS HS2
  have hb2B : B ≤ w2.heap.size := by omega
  go_wp2_with fail
  go_region_law (refine step_append_lies _ rfl (.tmp 19) (.tmp 21) 55 rfl B 81 i0 (.agg #[.int .i64 0, .int .i64 0, .int .i64 0]) 3 24 Try.underlying55 HI.out HZ0.out HZ1.out HZ2.out rfl (by decide) (.slice a' acc.length cap') acc.length cells (by simp [Act.eval]) (HRow.out.alloc _) ⟨w2.heap.size, 0, none⟩ 1 1 [.int .i64 x, .int .i64 y, .int .i64 z] (by simp [Act.eval]) rfl (news3 w2 x y z _) (by simp [Value.oneCell']) (by decide) (by unfold maxLen; omega) (by omega) (by simp; omega) _ rfl ?_; intro g cap3 w3 hown3 hgrow3 hat3 hlt3; have u1 := (hgrow3.cell_far ⟨cb, 1, none⟩ (by simp; omega) (fun e => (hn4 cb e.symm).1 rfl)); have uf := (hgrow3.frozen_far ⟨cb, 1, none⟩ (by simp; omega) (fun e => (hn4 cb e.symm).1 rfl)))
  all_goals
    go_end0
    obtain ⟨k1, k2, k3⟩ := add_end (t := ⟨th, tf, te⟩) HX.out HY.out HZ.out q1 q2 q3 q4 q5 q6 q8 hO2 hcb hC.hpb hC.hmb hC.n1 hC.n2 hC.n3 hn4 HRow.out HCell.out hown3 ⟨hgrow3.os, hgrow3.tape, hgrow3.output, hgrow3.size, hgrow3.block⟩ hat3
    refine ⟨rfl, hB2.trans k1, ⟨_, k2⟩, fun b h1 h2 h3 h4 => (k3 b (by omega) h2 h4).trans ((HG2.block b (by omega) (fun e => h3 (by injection e))).trans (hb1.block b h1))⟩
end Go.Proofs.Ytfjfobpdlmdddaa

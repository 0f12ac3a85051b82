/- A thing more on the chart: heap's add. · The things of a heap, one behind the other: heap's addThings. · The document's words and things: In, countAt, thing, wordMay, refersTo. · The document's wordMay, refersTo, beginsOf. -/
import Derived.Test.YtldmanfgmadbfaaGreatDoorQ02
import Derived.BigRegion
import Derived.OwnWalk
import Derived.Laws.OwnMore
namespace Go.Proofs.YtldmanfgmadbfaaGreatDoor.HH
set_option maxRecDepth 100000
open Go.RowKit Go.Maps
theorem infoTh : (Tryz.prog.info? 129).map (fun i => (i.zero, i.size, i.bytes)) = some (some (.agg #[.int .i64 0, .int .i64 0, .int .i64 0]), 3, 24) := by kernel_rfl
theorem news3 (w : World) (x y z : Int) (ty : TypeId) : ∀ j u, [Value.int .i64 x, .int .i64 y, .int .i64 z][j]? = some u → (w.alloc (.cells #[.int .i64 x, .int .i64 y, .int .i64 z] ty)).cell? ((⟨w.heap.size, 0, none⟩ : Addr).add j) = some u := fun j u hj => by
  have hadd : (⟨w.heap.size, 0, none⟩ : Addr).add j = ⟨w.heap.size, j, none⟩ := by unfold Addr.add; split <;> simp_all
  rw [hadd, World.cell?_alloc_at _ _ _ j (by simp)]
  simpa using hj
theorem wf_nat {n : Nat} (h : n ≤ 9223372036854775807) : wfI (n : Int) := WalkArith.wf_i64 (by omega)
theorem add_end {w2 w3 : World} {B cb : Nat} {a : Option Addr} {len cap : Nat} {l : List Wd} {v : Value} {acc : List Th} {pb mb : Nat} {ms : List (Int × Int)} {t : Th} {x y z : Int} {cells : List Value} {g cap3 : Nat}
    (hx : x = t.h) (hy : y = t.f) (hz : z = t.e) (q1 : Wds w2 B a l) (q2 : w2.cell? ⟨cb, 0, none⟩ = some (.slice a len cap)) (q3 : w2.cell? ⟨cb, 1, none⟩ = some v) (q4 : w2.cell? ⟨cb, 2, none⟩ = some (.map (some pb))) (q5 : w2.cell? ⟨cb, 3, none⟩ = some (.map (some mb))) (q6 : w2.frozen? ⟨cb, 1, none⟩ = false)
    (q8 : OwnsI w2 mb ms) (qp : OwnsI w2 pb ((x, (acc.length : Int)) :: plOf acc)) (hcb : B ≤ cb) (hpb : B ≤ pb) (hmb : B ≤ mb) (n1 : ¬ cb = pb) (n2 : ¬ cb = mb) (n3 : ¬ pb = mb) (n4 : ∀ g, v.ownBlock = some g → ¬ g = cb ∧ ¬ g = pb ∧ ¬ g = mb)
    (hr0 : w2.ownsRow B 129 3 v acc.length cells)
    (hi : ∀ i (h : i < acc.length), cells[i * 3]? = some (.int .i64 acc[i].h) ∧ cells[i * 3 + 1]? = some (.int .i64 acc[i].f) ∧ cells[i * 3 + 2]? = some (.int .i64 acc[i].e))
    (hown : w3.ownsRow B 129 3 (.slice (some ⟨g, 0, none⟩) (acc.length + 1) cap3) (acc.length + 1) (cells ++ [.int .i64 x, .int .i64 y, .int .i64 z])) {o : Obj}
    (hg : (w2.alloc o).grownBy w3 v.ownBlock) (hat : v.ownBlock = some g ∨ g = (w2.alloc o).heap.size) :
    Below B w2 (w3.setCell ⟨cb, 1, none⟩ (.slice (some ⟨g, 0, none⟩) (acc.length + 1) cap3)) ∧ Chart (w3.setCell ⟨cb, 1, none⟩ (.slice (some ⟨g, 0, none⟩) (acc.length + 1) cap3)) B cb a len cap l (.slice (some ⟨g, 0, none⟩) (acc.length + 1) cap3) (acc ++ [t]) pb mb ms ∧ ∀ b, b < w2.heap.size → ¬ b = cb → ¬ v.ownBlock = some b → (w3.setCell ⟨cb, 1, none⟩ (.slice (some ⟨g, 0, none⟩) (acc.length + 1) cap3)).heap[b]? = w2.heap[b]? := by
  subst hx hy hz
  have hlc : cb < w2.heap.size := World.block_lt_of_cell? w2 _ q2
  have hlp := qp.lt
  have hlm := q8.lt
  simp at hat
  have ng : ¬ g = cb ∧ ¬ g = pb ∧ ¬ g = mb := by
    rcases hat with h | h
    · exact n4 g h
    · omega
  have nv : ∀ b, (b = cb ∨ b = pb ∨ b = mb) → some b ≠ v.ownBlock := fun b hb e => by
    have := n4 b e.symm
    omega
  have hB3 : Below B w2 w3 := ((Below.refl _ _).alloc (by omega) o).grown hg (by simp; omega) (fun k hk => (ownsRow_lt hr0 hk).1)
  have hsz : (w2.alloc o).heap.size = w2.heap.size + 1 := by simp
  have hblk : ∀ b, b < w2.heap.size → some b ≠ v.ownBlock → w3.heap[b]? = w2.heap[b]? := fun b h1 h2 => (hg.block b (by omega) h2).trans (Below.heap_alloc w2 o b h1)
  have u0 := (World.cell?_of_block (w := w2) (a := ⟨cb, 0, none⟩) (hblk cb hlc (nv cb (by simp)))).trans q2
  have u1 := (World.cell?_of_block (w := w2) (a := ⟨cb, 1, none⟩) (hblk cb hlc (nv cb (by simp)))).trans q3
  have u2 := (World.cell?_of_block (w := w2) (a := ⟨cb, 2, none⟩) (hblk cb hlc (nv cb (by simp)))).trans q4
  have u3 := (World.cell?_of_block (w := w2) (a := ⟨cb, 3, none⟩) (hblk cb hlc (nv cb (by simp)))).trans q5
  have uf := (World.frozen?_of_block (w := w2) (a := ⟨cb, 1, none⟩) (hblk cb hlc (nv cb (by simp)))).trans q6
  have hoth : ∀ b, ¬ b = cb → (w3.setCell ⟨cb, 1, none⟩ (.slice (some ⟨g, 0, none⟩) (acc.length + 1) cap3)).heap[b]? = w3.heap[b]? := fun b hb => Below.heap_setCell _ _ _ _ hb
  have hB4 := hB3.setCell (p := ⟨cb, 1, none⟩) hcb (.slice (some ⟨g, 0, none⟩) (acc.length + 1) cap3)
  refine ⟨hB4, ⟨q1.below hB4, ?_, ?_, ?_, ?_, ?_, ?_, ?_, ?_, hcb, hpb, hmb, n1, n2, n3, ?_⟩, fun b hb hc hv => (hoth b hc).trans (hblk b hb (fun e => hv e.symm))⟩
  · go_simp
  · go_simp
  · go_simp
  · go_simp
  · go_simp
  · refine (ThL.append hi hr0.1 hown).keep (fun b hb => hoth b ?_)
    simp [Value.ownBlock] at hb
    rw [← hb]; exact ng.1
  · rw [plOf_snoc]
    exact qp.keep ((hoth pb (fun e => n1 e.symm)).trans (hblk pb hlp (nv pb (by simp))))
  · exact q8.keep ((hoth mb (fun e => n2 e.symm)).trans (hblk mb hlm (nv mb (by simp))))
  · intro k hk
    simp [Value.ownBlock] at hk
    rw [← hk]; exact ng
set_option maxHeartbeats 2000000 in
theorem add_any (w : World) (B cb : Nat) (a : Option Addr) (len cap : Nat) (l : List Wd) (v : Value) (acc : List Th) (pb mb : Nat) (ms : List (Int × Int)) (t : Th) (hC : Chart w B cb a len cap l v acc pb mb ms)
    (hacc : acc.length ≤ 60000) (ht : t.h ≤ 60000) :
    Calls Tryz.prog 78 #[.pointer (some ⟨cb, 0, none⟩), .agg #[.int .i64 t.h, .int .i64 t.f, .int .i64 t.e]] w fun e w' => e = .returned (.tuple #[]) ∧ Below B w w' ∧ (∃ v', Chart w' B cb a len cap l v' (acc ++ [t]) pb mb ms) ∧ ∀ b, b < w.heap.size → ¬ b = cb → ¬ b = pb → ¬ v.ownBlock = some b → w'.heap[b]? = w.heap[b]? := by
  obtain ⟨i0, hi, iz0, iz1, iz2⟩ := info_parts infoTh
  have HI := hid hi
  have HZ0 := hid iz0
  have HZ1 := hid iz1
  have HZ2 := hid iz2
  clear hi iz0 iz1 iz2
  obtain ⟨th, tf, te⟩ := t
  dsimp only at ht ⊢
  obtain ⟨x, hx⟩ : ∃ x : Int, x = th := ⟨_, rfl⟩
  obtain ⟨y, hy⟩ : ∃ y : Int, y = tf := ⟨_, rfl⟩
  obtain ⟨z, hz⟩ : ∃ z : Int, z = te := ⟨_, rfl⟩
  rw [← hx, ← hy, ← hz]
  obtain ⟨w1, hw1⟩ : ∃ w1, w1 = w.alloc (.cells #[.int .i64 x, .int .i64 y, .int .i64 z] 129) := ⟨_, rfl⟩
  have hb1 : Below w.heap.size w w1 := by rw [hw1]; exact (Below.refl _ _).alloc (Nat.le_refl _) _
  have hz1 : w1.heap.size = w.heap.size + 1 := by rw [hw1]; simp
  have C1 := hid (hC.below hb1)
  have tt : w1.cell? ⟨w.heap.size, 0, none⟩ = some (.int .i64 x) ∧ w1.cell? ⟨w.heap.size, 1, none⟩ = some (.int .i64 y) ∧ w1.cell? ⟨w.heap.size, 2, none⟩ = some (.int .i64 z) := by
    rw [hw1]; refine ⟨?_, ?_, ?_⟩ <;> go_simp
  have hlt := hC.lt
  obtain ⟨a', cap', hv, hcv, _⟩ := hC.row.cells
  subst hv
  obtain ⟨w2, hrun, hO2, hG2⟩ := OwnsI.put (w := w1.drew) (b := pb) (l := plOf acc) C1.out.pl.drew (by rw [plOf_length]; unfold maxLen; omega) (k := x) (c := (acc.length : Int)) (by rw [hx]; exact wf_nat (by omega)) (wf_nat (by omega))
  have hz2 := hG2.size
  have P2 := C1.out.placed (w' := w2) ⟨hG2.os, hG2.tape, hG2.output, hG2.size, hG2.block⟩
  have HX := hid hx
  have HY := hid hy
  have HZ := hid hz
  have HW := hid hw1
  have HS := hid hz1
  have HS2 := hid hz2
  clear hx hy hz hw1 hz1 hz2
  go_enter Tryz.func78, Tryz.ntmps78
  go_wp2_with fail
  rw [← HW.out]
  have g1 := C1.out.c1
  have g2 := C1.out.c2
  obtain ⟨t0, t1, t2⟩ := tt
  go_region
  have hpl : pb < w.heap.size := hC.pl.lt
  have hne : some w.heap.size ≠ some pb := fun e => by injection e with e; omega
  have HG2 : w1.grownBy w2 (some pb) := ⟨hG2.os, hG2.tape, hG2.output, hG2.size, hG2.block⟩
  have hs1 := HS.out
  have hs2 : w1.heap.size ≤ w2.heap.size := HS2.out
  have s0 := (HG2.cell_far ⟨w.heap.size, 0, none⟩ (by simp; omega) hne).trans t0
  have s1 := (HG2.cell_far ⟨w.heap.size, 1, none⟩ (by simp; omega) hne).trans t1
  have s2 := (HG2.cell_far ⟨w.heap.size, 2, none⟩ (by simp; omega) hne).trans t2
  obtain ⟨q1, q2, q3, q4, q5, q6, q7, q8⟩ := P2
  have hB2 : Below B w w2 := (hb1.mono (by have := hC.hcb; omega)).trans ((Below.refl _ _).grown HG2 (by have := hC.hcb; omega) (fun j hj => by cases hj; exact hC.hpb))
  have hn4 := hC.n4
  have hcb := hC.hcb
  have hcw2 : cb < w2.heap.size := by omega
  obtain ⟨cells, hrow, hcell⟩ := q7
  have HRow := hid hrow
  have HCell := hid hcell
  have hln := hrow.1
  clear g1 g2 t0 t1 t2 hrun hG2 hrow hcell
  clear HS HS2
  have hb2B : B ≤ w2.heap.size := by omega
  go_wp2_with fail
  go_region_law (refine step_append_lies _ rfl (.tmp 19) (.tmp 21) 94 rfl B 129 i0 (.agg #[.int .i64 0, .int .i64 0, .int .i64 0]) 3 24 Tryz.underlying94 HI.out HZ0.out HZ1.out HZ2.out rfl (by decide) (.slice a' acc.length cap') acc.length cells (by simp [Act.eval]) (HRow.out.alloc _) ⟨w2.heap.size, 0, none⟩ 1 1 [.int .i64 x, .int .i64 y, .int .i64 z] (by simp [Act.eval]) rfl (news3 w2 x y z _) (by simp [Value.oneCell']) (by decide) (by unfold maxLen; omega) (by omega) (by simp; omega) _ rfl ?_; intro g cap3 w3 hown3 hgrow3 hat3 hlt3; have u1 := (hgrow3.cell_far ⟨cb, 1, none⟩ (by simp; omega) (fun e => (hn4 cb e.symm).1 rfl)); have uf := (hgrow3.frozen_far ⟨cb, 1, none⟩ (by simp; omega) (fun e => (hn4 cb e.symm).1 rfl)))
  all_goals
    go_end0
    obtain ⟨k1, k2, k3⟩ := add_end (t := ⟨th, tf, te⟩) HX.out HY.out HZ.out q1 q2 q3 q4 q5 q6 q8 hO2 hcb hC.hpb hC.hmb hC.n1 hC.n2 hC.n3 hn4 HRow.out HCell.out hown3 ⟨hgrow3.os, hgrow3.tape, hgrow3.output, hgrow3.size, hgrow3.block⟩ hat3
    refine ⟨rfl, hB2.trans k1, ⟨_, k2⟩, fun b h1 h2 h3 h4 => (k3 b (by omega) h2 h4).trans ((HG2.block b (by omega) (fun e => h3 (by injection e))).trans (hb1.block b h1))⟩
end Go.Proofs.YtldmanfgmadbfaaGreatDoor.HH
namespace Go.Proofs.YtldmanfgmadbfaaGreatDoor.HH
set_option maxRecDepth 100000
open Go.RowKit Go.Maps
/-- Things from the first word on, up to an address. -/
inductive Chain (l : List Wd) : List Th → Nat → Prop
  | nil : Chain l [] 0
  | snoc {acc : List Th} {a f e : Nat} : Chain l acc a → a < l.length → tAt l a = some (f, e) → Chain l (acc ++ [⟨a, f, e⟩]) e
theorem fitT_le {l : List Wd} {f n : Nat} {p : Nat × Nat} (h : fitT l f n = some p) : p.1 = f ∧ f ≤ p.2 ∧ p.2 ≤ l.length := by
  unfold fitT at h
  split at h
  · injection h with h; subst h; exact ⟨rfl, by simp, by simpa⟩
  · cases h
theorem tailT_le {l : List Wd} {f : Nat} {k : Int} {p : Nat × Nat} (h : tailT l f k = some p) : f ≤ p.1 ∧ p.1 ≤ p.2 ∧ p.2 ≤ l.length := by
  unfold tailT at h
  split at h
  · split at h
    · have := fitT_le h; omega
    · cases h
  · have := fitT_le h; omega
theorem tAt_le {l : List Wd} {a f e : Nat} (h : tAt l a = some (f, e)) : a < f ∧ f ≤ e ∧ e ≤ l.length := by
  unfold tAt at h
  split at h
  · cases h
  · split at h
    · cases h
    · split at h
      · split at h
        · have := tailT_le h; omega
        · cases h
      · have := tailT_le h; omega
theorem Chain.le {l : List Wd} {acc : List Th} {a : Nat} (h : Chain l acc a) : a ≤ l.length ∧ acc.length ≤ a := by
  cases h with
  | nil => simp
  | snoc h1 h2 h3 =>
    have := tAt_le h3
    have ih := h1.le
    simp
    omega
theorem frame_box {w w' : World} {b : Nat} {v0 v1 v2 : Value} (hb : w'.heap[b]? = w.heap[b]?) (h : w.cell? ⟨b, 0, none⟩ = some v0 ∧ w.cell? ⟨b, 1, none⟩ = some v1 ∧ w.cell? ⟨b, 2, none⟩ = some v2) : w'.cell? ⟨b, 0, none⟩ = some v0 ∧ w'.cell? ⟨b, 1, none⟩ = some v1 ∧ w'.cell? ⟨b, 2, none⟩ = some v2 :=
  ⟨(World.cell?_of_block (w := w) hb).trans h.1, (World.cell?_of_block (w := w) hb).trans h.2.1, (World.cell?_of_block (w := w) hb).trans h.2.2⟩
set_option maxHeartbeats 2000000 in
theorem addThings_any (w : World) (B cb : Nat) (a : Option Addr) (len cap : Nat) (l : List Wd) (pb mb : Nat) (ms : List (Int × Int)) (v : Value) (hC : Chart w B cb a len cap l v [] pb mb ms) (hlen : len = l.length) (hl : len ≤ 60000) :
    Calls Tryz.prog 63 #[.pointer (some ⟨cb, 0, none⟩)] w fun e w' => Below B w w' ∧ ((e = .returned (.bool true) ∧ ∃ v' acc, Chain l acc l.length ∧ Chart w' B cb a len cap l v' acc pb mb ms) ∨ (e = .returned (.bool false) ∧ ∃ acc i, Chain l acc i ∧ i < l.length ∧ tAt l i = none)) := by
  have hL := hid hlen
  clear hlen
  go_enter Tryz.func63, Tryz.ntmps63
  go_wp2_with fail
  go_loopw [3] (fun i wr => ∃ (k : Nat) (acc : List Th) (v : Value), k ≤ len ∧ i = .int .i64 k ∧ Chain l acc k ∧ Chart wr B cb a len cap l v acc pb mb ms ∧ Below B w wr) (fun i _ => len - (intOf i).toNat)
  case atStart => exact ⟨0, [], v, Nat.zero_le _, rfl, Chain.nil, hC, Below.refl _ _⟩
  case round =>
    obtain ⟨k, acc, v, hk, rfl, hCh, hCr, hBr⟩ := hrel
    have HCh := hid hCh
    have HB := hid hBr
    have c0 := hCr.c0
    have hcb := hCr.hcb
    have hclt := hCr.lt
    clear hCh hBr
    by_cases hlt : k < len
    · have hlt2 : (k : Int) < len := by omega
      go_wp2_with fail
      have hcall := thingAt_any wr B a l len cap k hL.out hl hlt (by omega) hCr.wds
      cases htA : tAt l k with
      | none =>
        rw [htA] at hcall
        go_fit hcall
        clear hcall
        rintro e w1 ⟨rfl, hb1⟩
        dsimp only [thR]
        go_wp2_with fail
        go_ret
        exact ⟨HB.out.trans (Below.alloc (hb1.mono (by omega)) (by have := hb1.size; omega) _), Or.inr ⟨rfl, acc, k, HCh.out, by rw [← hL.out]; exact hlt, htA⟩⟩
      | some p =>
        obtain ⟨f, e⟩ := p
        rw [htA] at hcall
        have hle := tAt_le htA
        have hac := HCh.out.le
        rw [← hL.out] at hle hac
        go_fit hcall
        clear hcall
        rintro e' w1 ⟨rfl, hb1⟩
        dsimp only [thR]
        go_wp2_with fail
        have C1 := hCr.below hb1
        have hz1 := hb1.size
        obtain ⟨w2, hw2⟩ : ∃ w2, w2 = w1.alloc (.cells #[.int .i64 (k : Int), .int .i64 (f : Int), .int .i64 (e : Int)] 129) := ⟨_, rfl⟩
        have hb2 : Below w1.heap.size w1 w2 := by rw [hw2]; exact (Below.refl _ _).alloc (Nat.le_refl _) _
        have hz2 : w2.heap.size = w1.heap.size + 1 := by rw [hw2]; simp
        have tt : w2.cell? ⟨w1.heap.size, 0, none⟩ = some (.int .i64 (k : Int)) ∧ w2.cell? ⟨w1.heap.size, 1, none⟩ = some (.int .i64 (f : Int)) ∧ w2.cell? ⟨w1.heap.size, 2, none⟩ = some (.int .i64 (e : Int)) := by
          rw [hw2]; refine ⟨?_, ?_, ?_⟩ <;> go_simp
        rw [← hw2]
        clear hw2
        have C2 := C1.below hb2
        have hcall := add_any w2 B cb a len cap l v acc pb mb ms ⟨k, f, e⟩ C2 (by omega) (by dsimp only; omega)
        go_fit hcall
        clear hcall
        rintro e'' w3 ⟨rfl, hB3, ⟨v', C3⟩, hfr⟩
        obtain ⟨_, _, t2⟩ := frame_box (hfr w1.heap.size (by omega) (by omega) (by have := C1.pl.lt; omega) (fun hv => by have := (C1.row.own_lt hv).2; omega)) tt
        have HB3 := hid (((HB.out.trans (hb1.mono (by omega))).trans (hb2.mono (by omega))).trans hB3)
        have HC3 := hid C3
        clear hB3 C3 hfr C2 C1 tt hb1 hb2 c0 hCr
        go_wp2_with fail
        go_roundw
        case rel => exact ⟨e, acc ++ [⟨k, f, e⟩], v', hle.2.2, rfl, Chain.snoc HCh.out (by rw [← hL.out]; exact hlt) htA, HC3.out, HB3.out⟩
        case measure => simp [intOf]; omega
    · have hlt2 : ¬ (k : Int) < len := by omega
      go_wp2_with fail
      go_ret
      exact ⟨HB.out, Or.inl ⟨rfl, v, acc, by have h := HCh.out; rw [show k = l.length by rw [← hL.out]; omega] at h; exact h, hCr⟩⟩
end Go.Proofs.YtldmanfgmadbfaaGreatDoor.HH
namespace Go.Proofs.YtldmanfgmadbfaaGreatDoor.HH
set_option maxRecDepth 100000
open Go.RowKit
def inB (n a b : Int) : Bool := decide (a ≤ n) && decide (n ≤ b)
set_option maxHeartbeats 400000 in
theorem In_any (n a b : Int) (w : World) :
    Calls Tryz.prog 31 #[.int .i64 n, .int .i64 a, .int .i64 b] w fun e w' => e = .returned (.bool (inB n a b)) ∧ w' = w := by
  go_enter Tryz.func31, Tryz.ntmps31
  go_wp2
  all_goals (go_ret; refine ⟨ret_bool ?_, rfl⟩; first | (simp_all [inB]; done) | (simp_all [inB]; omega))
theorem bnil (s : ByteArray) : s.toList = [] ↔ s = ByteArray.empty := by
  have h := bempty s
  rw [← ByteArray.size_eq_zero_iff]
  constructor
  · intro e; rw [e] at h; simpa using h.symm
  · intro e; rw [decide_eq_true e] at h; simpa using h
def cntI (l : List Wd) (i : Nat) (most : Int) : Int := if intAt l i (most + 1) = true then (nAt l i : Int) else -1
theorem cntI_at {l : List Wd} {i : Nat} {most : Int} (h : i < l.length) : cntI l i most = if l[i].k = 1 ∧ l[i].s.size = 0 ∧ inB l[i].n 0 most = true then l[i].n else -1 := by
  unfold cntI
  rw [intAt_at l i _ h]
  have e : nAt l i = l[i].n.toNat := by unfold nAt; rw [List.getElem?_eq_getElem h]
  rw [e]
  have key : (decide (l[i].k = 1) && plainB l[i].n l[i].s (most + 1)) = true ↔ (l[i].k = 1 ∧ l[i].s.size = 0 ∧ inB l[i].n 0 most = true) := by
    simp only [plainB, inB, Bool.and_eq_true, decide_eq_true_eq]; omega
  by_cases h1 : l[i].k = 1 ∧ l[i].s.size = 0 ∧ inB l[i].n 0 most = true
  · rw [if_pos h1, if_pos (key.2 h1)]
    have := h1.2.2
    simp only [inB, Bool.and_eq_true, decide_eq_true_eq] at this
    omega
  · rw [if_neg h1, if_neg (fun h => h1 (key.1 h))]
set_option maxHeartbeats 1000000 in
theorem countAt_any (w : World) (B : Nat) (a : Option Addr) (l : List Wd) (len cap i : Nat) (most : Int) (hlen : len = l.length) (hW : Wds w B a l) :
    Calls Tryz.prog 60 #[.slice a len cap, .int .i64 i, .int .i64 most] w fun e w' => e = .returned (.int .i64 (cntI l i most)) ∧ w' = w := by
  have hL := hid hlen
  clear hlen
  by_cases hlt : i < len
  · have hi2 : i < l.length := by rw [← hL.out]; exact hlt
    have hlt2 : (i : Int) < len := by omega
    have hlt3 : ¬ (len : Int) ≤ i := by omega
    obtain ⟨bb, o, rfl, hbB, c0, c1, c2⟩ := hW i hi2
    have HX := hid (cntI_at (most := most) hi2)
    generalize l[i].k = k at c0 HX
    generalize l[i].n = n at c1 HX
    generalize l[i].s = s at c2 HX
    have he := hid (bempty s)
    go_enter Tryz.func60, Tryz.ntmps60
    go_wp2_with (go_at_call 31; refine (In_any _ _ _ _).mono ?_; rintro e w' ⟨rfl, rfl⟩)
    all_goals (go_ret; refine ⟨ret_int ?_, rfl⟩; rw [HX.out]; have e := bnil s; clear HX he; simp_all)
  · have HX := hid (show cntI l i most = -1 by unfold cntI; rw [intAt_no l i _ (by rw [← hL.out]; exact hlt)]; rfl)
    have hlt2 : ¬ (i : Int) < len := by omega
    have hlt3 : (len : Int) ≤ i := by omega
    go_enter Tryz.func60, Tryz.ntmps60
    go_wp2_with fail
    go_ret
    exact ⟨ret_int HX.out.symm, rfl⟩
/-- What the document says begins at an address. -/
def tRef (l : List Wd) (a : Nat) : Option (Nat × Nat) := match l[a]? with
  | none => none
  | some h => if h.s.size = 0 then
      (if h.k = 6 then (if h.n = 0 then fitT l (a + 1) 2 else none)
       else if h.k = 7 then (if h.n = 0 then fitT l (a + 1) 1 else none)
       else if h.k = 8 then (if inB h.n 0 1999 = true ∧ intAt l (a + 1) 41 = true then fitT l (a + 2) (nAt l (a + 1)) else none)
       else if h.k = 9 then (if inB h.n 0 7 = true ∧ intAt l (a + 1) 20 = true ∧ intAt l (a + 2) 7 = true then fitT l (a + 3) (nAt l (a + 2)) else none)
       else if h.k = 10 then (if intAt l (a + 1) 1 = true ∧ intAt l (a + 2) 7 = true then fitT l (a + 3) (nAt l (a + 2)) else none)
       else none)
      else none
def thV (a : Nat) : Option (Nat × Nat) → Value
  | some (f, e) => .tuple #[.int .i64 ((e : Int) - a), .int .i64 ((f : Int) - a)]
  | none => .tuple #[.int .i64 0, .int .i64 0]
theorem tRef_at {l : List Wd} {i : Nat} (h : i < l.length) : tRef l i = if l[i].s.size = 0 then
      (if l[i].k = 6 then (if l[i].n = 0 then fitT l (i + 1) 2 else none)
       else if l[i].k = 7 then (if l[i].n = 0 then fitT l (i + 1) 1 else none)
       else if l[i].k = 8 then (if inB l[i].n 0 1999 = true ∧ intAt l (i + 1) 41 = true then fitT l (i + 2) (nAt l (i + 1)) else none)
       else if l[i].k = 9 then (if inB l[i].n 0 7 = true ∧ intAt l (i + 1) 20 = true ∧ intAt l (i + 2) 7 = true then fitT l (i + 3) (nAt l (i + 2)) else none)
       else if l[i].k = 10 then (if intAt l (i + 1) 1 = true ∧ intAt l (i + 2) 7 = true then fitT l (i + 3) (nAt l (i + 2)) else none)
       else none)
      else none := by unfold tRef; rw [List.getElem?_eq_getElem h]
theorem thV_fit (l : List Wd) (a f n : Nat) : thV a (fitT l f n) = if f + n ≤ l.length then .tuple #[.int .i64 ((f : Int) + n - a), .int .i64 ((f : Int) - a)] else .tuple #[.int .i64 0, .int .i64 0] := by
  unfold fitT
  split
  · simp [thV]
  · rfl
theorem nAt_le {l : List Wd} {i : Nat} {b : Int} (h : intAt l i b = true) : (nAt l i : Int) < b := by
  obtain ⟨_, h0, h1, h2⟩ := intAt_lt h
  omega
theorem intAt_one {l : List Wd} {j : Nat} : intAt l j 1 = true ↔ (intAt l j 20 = true ∧ nAt l j = 0) := by
  unfold intAt nAt
  cases l[j]? with
  | none => simp
  | some x => simp only [plainB, Bool.and_eq_true, decide_eq_true_eq]; omega
set_option maxHeartbeats 4000000 in
theorem thing_any (w : World) (B : Nat) (a : Option Addr) (l : List Wd) (len cap i : Nat) (hlen : len = l.length) (hl : len ≤ 60000) (hi : i < len) (hBw : B ≤ w.heap.size) (hW : Wds w B a l) :
    Calls Tryz.prog 34 #[.slice a len cap, .int .i64 i] w fun e w' => e = .returned (thV i (tRef l i)) ∧ Below w.heap.size w w' := by
  have hL := hid hlen
  clear hlen
  have hi2 : i < l.length := by rw [← hL.out]; exact hi
  have hi3 : (i : Int) < len := by omega
  have HT := hid (tRef_at hi2)
  obtain ⟨bb, o, rfl, hbB, c0, c1, c2⟩ := hW i hi2
  generalize l[i].k = k at c0 HT
  generalize l[i].n = n at c1 HT
  generalize l[i].s = s at c2 HT
  have hbw : bb < w.heap.size := by omega
  obtain ⟨w1, hw1⟩ : ∃ w1, w1 = w.alloc (.cells #[.int .i64 k, .int .i64 n, .string s] 51) := ⟨_, rfl⟩
  have hb1 : Below w.heap.size w (w.alloc (.cells #[.int .i64 k, .int .i64 n, .string s] 51)) := (Below.refl _ _).alloc (Nat.le_refl _) _
  have hW1 := hid (hW.below (hb1.mono hBw))
  have HB := hid hb1
  clear hb1 hw1
  by_cases h6 : k = 6
  · subst h6
    have HE : tRef l i = if s.size = 0 ∧ n = 0 then fitT l (i + 1) 2 else none := by rw [HT.out]; by_cases h1 : s.size = 0 <;> by_cases h2 : n = 0 <;> simp [h1, h2]
    have HE2 := hid HE
    clear HT HE
    go_enter Tryz.func34, Tryz.ntmps34
    go_wp2_with fail
    all_goals
      refine bodyPost_ret (v := .tuple #[.int .i64 _, .int .i64 _]) (by simp [results, Tryz.results34, go_sem]; exact ⟨rfl, rfl⟩) rfl ⟨?_, HB.out⟩
      have e := bnil s
      have z : s.size = 0 ↔ s = ByteArray.empty := ByteArray.size_eq_zero_iff
      have hl' := hL.out
      rw [HE2.out]
      clear HE2 HB hW1 hL hW c0 c1 c2
      by_cases hc : s.size = 0 ∧ n = 0
      · rw [if_pos hc, thV_fit]
        by_cases hf : (i + 1) + 2 ≤ l.length
        · rw [if_pos hf]
          first
            | (simp; omega)
            | (exfalso; simp_all; done)
            | (exfalso; simp_all; omega)
        · first
            | (rw [if_neg hf]; done)
            | (rw [if_neg hf]; rfl)
            | (exfalso; simp_all; done)
            | (exfalso; simp_all; omega)
      · first
          | (rw [if_neg hc]; done)
          | (rw [if_neg hc]; rfl)
          | (exfalso; simp_all; done)
          | (exfalso; simp_all; omega)
  by_cases h7 : k = 7
  · subst h7
    have HE : tRef l i = if s.size = 0 ∧ n = 0 then fitT l (i + 1) 1 else none := by rw [HT.out]; by_cases h1 : s.size = 0 <;> by_cases h2 : n = 0 <;> simp [h1, h2]
    have HE2 := hid HE
    clear HT HE
    go_enter Tryz.func34, Tryz.ntmps34
    go_wp2_with fail
    all_goals
      refine bodyPost_ret (v := .tuple #[.int .i64 _, .int .i64 _]) (by simp [results, Tryz.results34, go_sem]; exact ⟨rfl, rfl⟩) rfl ⟨?_, HB.out⟩
      have e := bnil s
      have z : s.size = 0 ↔ s = ByteArray.empty := ByteArray.size_eq_zero_iff
      have hl' := hL.out
      rw [HE2.out]
      clear HE2 HB hW1 hL hW c0 c1 c2
      by_cases hc : s.size = 0 ∧ n = 0
      · rw [if_pos hc, thV_fit]
        by_cases hf : (i + 1) + 1 ≤ l.length
        · rw [if_pos hf]
          first
            | (simp; omega)
            | (exfalso; simp_all; done)
            | (exfalso; simp_all; omega)
        · first
            | (rw [if_neg hf]; done)
            | (rw [if_neg hf]; rfl)
            | (exfalso; simp_all; done)
            | (exfalso; simp_all; omega)
      · first
          | (rw [if_neg hc]; done)
          | (rw [if_neg hc]; rfl)
          | (exfalso; simp_all; done)
          | (exfalso; simp_all; omega)
  by_cases h8 : k = 8
  · subst h8
    have hc1 := hid (countAt_any _ B _ l len cap (i + 1) 40 hL.out hW1.out)
    cases hx : intAt l (i + 1) 41
    · have HE2 := hid (show tRef l i = none by rw [HT.out]; by_cases h1 : s.size = 0 <;> simp [h1, hx])
      have hcv : cntI l (i + 1) 40 = -1 := by unfold cntI; rw [if_neg (by rw [show (40 : Int) + 1 = 41 from rfl, hx]; simp)]
      rw [hcv] at hc1
      clear HT hcv
      go_enter Tryz.func34, Tryz.ntmps34
      go_wp2_with (first
        | (go_at_call 60; refine hc1.out.mono ?_; rintro e w' ⟨rfl, rfl⟩)
        | (go_at_call 31; refine (In_any _ _ _ _).mono ?_; rintro e w' ⟨rfl, rfl⟩))
      all_goals
        refine bodyPost_ret (v := .tuple #[.int .i64 0, .int .i64 0]) (by simp [results, Tryz.results34, go_sem]) rfl ⟨?_, HB.out⟩
        rw [HE2.out]; rfl
    · have hm := nAt_le hx
      have HE2 := hid (show tRef l i = if s.size = 0 ∧ inB n 0 1999 = true then fitT l (i + 2) (nAt l (i + 1)) else none by rw [HT.out]; by_cases h1 : s.size = 0 <;> simp [h1, hx])
      have hcv : cntI l (i + 1) 40 = (nAt l (i + 1) : Int) := by unfold cntI; rw [if_pos (by rw [show (40 : Int) + 1 = 41 from rfl, hx])]
      rw [hcv] at hc1
      clear HT hcv hx
      generalize nAt l (i + 1) = m at hc1 HE2 hm
      have hm0 : ¬ (m : Int) < 0 := by omega
      cases hin : inB n 0 1999
      · skip
        go_enter Tryz.func34, Tryz.ntmps34
        go_wp2_with (first
          | (go_at_call 60; refine hc1.out.mono ?_; rintro e w' ⟨rfl, rfl⟩)
          | (go_at_call 31; refine (In_any _ _ _ _).mono ?_; rw [hin]; rintro e w' ⟨rfl, rfl⟩))
        all_goals
          refine bodyPost_ret (v := .tuple #[.int .i64 _, .int .i64 _]) (by simp [results, Tryz.results34, go_sem]; exact ⟨rfl, rfl⟩) rfl ⟨?_, HB.out⟩
          have e := bnil s
          have z : s.size = 0 ↔ s = ByteArray.empty := ByteArray.size_eq_zero_iff
          have hl' := hL.out
          rw [HE2.out]
          clear HE2 HB hW1 hL hW c0 c1 c2
          by_cases hc : s.size = 0 ∧ inB n 0 1999 = true
          · rw [if_pos hc, thV_fit]
            by_cases hf : (i + 2) + m ≤ l.length
            · rw [if_pos hf]
              first
                | (simp; omega)
                | (exfalso; simp_all; done)
                | (exfalso; simp_all; omega)
            · first
                | (rw [if_neg hf]; done)
                | (rw [if_neg hf]; rfl)
                | (exfalso; simp_all; done)
                | (exfalso; simp_all; omega)
          · first
              | (rw [if_neg hc]; done)
              | (rw [if_neg hc]; rfl)
              | (exfalso; simp_all; done)
              | (exfalso; simp_all; omega)
      · skip
        go_enter Tryz.func34, Tryz.ntmps34
        go_wp2_with (first
          | (go_at_call 60; refine hc1.out.mono ?_; rintro e w' ⟨rfl, rfl⟩)
          | (go_at_call 31; refine (In_any _ _ _ _).mono ?_; rw [hin]; rintro e w' ⟨rfl, rfl⟩))
        all_goals
          refine bodyPost_ret (v := .tuple #[.int .i64 _, .int .i64 _]) (by simp [results, Tryz.results34, go_sem]; exact ⟨rfl, rfl⟩) rfl ⟨?_, HB.out⟩
          have e := bnil s
          have z : s.size = 0 ↔ s = ByteArray.empty := ByteArray.size_eq_zero_iff
          have hl' := hL.out
          rw [HE2.out]
          clear HE2 HB hW1 hL hW c0 c1 c2
          by_cases hc : s.size = 0 ∧ inB n 0 1999 = true
          · rw [if_pos hc, thV_fit]
            by_cases hf : (i + 2) + m ≤ l.length
            · rw [if_pos hf]
              first
                | (simp; omega)
                | (exfalso; simp_all; done)
                | (exfalso; simp_all; omega)
            · first
                | (rw [if_neg hf]; done)
                | (rw [if_neg hf]; rfl)
                | (exfalso; simp_all; done)
                | (exfalso; simp_all; omega)
          · first
              | (rw [if_neg hc]; done)
              | (rw [if_neg hc]; rfl)
              | (exfalso; simp_all; done)
              | (exfalso; simp_all; omega)
  by_cases h9 : k = 9
  · subst h9
    have hc2 := hid (countAt_any _ B _ l len cap (i + 2) 6 hL.out hW1.out)
    have hc1 := hid (countAt_any _ B _ l len cap (i + 1) 19 hL.out hW1.out)
    cases hx2 : intAt l (i + 2) 7
    · have HE2 := hid (show tRef l i = none by rw [HT.out]; by_cases h1 : s.size = 0 <;> simp [h1, hx2])
      have hcv : cntI l (i + 2) 6 = -1 := by unfold cntI; rw [if_neg (by rw [show (6 : Int) + 1 = 7 from rfl, hx2]; simp)]
      rw [hcv] at hc2
      clear HT hcv
      cases hx1 : intAt l (i + 1) 20
      · have hcv : cntI l (i + 1) 19 = -1 := by unfold cntI; rw [if_neg (by rw [show (19 : Int) + 1 = 20 from rfl, hx1]; simp)]
        rw [hcv] at hc1
        clear hcv
        go_enter Tryz.func34, Tryz.ntmps34
        go_wp2_with (first
          | (go_at_call_of 60 (Value.int IntKind.i64 6); refine hc2.out.mono ?_; rintro e w' ⟨rfl, rfl⟩)
          | (go_at_call_of 60 (Value.int IntKind.i64 19); refine hc1.out.mono ?_; rintro e w' ⟨rfl, rfl⟩)
          | (go_at_call 31; refine (In_any _ _ _ _).mono ?_; rintro e w' ⟨rfl, rfl⟩))
        all_goals
          refine bodyPost_ret (v := .tuple #[.int .i64 0, .int .i64 0]) (by simp [results, Tryz.results34, go_sem]) rfl ⟨?_, HB.out⟩
          rw [HE2.out]; rfl
      · have hcv : cntI l (i + 1) 19 = (nAt l (i + 1) : Int) := by unfold cntI; rw [if_pos (by rw [show (19 : Int) + 1 = 20 from rfl, hx1])]
        rw [hcv] at hc1
        clear hcv
        generalize nAt l (i + 1) = m1 at hc1
        have hm1 : ¬ (m1 : Int) < 0 := by omega
        go_enter Tryz.func34, Tryz.ntmps34
        go_wp2_with (first
          | (go_at_call_of 60 (Value.int IntKind.i64 6); refine hc2.out.mono ?_; rintro e w' ⟨rfl, rfl⟩)
          | (go_at_call_of 60 (Value.int IntKind.i64 19); refine hc1.out.mono ?_; rintro e w' ⟨rfl, rfl⟩)
          | (go_at_call 31; refine (In_any _ _ _ _).mono ?_; rintro e w' ⟨rfl, rfl⟩))
        all_goals
          refine bodyPost_ret (v := .tuple #[.int .i64 0, .int .i64 0]) (by simp [results, Tryz.results34, go_sem]) rfl ⟨?_, HB.out⟩
          rw [HE2.out]; rfl
    · have hm := nAt_le hx2
      have hcv : cntI l (i + 2) 6 = (nAt l (i + 2) : Int) := by unfold cntI; rw [if_pos (by rw [show (6 : Int) + 1 = 7 from rfl, hx2])]
      rw [hcv] at hc2
      clear hcv
      cases hx1 : intAt l (i + 1) 20
      · have hcv : cntI l (i + 1) 19 = -1 := by unfold cntI; rw [if_neg (by rw [show (19 : Int) + 1 = 20 from rfl, hx1]; simp)]
        rw [hcv] at hc1
        clear hcv
        skip
        have HE2 := hid (show tRef l i = none by rw [HT.out]; by_cases h1 : s.size = 0 <;> simp [h1, hx1])
        clear HT
        generalize nAt l (i + 2) = m at hc2 hm
        have hm0 : ¬ (m : Int) < 0 := by omega
        go_enter Tryz.func34, Tryz.ntmps34
        go_wp2_with (first
          | (go_at_call_of 60 (Value.int IntKind.i64 6); refine hc2.out.mono ?_; rintro e w' ⟨rfl, rfl⟩)
          | (go_at_call_of 60 (Value.int IntKind.i64 19); refine hc1.out.mono ?_; rintro e w' ⟨rfl, rfl⟩)
          | (go_at_call 31; refine (In_any _ _ _ _).mono ?_; rintro e w' ⟨rfl, rfl⟩))
        all_goals
          refine bodyPost_ret (v := .tuple #[.int .i64 0, .int .i64 0]) (by simp [results, Tryz.results34, go_sem]) rfl ⟨?_, HB.out⟩
          rw [HE2.out]; rfl
      · have hcv : cntI l (i + 1) 19 = (nAt l (i + 1) : Int) := by unfold cntI; rw [if_pos (by rw [show (19 : Int) + 1 = 20 from rfl, hx1])]
        rw [hcv] at hc1
        clear hcv
        have HE2 := hid (show tRef l i = if s.size = 0 ∧ inB n 0 7 = true then fitT l (i + 3) (nAt l (i + 2)) else none by rw [HT.out]; by_cases h1 : s.size = 0 <;> simp [h1, hx1, hx2])
        clear HT hx1 hx2
        generalize nAt l (i + 1) = m1 at hc1
        generalize nAt l (i + 2) = m at hc2 hm HE2
        have hm0 : ¬ (m : Int) < 0 := by omega
        have hm1 : ¬ (m1 : Int) < 0 := by omega
        cases hin : inB n 0 7
        · skip
          go_enter Tryz.func34, Tryz.ntmps34
          go_wp2_with (first
            | (go_at_call_of 60 (Value.int IntKind.i64 6); refine hc2.out.mono ?_; rintro e w' ⟨rfl, rfl⟩)
            | (go_at_call_of 60 (Value.int IntKind.i64 19); refine hc1.out.mono ?_; rintro e w' ⟨rfl, rfl⟩)
            | (go_at_call 31; refine (In_any _ _ _ _).mono ?_; rw [hin]; rintro e w' ⟨rfl, rfl⟩))
          all_goals
            refine bodyPost_ret (v := .tuple #[.int .i64 _, .int .i64 _]) (by simp [results, Tryz.results34, go_sem]; exact ⟨rfl, rfl⟩) rfl ⟨?_, HB.out⟩
            have e := bnil s
            have z : s.size = 0 ↔ s = ByteArray.empty := ByteArray.size_eq_zero_iff
            have hl' := hL.out
            rw [HE2.out]
            clear HE2 HB hW1 hL hW c0 c1 c2
            by_cases hc : s.size = 0 ∧ inB n 0 7 = true
            · rw [if_pos hc, thV_fit]
              by_cases hf : (i + 3) + m ≤ l.length
              · rw [if_pos hf]
                first
                  | (simp; omega)
                  | (exfalso; simp_all; done)
                  | (exfalso; simp_all; omega)
              · first
                  | (rw [if_neg hf]; done)
                  | (rw [if_neg hf]; rfl)
                  | (exfalso; simp_all; done)
                  | (exfalso; simp_all; omega)
            · first
                | (rw [if_neg hc]; done)
                | (rw [if_neg hc]; rfl)
                | (exfalso; simp_all; done)
                | (exfalso; simp_all; omega)
        · skip
          go_enter Tryz.func34, Tryz.ntmps34
          go_wp2_with (first
            | (go_at_call_of 60 (Value.int IntKind.i64 6); refine hc2.out.mono ?_; rintro e w' ⟨rfl, rfl⟩)
            | (go_at_call_of 60 (Value.int IntKind.i64 19); refine hc1.out.mono ?_; rintro e w' ⟨rfl, rfl⟩)
            | (go_at_call 31; refine (In_any _ _ _ _).mono ?_; rw [hin]; rintro e w' ⟨rfl, rfl⟩))
          all_goals
            refine bodyPost_ret (v := .tuple #[.int .i64 _, .int .i64 _]) (by simp [results, Tryz.results34, go_sem]; exact ⟨rfl, rfl⟩) rfl ⟨?_, HB.out⟩
            have e := bnil s
            have z : s.size = 0 ↔ s = ByteArray.empty := ByteArray.size_eq_zero_iff
            have hl' := hL.out
            rw [HE2.out]
            clear HE2 HB hW1 hL hW c0 c1 c2
            by_cases hc : s.size = 0 ∧ inB n 0 7 = true
            · rw [if_pos hc, thV_fit]
              by_cases hf : (i + 3) + m ≤ l.length
              · rw [if_pos hf]
                first
                  | (simp; omega)
                  | (exfalso; simp_all; done)
                  | (exfalso; simp_all; omega)
              · first
                  | (rw [if_neg hf]; done)
                  | (rw [if_neg hf]; rfl)
                  | (exfalso; simp_all; done)
                  | (exfalso; simp_all; omega)
            · first
                | (rw [if_neg hc]; done)
                | (rw [if_neg hc]; rfl)
                | (exfalso; simp_all; done)
                | (exfalso; simp_all; omega)
  by_cases h10 : k = 10
  · subst h10
    have hc2 := hid (countAt_any _ B _ l len cap (i + 2) 6 hL.out hW1.out)
    have hc1 := hid (countAt_any _ B _ l len cap (i + 1) 19 hL.out hW1.out)
    cases hx2 : intAt l (i + 2) 7
    · have HE2 := hid (show tRef l i = none by rw [HT.out]; by_cases h1 : s.size = 0 <;> simp [h1, hx2])
      have hcv : cntI l (i + 2) 6 = -1 := by unfold cntI; rw [if_neg (by rw [show (6 : Int) + 1 = 7 from rfl, hx2]; simp)]
      rw [hcv] at hc2
      clear HT hcv
      cases hx1 : intAt l (i + 1) 20
      · have hcv : cntI l (i + 1) 19 = -1 := by unfold cntI; rw [if_neg (by rw [show (19 : Int) + 1 = 20 from rfl, hx1]; simp)]
        rw [hcv] at hc1
        clear hcv
        go_enter Tryz.func34, Tryz.ntmps34
        go_wp2_with (first
          | (go_at_call_of 60 (Value.int IntKind.i64 6); refine hc2.out.mono ?_; rintro e w' ⟨rfl, rfl⟩)
          | (go_at_call_of 60 (Value.int IntKind.i64 19); refine hc1.out.mono ?_; rintro e w' ⟨rfl, rfl⟩)
          | (go_at_call 31; refine (In_any _ _ _ _).mono ?_; rintro e w' ⟨rfl, rfl⟩))
        all_goals
          refine bodyPost_ret (v := .tuple #[.int .i64 0, .int .i64 0]) (by simp [results, Tryz.results34, go_sem]) rfl ⟨?_, HB.out⟩
          rw [HE2.out]; rfl
      · have hcv : cntI l (i + 1) 19 = (nAt l (i + 1) : Int) := by unfold cntI; rw [if_pos (by rw [show (19 : Int) + 1 = 20 from rfl, hx1])]
        rw [hcv] at hc1
        clear hcv
        generalize nAt l (i + 1) = m1 at hc1
        have hm1 : ¬ (m1 : Int) < 0 := by omega
        go_enter Tryz.func34, Tryz.ntmps34
        go_wp2_with (first
          | (go_at_call_of 60 (Value.int IntKind.i64 6); refine hc2.out.mono ?_; rintro e w' ⟨rfl, rfl⟩)
          | (go_at_call_of 60 (Value.int IntKind.i64 19); refine hc1.out.mono ?_; rintro e w' ⟨rfl, rfl⟩)
          | (go_at_call 31; refine (In_any _ _ _ _).mono ?_; rintro e w' ⟨rfl, rfl⟩))
        all_goals
          refine bodyPost_ret (v := .tuple #[.int .i64 0, .int .i64 0]) (by simp [results, Tryz.results34, go_sem]) rfl ⟨?_, HB.out⟩
          rw [HE2.out]; rfl
    · have hm := nAt_le hx2
      have hcv : cntI l (i + 2) 6 = (nAt l (i + 2) : Int) := by unfold cntI; rw [if_pos (by rw [show (6 : Int) + 1 = 7 from rfl, hx2])]
      rw [hcv] at hc2
      clear hcv
      cases hx1 : intAt l (i + 1) 20
      · have hcv : cntI l (i + 1) 19 = -1 := by unfold cntI; rw [if_neg (by rw [show (19 : Int) + 1 = 20 from rfl, hx1]; simp)]
        rw [hcv] at hc1
        clear hcv
        have hone : intAt l (i + 1) 1 = false := by rw [Bool.eq_false_iff]; intro h; rw [intAt_one, hx1] at h; simp at h
        have HE2 := hid (show tRef l i = none by rw [HT.out]; by_cases h1 : s.size = 0 <;> simp [h1, hone])
        clear HT
        generalize nAt l (i + 2) = m at hc2 hm
        have hm0 : ¬ (m : Int) < 0 := by omega
        go_enter Tryz.func34, Tryz.ntmps34
        go_wp2_with (first
          | (go_at_call_of 60 (Value.int IntKind.i64 6); refine hc2.out.mono ?_; rintro e w' ⟨rfl, rfl⟩)
          | (go_at_call_of 60 (Value.int IntKind.i64 19); refine hc1.out.mono ?_; rintro e w' ⟨rfl, rfl⟩)
          | (go_at_call 31; refine (In_any _ _ _ _).mono ?_; rintro e w' ⟨rfl, rfl⟩))
        all_goals
          refine bodyPost_ret (v := .tuple #[.int .i64 0, .int .i64 0]) (by simp [results, Tryz.results34, go_sem]) rfl ⟨?_, HB.out⟩
          rw [HE2.out]; rfl
      · have hcv : cntI l (i + 1) 19 = (nAt l (i + 1) : Int) := by unfold cntI; rw [if_pos (by rw [show (19 : Int) + 1 = 20 from rfl, hx1])]
        rw [hcv] at hc1
        clear hcv
        have hone : intAt l (i + 1) 1 = decide (nAt l (i + 1) = 0) := by rw [Bool.eq_iff_iff, intAt_one, hx1]; simp
        have HE2 := hid (show tRef l i = if s.size = 0 ∧ nAt l (i + 1) = 0 then fitT l (i + 3) (nAt l (i + 2)) else none by rw [HT.out]; by_cases h1 : s.size = 0 <;> simp [h1, hone, hx2])
        clear HT hx1 hx2 hone
        generalize nAt l (i + 1) = m1 at hc1 HE2
        generalize nAt l (i + 2) = m at hc2 hm HE2
        have hm0 : ¬ (m : Int) < 0 := by omega
        have hm1 : ¬ (m1 : Int) < 0 := by omega
        go_enter Tryz.func34, Tryz.ntmps34
        go_wp2_with (first
          | (go_at_call_of 60 (Value.int IntKind.i64 6); refine hc2.out.mono ?_; rintro e w' ⟨rfl, rfl⟩)
          | (go_at_call_of 60 (Value.int IntKind.i64 19); refine hc1.out.mono ?_; rintro e w' ⟨rfl, rfl⟩)
          | (go_at_call 31; refine (In_any _ _ _ _).mono ?_; rintro e w' ⟨rfl, rfl⟩))
        all_goals
          refine bodyPost_ret (v := .tuple #[.int .i64 _, .int .i64 _]) (by simp [results, Tryz.results34, go_sem]; exact ⟨rfl, rfl⟩) rfl ⟨?_, HB.out⟩
          have e := bnil s
          have z : s.size = 0 ↔ s = ByteArray.empty := ByteArray.size_eq_zero_iff
          have hl' := hL.out
          rw [HE2.out]
          clear HE2 HB hW1 hL hW c0 c1 c2
          by_cases hc : s.size = 0 ∧ m1 = 0
          · rw [if_pos hc, thV_fit]
            by_cases hf : (i + 3) + m ≤ l.length
            · rw [if_pos hf]
              first
                | (simp; omega)
                | (exfalso; simp_all; done)
                | (exfalso; simp_all; omega)
            · first
                | (rw [if_neg hf]; done)
                | (rw [if_neg hf]; rfl)
                | (exfalso; simp_all; done)
                | (exfalso; simp_all; omega)
          · first
              | (rw [if_neg hc]; done)
              | (rw [if_neg hc]; rfl)
              | (exfalso; simp_all; done)
              | (exfalso; simp_all; omega)
  have HE2 := hid (show tRef l i = none by rw [HT.out]; by_cases h1 : s.size = 0 <;> simp [h1, h6, h7, h8, h9, h10])
  clear HT
  go_enter Tryz.func34, Tryz.ntmps34
  go_wp2_with fail
  all_goals
    refine bodyPost_ret (v := .tuple #[.int .i64 0, .int .i64 0]) (by simp [results, Tryz.results34, go_sem]) rfl ⟨?_, HB.out⟩
    rw [HE2.out]; rfl
end Go.Proofs.YtldmanfgmadbfaaGreatDoor.HH
namespace Go.Proofs.YtldmanfgmadbfaaGreatDoor.HH
set_option maxRecDepth 100000
open Go.RowKit
def wmB (k n : Int) (s : ByteArray) : Bool :=
  if k = 1 then inB n (-1099511627776) 1099511627776 && decide (s.size = 0)
  else if k = 2 then inB n 0 1 && decide (s.size = 0)
  else if k = 3 then decide (n = 0) && decide (s.size = 0)
  else if k = 4 then decide (n = 0) && inB s.size 1 16
  else if k = 5 then decide (s.size = 0)
  else false
set_option maxHeartbeats 1000000 in
theorem wordMay_any (k n : Int) (s : ByteArray) (w : World) :
    Calls Tryz.prog 35 #[.agg #[.int .i64 k, .int .i64 n, .string s]] w fun e w' => e = .returned (.bool (wmB k n s)) ∧ Below w.heap.size w w' := by
  have hb0 := hid ((Below.refl w.heap.size w).alloc (Nat.le_refl _) (.cells #[.int .i64 k, .int .i64 n, .string s] 51))
  go_enter Tryz.func35, Tryz.ntmps35
  go_wp2_with (go_at_call 31; refine (In_any _ _ _ _).mono ?_; rintro e w' ⟨rfl, rfl⟩)
  all_goals (go_ret; refine ⟨ret_bool ?_, ?_⟩)
  all_goals first
    | exact hb0.out
    | exact (Below.refl _ _).alloc (Nat.le_refl _) _
    | (have e := bnil s
       have z : s.toList.isEmpty = decide (s.size = 0) := by rw [← bempty]; cases s.toList <;> rfl
       clear hb0
       simp_all [wmB])
/-- Bools in a row: does something begin there? -/
def Beg (w : World) (gb n : Nat) (acc : List Th) : Prop := ∀ j, j < n → w.cell? ⟨gb, j, none⟩ = some (.bool (acc.any fun t => t.h == j)) ∧ w.frozen? ⟨gb, j, none⟩ = false
theorem Beg.below {w w' : World} {gb n B : Nat} {acc : List Th} (h : Beg w gb n acc) (hb : Below B w w') (hg : gb < B) : Beg w' gb n acc := fun j hj =>
  ⟨(hb.cell (p := ⟨gb, j, none⟩) hg).trans (h j hj).1, (hb.frozen (p := ⟨gb, j, none⟩) hg).trans (h j hj).2⟩
def refB (n : Nat) (acc : List Th) (x : Int) : Bool := decide (0 ≤ x) && decide (x < n) && acc.any fun t => t.h == x.toNat
set_option maxHeartbeats 1000000 in
theorem refersTo_any (w : World) (gb len : Nat) (acc : List Th) (x : Int) (h : Beg w gb len acc) (hl : len ≤ 60000) :
    Calls Tryz.prog 33 #[.slice (some ⟨gb, 0, none⟩) len len, .int .i64 x] w fun e w' => e = .returned (.bool (refB len acc x)) ∧ w' = w := by
  have hin : inB x 0 ((len : Int) - 1) = (decide (0 ≤ x) && decide (x < len)) := by unfold inB; rw [Bool.eq_iff_iff]; simp only [Bool.and_eq_true, decide_eq_true_eq]; omega
  by_cases hx : 0 ≤ x ∧ x < len
  · obtain ⟨m, rfl⟩ := Int.eq_ofNat_of_zero_le hx.1
    have hm : m < len := by omega
    have hm2 : (m : Int) < len := by omega
    obtain ⟨c, _⟩ := h m hm
    have HR := hid (show refB len acc (m : Int) = acc.any fun t => t.h == m by unfold refB; simp [hm])
    generalize (acc.any fun t => t.h == m) = bo at c HR
    have HI := hid (In_any (m : Int) 0 ((len : Int) - 1) w)
    rw [hin, show (decide (0 ≤ (m : Int)) && decide ((m : Int) < len)) = true by simp [hm]] at HI
    clear hin hx h
    go_enter Tryz.func33, Tryz.ntmps33
    go_wp2_with (go_at_call 31; refine HI.out.mono ?_; rintro e w' ⟨rfl, rfl⟩)
    go_ret
    exact ⟨ret_bool HR.out.symm, rfl⟩
  · have hf : (decide (0 ≤ x) && decide (x < len)) = false := by rw [Bool.eq_false_iff]; intro e; simp only [Bool.and_eq_true, decide_eq_true_eq] at e; exact hx e
    have HR := hid (show refB len acc x = false by unfold refB; rw [hf]; rfl)
    have HI := hid (In_any x 0 ((len : Int) - 1) w)
    rw [hin, hf] at HI
    clear hin hx h hf
    go_enter Tryz.func33, Tryz.ntmps33
    go_wp2_with (go_at_call 31; refine HI.out.mono ?_; rintro e w' ⟨rfl, rfl⟩)
    go_ret
    exact ⟨ret_bool HR.out.symm, rfl⟩
inductive ChainR (l : List Wd) : List Th → Nat → Prop
  | nil : ChainR l [] 0
  | snoc {acc : List Th} {a f e : Nat} : ChainR l acc a → a < l.length → tRef l a = some (f, e) → ChainR l (acc ++ [⟨a, f, e⟩]) e
theorem tRef_le {l : List Wd} {a f e : Nat} (h : tRef l a = some (f, e)) : a < f ∧ f ≤ e ∧ e ≤ l.length := by
  unfold tRef at h
  split at h
  · cases h
  · repeat' split at h
    all_goals first
      | cases h
      | (have := fitT_le h; simp at this; omega)
theorem infoB : (Tryz.prog.info? 4).map (fun i => (i.zero, i.size, i.bytes)) = some (some (.bool false), 1, 1) := by kernel_rfl
theorem ownsRow_lt' {w : World} {B k : Nat} {ty : TypeId} {g n cap : Nat} {cells : List Value} (h : w.ownsRow B ty k (.slice (some ⟨g, 0, none⟩) n cap) n cells) : B ≤ g ∧ g < w.heap.size := ownsRow_lt h rfl
theorem beg_made {w1 : World} {base gb n : Nat} (h : w1.ownsRow base 4 1 (.slice (some ⟨gb, 0, none⟩) n n) n (madeCells #[.bool false] (n * 1)).toList) : Beg w1 gb n [] := by
  rcases h.2 with ⟨h', _⟩ | ⟨g, cap, cur, hv, _, hc, _, _, hcs, hcut⟩
  · cases h'
  · injection hv with e1 e2 e3
    injection e1 with e1
    injection e1 with e1
    subst e1 e3
    rw [toList_madeCells_one] at hcut
    intro j hj
    have hj2 : cur[j]? = some (.bool false) := by
      have h1 : (cur.toList.take (n * 1))[j]? = some (.bool false) := by rw [hcut]; simp [hj]
      rw [List.getElem?_take_of_lt (by omega)] at h1
      simpa using h1
    refine ⟨?_, ?_⟩
    · simp only [World.cell?, hc]; simpa using hj2
    · simp [World.frozen?, hc]
theorem Beg.set {w : World} {gb n k f e : Nat} {acc : List Th} (h : Beg w gb n acc) (hk : k < n) : Beg (w.setCell ⟨gb, k, none⟩ (.bool true)) gb n (acc ++ [⟨k, f, e⟩]) := by
  intro j hj
  refine ⟨?_, by rw [World.frozen?_setCell]; exact (h j hj).2⟩
  by_cases e' : j = k
  · subst e'
    rw [World.cell?_setCell_same _ _ _ (h j hj).1]; simp
  · rw [World.cell?_setCell_other _ _ _ _ (by intro x; injection x with _ x; exact e' x.symm), (h j hj).1]
    simp [Ne.symm e']
theorem ChainR.le {l : List Wd} {acc : List Th} {a : Nat} (h : ChainR l acc a) : a ≤ l.length := by
  cases h with
  | nil => simp
  | snoc h1 h2 h3 => exact (tRef_le h3).2.2
set_option maxHeartbeats 2000000 in
theorem beginsOf_any (w : World) (B : Nat) (a : Option Addr) (len cap : Nat) (l : List Wd) (hW : Wds w B a l) (hB : B ≤ w.heap.size) (hlen : len = l.length) (hl : len ≤ 60000) :
    Calls Tryz.prog 32 #[.slice a len cap] w fun e w' => Below w.heap.size w w' ∧ ((e = .returned (.tuple #[.slice (some ⟨w.heap.size, 0, none⟩) len len, .bool true]) ∧ ∃ acc, ChainR l acc l.length ∧ Beg w' w.heap.size len acc ∧ w.heap.size < w'.heap.size) ∨ (e = .returned (.tuple #[.slice none 0 0, .bool false]) ∧ ∃ acc i, ChainR l acc i ∧ i < l.length ∧ tRef l i = none)) := by
  have hL := hid hlen
  clear hlen
  obtain ⟨i0, hi, iz0, iz1, iz2⟩ := info_parts infoB
  have HI := hid hi
  have HZ0 := hid iz0
  have HZ1 := hid iz1
  have HZ2 := hid iz2
  clear hi iz0 iz1 iz2
  go_enter Tryz.func32, Tryz.ntmps32
  go_wp2_with (at_make; refine wpList_make_full _ rfl _ _ 78 rfl w.heap.size 4 i0 (.bool false) 1 Tryz.underlying78 HI.out HZ0.out HZ1.out _ _ _ _ len rfl rfl rfl rfl (by rw [HZ2.out]; omega) (by unfold maxLen; omega) (Nat.le_refl _) ?_; intro w1 hown hgrow)
  have hb1 : Below w.heap.size w w1 := (Below.refl _ _).grown hgrow (Nat.le_refl _) (fun k e => by cases e)
  have HBeg := hid (beg_made hown)
  have hlt1 : w.heap.size < w1.heap.size := (ownsRow_lt' hown).2
  have HB1 := hid hb1
  clear hown hgrow hb1
  generalize hgb : w.heap.size = gb at *
  go_loopw [5] (fun i wr => ∃ (k : Nat) (acc : List Th), k ≤ len ∧ i = .int .i64 k ∧ ChainR l acc k ∧ Beg wr gb len acc ∧ Below gb w wr ∧ gb < wr.heap.size) (fun i _ => len - (intOf i).toNat)
  case atStart => exact ⟨0, [], Nat.zero_le _, rfl, ChainR.nil, HBeg.out, HB1.out, hlt1⟩
  case round =>
    obtain ⟨k, acc, hk, rfl, hch, hbeg, hbr, hglt⟩ := hrel
    have HCh := hid hch
    have HBe := hid hbeg
    have HBr := hid hbr
    clear hch hbeg
    by_cases hlt : k < len
    · have hlt2 : (k : Int) < len := by omega
      go_wp2_with fail
      have hcall := thing_any wr B a l len cap k hL.out hl hlt (by omega) (hW.below (hbr.mono hB))
      cases htA : tRef l k with
      | none =>
        rw [htA] at hcall
        go_fit hcall
        clear hcall
        rintro e w2 ⟨rfl, hb2⟩
        dsimp only [thV]
        go_wp2_with fail
        refine bodyPost_ret (v := .tuple #[.slice none 0 0, .bool false]) (by simp [results, Tryz.results32, go_sem]) rfl ⟨?_, Or.inr ⟨rfl, acc, k, HCh.out, by rw [← hL.out]; exact hlt, htA⟩⟩
        rw [hgb]
        exact HBr.out.trans (hb2.mono (by omega))
      | some p =>
        obtain ⟨f, e⟩ := p
        rw [htA] at hcall
        have hle := tRef_le htA
        rw [← hL.out] at hle
        go_fit hcall
        clear hcall
        rintro e' w2 ⟨rfl, hb2⟩
        dsimp only [thV]
        have hbe2 := HBe.out.below hb2 hglt
        obtain ⟨d0, df⟩ := hbe2 k hlt
        have HBe2 := hid hbe2
        have hz2 := hb2.size
        obtain ⟨m, hm⟩ : ∃ m : Nat, e = k + m := ⟨e - k, by omega⟩
        have hm1 : (e : Int) - k = m := by omega
        have hm0 : ¬ (m : Int) = 0 := by omega
        have hm2 : (m == 0) = false := by simp; omega
        have hke : (k : Int) + m = e := by omega
        have HM := hid hm
        rw [hm1]
        clear hm hbe2 hm1
        go_wp2_with fail
        go_roundw
        case rel => exact ⟨e, acc ++ [⟨k, f, e⟩], hle.2.2, rfl, ChainR.snoc HCh.out (by rw [← hL.out]; exact hlt) htA, HBe2.out.set hlt, (HBr.out.trans (hb2.mono (by omega))).setCell (p := ⟨gb, k, none⟩) (Nat.le_refl _) _, by simp; omega⟩
        case measure => simp [intOf]; omega
    · have hlt2 : ¬ (k : Int) < len := by omega
      have hkl : k = l.length := by rw [← hL.out]; omega
      have HF := hid (show ChainR l acc l.length by have h := HCh.out; rw [hkl] at h; exact h)
      clear hkl
      go_wp2_with fail
      refine bodyPost_ret (v := .tuple #[.slice (some ⟨gb, 0, none⟩) len len, .bool true]) (by simp [results, Tryz.results32, go_sem]) rfl ⟨HBr.out, Or.inl ⟨rfl, acc, HF.out, HBe.out, hglt⟩⟩
end Go.Proofs.YtldmanfgmadbfaaGreatDoor.HH

/- A world in memory of its own: vm's Copy. -/
import Derived.Test.YtecjnlekckmhfaaVCopied
namespace Go.Proofs.Ytecjnlekckmhfaa
open Go.RowKit
/-- Two boxes in a row: a world, and one that is filled in the end. -/
structure WB (W : World) (g : Nat) (u0 u1 u2 u3 u4 r0 r1 r2 r3 r4 : Value) : Prop where
  u0 : W.cell? ⟨g, 0, none⟩ = some u0
  u1 : W.cell? ⟨g, 1, none⟩ = some u1
  u2 : W.cell? ⟨g, 2, none⟩ = some u2
  u3 : W.cell? ⟨g, 3, none⟩ = some u3
  u4 : W.cell? ⟨g, 4, none⟩ = some u4
  e0 : W.frozen? ⟨g, 0, none⟩ = false
  e1 : W.frozen? ⟨g, 1, none⟩ = false
  e2 : W.frozen? ⟨g, 2, none⟩ = false
  e3 : W.frozen? ⟨g, 3, none⟩ = false
  r0 : W.cell? ⟨g + 1, 0, none⟩ = some r0
  r1 : W.cell? ⟨g + 1, 1, none⟩ = some r1
  r2 : W.cell? ⟨g + 1, 2, none⟩ = some r2
  r3 : W.cell? ⟨g + 1, 3, none⟩ = some r3
  r4 : W.cell? ⟨g + 1, 4, none⟩ = some r4
  f0 : W.frozen? ⟨g + 1, 0, none⟩ = false
  f1 : W.frozen? ⟨g + 1, 1, none⟩ = false
  f2 : W.frozen? ⟨g + 1, 2, none⟩ = false
  f3 : W.frozen? ⟨g + 1, 3, none⟩ = false
  f4 : W.frozen? ⟨g + 1, 4, none⟩ = false
theorem WB.keep {W W' : World} {g : Nat} {u0 u1 u2 u3 u4 r0 r1 r2 r3 r4 : Value} (h : WB W g u0 u1 u2 u3 u4 r0 r1 r2 r3 r4) (h0 : W'.heap[g]? = W.heap[g]?) (h1 : W'.heap[g + 1]? = W.heap[g + 1]?) : WB W' g u0 u1 u2 u3 u4 r0 r1 r2 r3 r4 := by
  have c : ∀ o, W'.cell? ⟨g, o, none⟩ = W.cell? ⟨g, o, none⟩ := fun o => World.cell?_of_block (w := W) h0
  have d : ∀ o, W'.cell? ⟨g + 1, o, none⟩ = W.cell? ⟨g + 1, o, none⟩ := fun o => World.cell?_of_block (w := W) h1
  have e : ∀ o, W'.frozen? ⟨g, o, none⟩ = W.frozen? ⟨g, o, none⟩ := fun o => World.frozen?_of_block (w := W) h0
  have f : ∀ o, W'.frozen? ⟨g + 1, o, none⟩ = W.frozen? ⟨g + 1, o, none⟩ := fun o => World.frozen?_of_block (w := W) h1
  exact ⟨(c _).trans h.u0, (c _).trans h.u1, (c _).trans h.u2, (c _).trans h.u3, (c _).trans h.u4, (e _).trans h.e0, (e _).trans h.e1, (e _).trans h.e2, (e _).trans h.e3, (d _).trans h.r0, (d _).trans h.r1, (d _).trans h.r2, (d _).trans h.r3, (d _).trans h.r4, (f _).trans h.f0, (f _).trans h.f1, (f _).trans h.f2, (f _).trans h.f3, (f _).trans h.f4⟩
theorem WB.below {W W' : World} {g N : Nat} {u0 u1 u2 u3 u4 r0 r1 r2 r3 r4 : Value} (h : WB W g u0 u1 u2 u3 u4 r0 r1 r2 r3 r4) (hb : Below N W W') (hN : g + 2 ≤ N) : WB W' g u0 u1 u2 u3 u4 r0 r1 r2 r3 r4 := h.keep (hb.block _ (by omega)) (hb.block _ (by omega))
theorem WB.set0 {W : World} {g : Nat} {u0 u1 u2 u3 u4 r0 r1 r2 r3 r4 : Value} (h : WB W g u0 u1 u2 u3 u4 r0 r1 r2 r3 r4) (v : Value) : WB (W.setCell ⟨g, 0, none⟩ v) g v u1 u2 u3 u4 r0 r1 r2 r3 r4 := by
  exact ⟨World.cell?_setCell_same _ _ _ h.u0, (World.cell?_setCell_other _ _ _ _ (by intro e; injection e with _ e; omega)).trans h.u1, (World.cell?_setCell_other _ _ _ _ (by intro e; injection e with _ e; omega)).trans h.u2, (World.cell?_setCell_other _ _ _ _ (by intro e; injection e with _ e; omega)).trans h.u3, (World.cell?_setCell_other _ _ _ _ (by intro e; injection e with _ e; omega)).trans h.u4, by simpa using h.e0, by simpa using h.e1, by simpa using h.e2, by simpa using h.e3, (World.cell?_setCell_other _ _ _ _ (by intro e; injection e with e; omega)).trans h.r0, (World.cell?_setCell_other _ _ _ _ (by intro e; injection e with e; omega)).trans h.r1, (World.cell?_setCell_other _ _ _ _ (by intro e; injection e with e; omega)).trans h.r2, (World.cell?_setCell_other _ _ _ _ (by intro e; injection e with e; omega)).trans h.r3, (World.cell?_setCell_other _ _ _ _ (by intro e; injection e with e; omega)).trans h.r4, by simpa using h.f0, by simpa using h.f1, by simpa using h.f2, by simpa using h.f3, by simpa using h.f4⟩
theorem WB.set1 {W : World} {g : Nat} {u0 u1 u2 u3 u4 r0 r1 r2 r3 r4 : Value} (h : WB W g u0 u1 u2 u3 u4 r0 r1 r2 r3 r4) (v : Value) : WB (W.setCell ⟨g, 1, none⟩ v) g u0 v u2 u3 u4 r0 r1 r2 r3 r4 := by
  exact ⟨(World.cell?_setCell_other _ _ _ _ (by intro e; injection e with _ e; omega)).trans h.u0, World.cell?_setCell_same _ _ _ h.u1, (World.cell?_setCell_other _ _ _ _ (by intro e; injection e with _ e; omega)).trans h.u2, (World.cell?_setCell_other _ _ _ _ (by intro e; injection e with _ e; omega)).trans h.u3, (World.cell?_setCell_other _ _ _ _ (by intro e; injection e with _ e; omega)).trans h.u4, by simpa using h.e0, by simpa using h.e1, by simpa using h.e2, by simpa using h.e3, (World.cell?_setCell_other _ _ _ _ (by intro e; injection e with e; omega)).trans h.r0, (World.cell?_setCell_other _ _ _ _ (by intro e; injection e with e; omega)).trans h.r1, (World.cell?_setCell_other _ _ _ _ (by intro e; injection e with e; omega)).trans h.r2, (World.cell?_setCell_other _ _ _ _ (by intro e; injection e with e; omega)).trans h.r3, (World.cell?_setCell_other _ _ _ _ (by intro e; injection e with e; omega)).trans h.r4, by simpa using h.f0, by simpa using h.f1, by simpa using h.f2, by simpa using h.f3, by simpa using h.f4⟩
theorem WB.set2 {W : World} {g : Nat} {u0 u1 u2 u3 u4 r0 r1 r2 r3 r4 : Value} (h : WB W g u0 u1 u2 u3 u4 r0 r1 r2 r3 r4) (v : Value) : WB (W.setCell ⟨g, 2, none⟩ v) g u0 u1 v u3 u4 r0 r1 r2 r3 r4 := by
  exact ⟨(World.cell?_setCell_other _ _ _ _ (by intro e; injection e with _ e; omega)).trans h.u0, (World.cell?_setCell_other _ _ _ _ (by intro e; injection e with _ e; omega)).trans h.u1, World.cell?_setCell_same _ _ _ h.u2, (World.cell?_setCell_other _ _ _ _ (by intro e; injection e with _ e; omega)).trans h.u3, (World.cell?_setCell_other _ _ _ _ (by intro e; injection e with _ e; omega)).trans h.u4, by simpa using h.e0, by simpa using h.e1, by simpa using h.e2, by simpa using h.e3, (World.cell?_setCell_other _ _ _ _ (by intro e; injection e with e; omega)).trans h.r0, (World.cell?_setCell_other _ _ _ _ (by intro e; injection e with e; omega)).trans h.r1, (World.cell?_setCell_other _ _ _ _ (by intro e; injection e with e; omega)).trans h.r2, (World.cell?_setCell_other _ _ _ _ (by intro e; injection e with e; omega)).trans h.r3, (World.cell?_setCell_other _ _ _ _ (by intro e; injection e with e; omega)).trans h.r4, by simpa using h.f0, by simpa using h.f1, by simpa using h.f2, by simpa using h.f3, by simpa using h.f4⟩
theorem WB.set3 {W : World} {g : Nat} {u0 u1 u2 u3 u4 r0 r1 r2 r3 r4 : Value} (h : WB W g u0 u1 u2 u3 u4 r0 r1 r2 r3 r4) (v : Value) : WB (W.setCell ⟨g, 3, none⟩ v) g u0 u1 u2 v u4 r0 r1 r2 r3 r4 := by
  exact ⟨(World.cell?_setCell_other _ _ _ _ (by intro e; injection e with _ e; omega)).trans h.u0, (World.cell?_setCell_other _ _ _ _ (by intro e; injection e with _ e; omega)).trans h.u1, (World.cell?_setCell_other _ _ _ _ (by intro e; injection e with _ e; omega)).trans h.u2, World.cell?_setCell_same _ _ _ h.u3, (World.cell?_setCell_other _ _ _ _ (by intro e; injection e with _ e; omega)).trans h.u4, by simpa using h.e0, by simpa using h.e1, by simpa using h.e2, by simpa using h.e3, (World.cell?_setCell_other _ _ _ _ (by intro e; injection e with e; omega)).trans h.r0, (World.cell?_setCell_other _ _ _ _ (by intro e; injection e with e; omega)).trans h.r1, (World.cell?_setCell_other _ _ _ _ (by intro e; injection e with e; omega)).trans h.r2, (World.cell?_setCell_other _ _ _ _ (by intro e; injection e with e; omega)).trans h.r3, (World.cell?_setCell_other _ _ _ _ (by intro e; injection e with e; omega)).trans h.r4, by simpa using h.f0, by simpa using h.f1, by simpa using h.f2, by simpa using h.f3, by simpa using h.f4⟩
theorem wB_born (w : World) (u0 u1 u2 u3 u4 r0 r1 r2 r3 r4 : Value) (t t' : TypeId) (W : World) (hW : W = (w.alloc (.cells #[u0, u1, u2, u3, u4] t)).alloc (.cells #[r0, r1, r2, r3, r4] t')) :
    WB W w.heap.size u0 u1 u2 u3 u4 r0 r1 r2 r3 r4 ∧ W.heap.size = w.heap.size + 2 ∧ Below w.heap.size w W := by
  subst hW
  refine ⟨⟨?_, ?_, ?_, ?_, ?_, ?_, ?_, ?_, ?_, ?_, ?_, ?_, ?_, ?_, ?_, ?_, ?_, ?_, ?_⟩, by simp, below_2 _ _ _⟩ <;> go_simp
structure Wv where
  fa : Option Addr
  fcap : Nat
  fs : List Fn
  ga : Option Addr
  gcap : Nat
  gs : List Gl
  ra : Option Addr
  rcap : Nat
  rs : List Rc
  ha : Option Addr
  hcap : Nat
  hs : List Wd
structure subW (w : World) (S : Nat → Prop) (x : Wv) : Prop where
  f : Cs w S x.fa (flatC fnC x.fs)
  fs : ∀ y, y ∈ x.fs → subF w S y
  g : Cs w S x.ga (flatC glC x.gs)
  r : Cs w S x.ra (flatC rcC x.rs)
  rs : ∀ y, y ∈ x.rs → subR w S y
  h : Cs w S x.ha (flatC wdC x.hs)
theorem subW_keep {w w' : World} {S S' : Nat → Prop} {x : Wv} (h : subW w S x) (hk : ∀ b, S b → w'.heap[b]? = w.heap[b]?) (hs : ∀ b, S b → S' b) : subW w' S' x :=
  ⟨h.f.keep hk hs, fun y hy => subF_keep (h.fs y hy) hk hs, h.g.keep hk hs, h.r.keep hk hs, fun y hy => subR_keep (h.rs y hy) hk hs, h.h.keep hk hs⟩
structure bigW (x : Wv) : Prop where
  f : x.fs.length * 48 ≤ 140737488355328
  fs : ∀ y, y ∈ x.fs → bigF y
  g : x.gs.length * 48 ≤ 140737488355328
  r : x.rs.length * 64 ≤ 140737488355328
  rs : ∀ y, y ∈ x.rs → bigR y
  h : x.hs.length * 32 ≤ 140737488355328
structure sameW (x y : Wv) : Prop where
  f : x.fs.map datF = y.fs.map datF
  g : x.gs = y.gs
  r : x.rs.map datR = y.rs.map datR
  h : x.hs = y.hs
theorem set_fn (s : Fn) (a : Option Addr) (c : Nat) : fnC ⟨s.p, s.l, s.c, a, c, s.code⟩ = (fnC s).set 3 (.slice a s.code.length c) := rfl
abbrev zS : Value := .slice none 0 0
/-- How far the loops are. -/
structure LpF (w w3 wr : World) (L1 : Nat) (a1 : Option Addr) (n cap1 : Nat) (u1 u2 u3 u4 : Value) (fs : List Fn) (k : Nat) : Prop where
  half : ∃ ks, Half wr L1 w3.heap.size a1 fnC subF datF fs k ks
  box : WB wr w.heap.size (.slice a1 n cap1) u1 u2 u3 u4 zS zS zS zS (.int .i64 0)
  bel : Below w.heap.size w wr
  size : w3.heap.size ≤ wr.heap.size
structure LpR (w w3 wr : World) (L1 : Nat) (a1 : Option Addr) (n cap1 : Nat) (u0 u1 u3 u4 : Value) (rs : List Rc) (k : Nat) : Prop where
  half : ∃ ks, Half wr L1 w3.heap.size a1 rcC subR datR rs k ks
  box : WB wr w.heap.size u0 u1 (.slice a1 n cap1) u3 u4 zS zS zS zS (.int .i64 0)
  fr : Fr w.heap.size L1 w3 wr
theorem bx4 (w : World) (u0 u1 u2 u3 : Value) (t : TypeId) (W : World) (hW : W = w.alloc (.cells #[u0, u1, u2, u3] t)) : W.cell? ⟨w.heap.size, 3, none⟩ = some u3 ∧ W.heap.size = w.heap.size + 1 ∧ Below w.heap.size w W := by
  subst hW
  refine ⟨?_, by simp, (Below.refl _ _).alloc (Nat.le_refl _) _⟩; go_simp
theorem bx3 (w : World) (u0 u1 u2 : Value) (t : TypeId) (W : World) (hW : W = w.alloc (.cells #[u0, u1, u2] t)) : (W.cell? ⟨w.heap.size, 0, none⟩ = some u0 ∧ W.cell? ⟨w.heap.size, 1, none⟩ = some u1 ∧ W.cell? ⟨w.heap.size, 2, none⟩ = some u2) ∧ W.heap.size = w.heap.size + 1 ∧ Below w.heap.size w W := by
  subst hW
  refine ⟨⟨?_, ?_, ?_⟩, by simp, (Below.refl _ _).alloc (Nat.le_refl _) _⟩ <;> go_simp
theorem cs_eq {w : World} {S : Nat → Prop} {a : Option Addr} {cs cs' : List Value} (h : Cs w S a cs) (e : cs = cs') : Cs w S a cs' := e ▸ h

set_option maxHeartbeats 8000000 in
theorem Copy_any (w : World) (S : Nat → Prop) (x : Wv) (lim : Int) (n1 n2 n3 n4 : Nat) (hA : subW w S x) (hS : ∀ b, S b → b < w.heap.size) (hbig : bigW x) (hn1 : n1 = x.fs.length) (hn2 : n2 = x.gs.length) (hn3 : n3 = x.rs.length) (hn4 : n4 = x.hs.length) :
    Calls Try.prog 4 #[.agg #[.slice x.fa n1 x.fcap, .slice x.ga n2 x.gcap, .slice x.ra n3 x.rcap, .slice x.ha n4 x.hcap, .int .i64 lim]] w fun e w' => ∃ y : Wv, e = .returned (.agg #[.slice y.fa n1 y.fcap, .slice y.ga n2 y.gcap, .slice y.ra n3 y.rcap, .slice y.ha n4 y.hcap, .int .i64 lim]) ∧ sameW y x ∧ Below w.heap.size w w' ∧ subW w' (fun b => w.heap.size ≤ b ∧ b < w'.heap.size) y := by
  have HN1 := hid hn1
  have HN2 := hid hn2
  have HN3 := hid hn3
  have HN4 := hid hn4
  have hb1 : n1 * 48 ≤ 140737488355328 := by rw [hn1]; exact hbig.f
  have hb2 : n2 * 48 ≤ 140737488355328 := by rw [hn2]; exact hbig.g
  have hb3 : n3 * 64 ≤ 140737488355328 := by rw [hn3]; exact hbig.r
  have hb4 : n4 * 32 ≤ 140737488355328 := by rw [hn4]; exact hbig.h
  clear hn1 hn2 hn3 hn4
  obtain ⟨w2, hw2⟩ : ∃ w2, w2 = (w.alloc (.cells #[.slice x.fa n1 x.fcap, .slice x.ga n2 x.gcap, .slice x.ra n3 x.rcap, .slice x.ha n4 x.hcap, .int .i64 lim] 29)).alloc (.cells #[.slice none 0 0, .slice none 0 0, .slice none 0 0, .slice none 0 0, .int .i64 0] 29) := ⟨_, rfl⟩
  obtain ⟨K2, hz2, hB2⟩ := wB_born w _ _ _ _ _ _ _ _ _ _ _ _ w2 hw2
  have HC := hid (cloneFn w2 S x.fa n1 x.fcap (flatC fnC x.fs) (hA.f.below hB2 hS) (fun b hb => by have := hS b hb; omega) (by rw [flatC_length fnC_len, HN1.out]) (flatC_one fnC_one _) (by omega))
  have H2 := hid hw2
  have HK2 := hid K2
  have HB2 := hid hB2
  have HSf := hid (fun i (hi : i < x.fs.length) => hA.fs _ (List.getElem_mem hi))
  have HSr := hid (fun i (hi : i < x.rs.length) => hA.rs _ (List.getElem_mem hi))
  have HG := hid hA.g
  have HR := hid hA.r
  have HH := hid hA.h
  have HBf := hid (fun i (hi : i < x.fs.length) => hbig.fs _ (List.getElem_mem hi))
  have HBr := hid (fun i (hi : i < x.rs.length) => hbig.rs _ (List.getElem_mem hi))
  have HRet := hid (fun (y : Wv) (h1 : y.fs.map datF = x.fs.map datF) (h2 : y.gs = x.gs) (h3 : y.rs.map datR = x.rs.map datR) (h4 : y.hs = x.hs) => (⟨h1, h2, h3, h4⟩ : sameW y x))
  clear hw2 hB2 hA hbig K2
  generalize x.fa = xfa at *
  generalize x.fcap = xfc at *
  generalize x.ga = xga at *
  generalize x.gcap = xgc at *
  generalize x.ra = xra at *
  generalize x.rcap = xrc at *
  generalize x.ha = xha at *
  generalize x.hcap = xhc at *
  generalize x.fs = fs at *
  generalize x.gs = gs at *
  generalize x.rs = rs at *
  generalize x.hs = hs at *
  go_enter Try.func4, Try.ntmps4
  go_upto_region 1 with fail
  rw [← H2.out]
  obtain ⟨u0, u1, u2, u3, u4, e0, e1, e2, e3, r0, r1, r2, r3, r4, f0, f1, f2, f3, f4⟩ := HK2.out
  go_wp2_with fail
  have hcall := HC.out
  go_fit hcall
  clear hcall
  rintro e w3 ⟨a1, cap1, rfl, hc1, hF3⟩
  have hz3 := hF3.bel.size
  have K3 := HK2.out.below hF3.bel (by omega)
  have HB3 := hid (HB2.out.trans (hF3.bel.mono (by omega)))
  have K4 := K3.set0 (.slice a1 n1 cap1)
  obtain ⟨w4, hw4⟩ : ∃ w4, w4 = w3.setCell ⟨w.heap.size, 0, none⟩ (.slice a1 n1 cap1) := ⟨_, rfl⟩
  have hz4 : w4.heap.size = w3.heap.size := by rw [hw4]; simp
  have hB4 : Below w.heap.size w w4 := by rw [hw4]; exact HB3.out.setCell (p := ⟨w.heap.size, 0, none⟩) (Nat.le_refl _) _
  rw [← hw4] at K4
  have hH4 : Half w4 w2.heap.size w3.heap.size a1 fnC subF datF fs 0 fs := (Half.begin hF3).drop (w' := w4) subF_keep (fun b h1 _ => by rw [hw4]; exact Below.heap_setCell _ _ _ _ (by dsimp only; omega)) (Nat.le_refl _) hz3 (by omega)
  have L4 := hid (LpF.mk ⟨fs, hH4⟩ K4 hB4 (by omega) : LpF w w3 w4 w2.heap.size a1 n1 cap1 (.slice xga n2 xgc) (.slice xra n3 xrc) (.slice xha n4 xhc) (.int .i64 lim) fs 0)
  have H4 := hid hw4
  clear u0 u1 u2 u3 u4 e0 e1 e2 e3 r0 r1 r2 r3 r4 f0 f1 f2 f3 f4
  obtain ⟨u0, u1, u2, u3, u4, e0, e1, e2, e3, r0, r1, r2, r3, r4, f0, f1, f2, f3, f4⟩ := K3
  clear hw4 hH4 hB4 K4 hF3
  go_upto_region 2 with fail
  rw [← H4.out]
  clear u0 u1 u2 u3 u4 e0 e1 e2 e3 r0 r1 r2 r3 r4 f0 f1 f2 f3 f4
  obtain ⟨u0, u1, u2, u3, u4, e0, e1, e2, e3, r0, r1, r2, r3, r4, f0, f1, f2, f3, f4⟩ := L4.out.box
  go_wp2_with fail
  clear u0 u1 u2 u3 u4 e0 e1 e2 e3 r0 r1 r2 r3 r4 f0 f1 f2 f3 f4
  have HZ4 := hid hz4
  clear hz4
  go_loopw [14] (fun i wr => ∃ k : Nat, k ≤ n1 ∧ i = .int .i64 k ∧ LpF w w3 wr w2.heap.size a1 n1 cap1 (.slice xga n2 xgc) (.slice xra n3 xrc) (.slice xha n4 xhc) (.int .i64 lim) fs k) (fun i _ => n1 - (intOf i).toNat)
  case atStart => exact ⟨0, Nat.zero_le _, rfl, L4.out⟩
  case round =>
    obtain ⟨k, hk, rfl, hL⟩ := hrel
    obtain ⟨ks, hH⟩ := hL.half
    have hlen := hH.len
    by_cases hlt : k < n1
    · have hlt2 : (k : Int) < n1 := by omega
      have hk0 : k < fs.length := by rw [← HN1.out]; exact hlt
      have hk2 : k < ks.length := by omega
      have hks := hH.rest k hk2 hk0 (Nat.le_refl _)
      obtain ⟨bb, o, rfl, hbb, h1⟩ := cell1 fnC_len hH.row hk2 (by omega)
      have c0 := h1 0 _ rfl
      have c1 := h1 1 _ rfl
      have c2 := h1 2 _ rfl
      have c3 := h1 3 _ rfl
      have hfz : wr.frozen? ⟨bb, o + k * 4 + 3, none⟩ = false := by
        have := hH.free _ rfl (k * 4 + 3) (by rw [flatC_length fnC_len]; omega)
        rw [Nat.add_assoc]; exact this
      simp only [Nat.add_zero] at c0
      rw [← Nat.add_assoc] at c1 c2 c3
      have hsub := HSf.out k hk0
      have hbg := HBf.out k hk0
      rw [← hks] at hsub hbg
      unfold subF at hsub
      unfold bigF at hbg
      obtain ⟨wb, hwb⟩ : ∃ wb, wb = wr.alloc (.cells #[.int .i64 ks[k].p, .int .i64 ks[k].l, .int .i64 ks[k].c, .slice ks[k].adr ks[k].code.length ks[k].cap] 36) := ⟨_, rfl⟩
      obtain ⟨t1, hzb, hbb1⟩ := bx4 wr _ _ _ _ _ wb hwb
      have HStep := hid (fun (wq : World) (a2 : Option Addr) (cap2 : Nat) (hbq : Below wr.heap.size wr wq) (hrow : Cs wq (fun b => wb.heap.size ≤ b ∧ b < wq.heap.size) a2 (flatC insC ks[k].code)) => (by
        have hp := hH.put fnC_len subF_keep hk2 ⟨ks[k].p, ks[k].l, ks[k].c, a2, cap2, ks[k].code⟩ rfl 3 (by omega) _ (set_fn ks[k] a2 cap2) hbq hL.size (hrow.keep (fun _ _ => rfl) (fun b hb => ⟨by have := hL.size; omega, hb.2⟩))
        rw [← Nat.add_assoc] at hp
        exact ⟨⟨_, hp⟩, (hL.box.below hbq (by have := hL.size; omega)).keep (Below.heap_setCell _ _ _ _ (by dsimp only; omega)) (Below.heap_setCell _ _ _ _ (by dsimp only; omega)), (hL.bel.trans (hbq.mono (by have := hL.size; omega))).setCell (p := ⟨bb, _, none⟩) (by dsimp only; omega) _, by simp; exact Nat.le_trans hL.size hbq.size⟩ : LpF w w3 (wq.setCell ⟨bb, o + k * 4 + 3, none⟩ (.slice a2 ks[k].code.length cap2)) w2.heap.size (some ⟨bb, o, none⟩) n1 cap1 (.slice xga n2 xgc) (.slice xra n3 xrc) (.slice xha n4 xhc) (.int .i64 lim) fs (k + 1)))
      have HCb := hid (fun (w' : World) (hb : Below wb.heap.size wb w') => (cloneIns w' S ks[k].adr ks[k].code.length ks[k].cap (flatC insC ks[k].code) ((Cs.below hsub hL.bel hS).below (hbb1.trans (hb.mono (by omega))) (fun b hb => by have := hS b hb; have := hL.size; omega)) (fun b hb' => by have := hS b hb'; have := hb.size; have := hL.size; omega) (by rw [flatC_length insC_len]) (flatC_one insC_one _) (by omega)).mono (fun e w'' (h : ∃ a' cap', e = .returned (.slice a' ks[k].code.length cap') ∧ ks[k].code.length ≤ cap' ∧ FreshC w' w'' a' (flatC insC ks[k].code)) => (by
        obtain ⟨a', cap', q1, _, q3⟩ := h
        exact ⟨a', cap', q1, hb.trans (q3.bel.mono hb.size), q3.row.keep (fun _ _ => rfl) (fun b hb' => ⟨by have := hb.size; omega, hb'.2⟩)⟩ : ∃ a' cap', e = .returned (.slice a' ks[k].code.length cap') ∧ Below wb.heap.size wb w'' ∧ Cs w'' (fun b => wb.heap.size ≤ b ∧ b < w''.heap.size) a' (flatC insC ks[k].code))))
      obtain ⟨u0, u1, u2, u3, u4, e0, e1, e2, e3, r0, r1, r2, r3, r4, f0, f1, f2, f3, f4⟩ := hL.box
      have hLs := hL.size
      have HK := hid (fun (w' : World) (hb : Below wb.heap.size wb w') => (⟨(hbb1.trans (hb.mono (by omega)) |>.cell (p := ⟨w.heap.size, 0, none⟩) (by dsimp only; omega)).trans u0, (hb.cell (p := ⟨wr.heap.size, 3, none⟩) (by dsimp only; omega)).trans t1⟩ : w'.cell? ⟨w.heap.size, 0, none⟩ = some (.slice (some ⟨bb, o, none⟩) n1 cap1) ∧ w'.cell? ⟨wr.heap.size, 3, none⟩ = some (.slice ks[k].adr ks[k].code.length ks[k].cap)))
      have HKs := hid (fun (w' : World) (v : Value) (hb : Below wb.heap.size wb w') => (⟨(World.cell?_setCell_other _ _ _ _ (by intro e; injection e with e; omega)).trans (HK.out _ hb).1, (World.cell?_setCell_other _ _ _ _ (by intro e; injection e with e; omega)).trans (HK.out _ hb).2⟩ : (w'.setCell ⟨bb, o + k * 4 + 3, none⟩ v).cell? ⟨w.heap.size, 0, none⟩ = some (.slice (some ⟨bb, o, none⟩) n1 cap1) ∧ (w'.setCell ⟨bb, o + k * 4 + 3, none⟩ v).cell? ⟨wr.heap.size, 3, none⟩ = some (.slice ks[k].adr ks[k].code.length ks[k].cap)))
      have HBw := hid (fun (w' : World) (hb : Below wb.heap.size wb w') => hbb1.trans (hb.mono (by omega)))
      have HQ := hid (fun (w' : World) (hb : Below wb.heap.size wb w') => (⟨(hbb1.trans (hb.mono (by omega)) |>.cell (p := ⟨bb, o + k * 4 + 3, none⟩) (by dsimp only; omega)).trans c3, (hbb1.trans (hb.mono (by omega)) |>.frozen (p := ⟨bb, o + k * 4 + 3, none⟩) (by dsimp only; omega)).trans hfz⟩ : w'.cell? ⟨bb, o + k * 4 + 3, none⟩ = some (.slice ks[k].adr ks[k].code.length ks[k].cap) ∧ w'.frozen? ⟨bb, o + k * 4 + 3, none⟩ = false))
      have HWb := hid hwb
      have hbl : bb < wr.heap.size := by omega
      clear hH hL hsub hwb hbb1 hks h1 hlen hbg u1 u2 u3 u4 e0 e1 e2 e3 r0 r1 r2 r3 r4 f0 f1 f2 f3 f4
      generalize ks[k].code = code at *
      generalize ks[k].p = kp at *
      generalize ks[k].l = kl at *
      generalize ks[k].c = kcc at *
      generalize ks[k].adr = ka at *
      generalize ks[k].cap = kc at *
      generalize code.length = cl at *
      go_upto_region 5 with fail
      rw [← HWb.out]
      clear c0 c1 c2 c3 u0 hfz
      go_region_held3 (fun w' => w'.cell? ⟨w.heap.size, 0, none⟩ = some (.slice (some ⟨bb, o, none⟩) n1 cap1) ∧ w'.cell? ⟨wr.heap.size, 3, none⟩ = some (.slice ka cl kc))
        (first | (refine HK.out _ ?_; first | assumption | exact bdrew (Below.refl _ _) 1) | (refine HKs.out _ _ ?_; assumption))
        (first
        | (go_at_call 7; refine (HCb.out _ (by first | exact bdrew (Below.refl _ _) 1)).mono ?_; rintro e w10 ⟨a2, cap2, rfl, hb10, hr10⟩; have hq10 := HQ.out _ hb10; obtain ⟨hq1, hq2⟩ := hq10))
      all_goals
        have HX := hid (HStep.out _ _ cap2 (HBw.out _ hb10) hr10)
        clear hb10 hr10
        go_wp2_with fail
        go_roundw
        case rel => exact ⟨k + 1, by omega, by go_num, HX.out⟩
        case measure => simp [intOf]; omega
    · have hlt2 : ¬ (k : Int) < n1 := by omega
      obtain ⟨wv, rfl⟩ : ∃ wv, wv = wr := ⟨_, rfl⟩
      obtain ⟨hv1, hv2⟩ := hH.all subF_keep (by have := HN1.out; omega) hz3 hL.size
      have HV := hid (And.intro hv1 hv2)
      have HD := hid hH.dat
      have hLs := hL.size
      have HBox := hid hL.box
      have HBv := hid hL.bel
      have HCg := hid (cloneGl wv S xga n2 xgc (flatC glC gs) (HG.out.below hL.bel hS) (fun b hb => by have := hS b hb; omega) (by rw [flatC_length glC_len, HN2.out]) (flatC_one glC_one _) (by omega))
      obtain ⟨u0, u1, u2, u3, u4, e0, e1, e2, e3, r0, r1, r2, r3, r4, f0, f1, f2, f3, f4⟩ := hL.box
      clear hH hL hv1 hv2 hlen
      go_wp2_with fail
      have hcall := HCg.out
      go_fit hcall
      clear hcall
      rintro e w5 ⟨a2, cap2, rfl, hc2, hF5⟩
      have hz5 := hF5.bel.size
      have K5 := HBox.out.below hF5.bel (by omega)
      have K6 := K5.set1 (.slice a2 n2 cap2)
      obtain ⟨w6, hw6⟩ : ∃ w6, w6 = w5.setCell ⟨w.heap.size, 1, none⟩ (.slice a2 n2 cap2) := ⟨_, rfl⟩
      rw [← hw6] at K6
      have hz6 : w6.heap.size = w5.heap.size := by rw [hw6]; simp
      have HF6 := hid (show Fr w.heap.size wv.heap.size wv w6 by rw [hw6]; exact (Fr.of hF5.bel).setCell (Or.inl rfl) _)
      have HG6 := hid (show Cs w6 (fun b => wv.heap.size ≤ b ∧ b < w6.heap.size) a2 (flatC glC gs) from hF5.row.keep (fun b hb => by rw [hw6]; exact Below.heap_setCell _ _ _ _ (by dsimp only; omega)) (fun b hb => ⟨hb.1, by omega⟩))
      have HK6 := hid K6
      have hB6 := HBv.out.trans (HF6.out.below (by omega))
      have HCr := hid (cloneRc w6 S xra n3 xrc (flatC rcC rs) (HR.out.below hB6 hS) (fun b hb => by have := hS b hb; omega) (by rw [flatC_length rcC_len, HN3.out]) (flatC_one rcC_one _) (by omega))
      have HB6 := hid hB6
      have H6 := hid hw6
      have hs6 : wv.heap.size ≤ w6.heap.size := by omega
      clear u0 u1 u2 u3 u4 e0 e1 e2 e3 r0 r1 r2 r3 r4 f0 f1 f2 f3 f4
      obtain ⟨u0, u1, u2, u3, u4, e0, e1, e2, e3, r0, r1, r2, r3, r4, f0, f1, f2, f3, f4⟩ := K5
      clear hw6 K6 hF5 hz6 hB6 hz5
      go_upto_region 8 with fail
      rw [← H6.out]
      clear u0 u1 u2 u3 u4 e0 e1 e2 e3 r0 r1 r2 r3 r4 f0 f1 f2 f3 f4
      obtain ⟨u0, u1, u2, u3, u4, e0, e1, e2, e3, r0, r1, r2, r3, r4, f0, f1, f2, f3, f4⟩ := HK6.out
      go_wp2_with fail
      have hcall := HCr.out
      go_fit hcall
      clear hcall
      rintro e w7 ⟨a3, cap3, rfl, hc3, hF7⟩
      have hz7 := hF7.bel.size
      have K7 := HK6.out.below hF7.bel (by omega)
      have K8 := K7.set2 (.slice a3 n3 cap3)
      obtain ⟨w8, hw8⟩ : ∃ w8, w8 = w7.setCell ⟨w.heap.size, 2, none⟩ (.slice a3 n3 cap3) := ⟨_, rfl⟩
      rw [← hw8] at K8
      have hz8 : w8.heap.size = w7.heap.size := by rw [hw8]; simp
      have hH8 : Half w8 w6.heap.size w7.heap.size a3 rcC subR datR rs 0 rs := (Half.begin hF7).drop (w' := w8) subR_keep (fun b h1 _ => by rw [hw8]; exact Below.heap_setCell _ _ _ _ (by dsimp only; omega)) (Nat.le_refl _) hz7 (by omega)
      rw [← hz8] at hH8
      have L8 := hid (LpR.mk ⟨rs, hH8⟩ K8 (Fr.refl _ _ _) : LpR w w8 w8 w6.heap.size a3 n3 cap3 (.slice a1 n1 cap1) (.slice a2 n2 cap2) (.slice xha n4 xhc) (.int .i64 lim) rs 0)
      have HF8 := hid (show Fr w.heap.size w6.heap.size w6 w8 by rw [hw8]; exact (Fr.of hF7.bel).setCell (Or.inl rfl) _)
      have H8 := hid hw8
      have hs8 : w6.heap.size ≤ w8.heap.size := by omega
      clear u0 u1 u2 u3 u4 e0 e1 e2 e3 r0 r1 r2 r3 r4 f0 f1 f2 f3 f4
      obtain ⟨u0, u1, u2, u3, u4, e0, e1, e2, e3, r0, r1, r2, r3, r4, f0, f1, f2, f3, f4⟩ := K7
      clear hw8 hH8 K8 hF7 hz8 hz7
      go_upto_region 9 with fail
      rw [← H8.out]
      clear u0 u1 u2 u3 u4 e0 e1 e2 e3 r0 r1 r2 r3 r4 f0 f1 f2 f3 f4
      obtain ⟨u0, u1, u2, u3, u4, e0, e1, e2, e3, r0, r1, r2, r3, r4, f0, f1, f2, f3, f4⟩ := L8.out.box
      go_wp2_with fail
      clear u0 u1 u2 u3 u4 e0 e1 e2 e3 r0 r1 r2 r3 r4 f0 f1 f2 f3 f4 hlt2 hlt hk
      go_loopw [39] (fun i wr => ∃ k : Nat, k ≤ n3 ∧ i = .int .i64 k ∧ LpR w w8 wr w6.heap.size a3 n3 cap3 (.slice a1 n1 cap1) (.slice a2 n2 cap2) (.slice xha n4 xhc) (.int .i64 lim) rs k) (fun i _ => n3 - (intOf i).toNat)
      case atStart => exact ⟨0, Nat.zero_le _, rfl, L8.out⟩
      case round =>
        obtain ⟨j, hj, rfl, hL⟩ := hrel
        obtain ⟨js, hH⟩ := hL.half
        have hlen := hH.len
        have hLs2 := hL.fr.size
        have hbw : Below w.heap.size w wr := HB6.out.trans ((HF8.out.below (by omega)).trans (hL.fr.below (by omega)))
        by_cases hlt : j < n3
        · have hlt2 : (j : Int) < n3 := by omega
          have hj0 : j < rs.length := by rw [← HN3.out]; exact hlt
          have hj2 : j < js.length := by omega
          have hjs := hH.rest j hj2 hj0 (Nat.le_refl _)
          obtain ⟨bb, o, rfl, hbb, h1⟩ := cell1 rcC_len hH.row hj2 (by omega)
          have c0 := h1 0 _ rfl
          have c1 := h1 1 _ rfl
          have c2 := h1 2 _ rfl
          have hz0 : wr.frozen? ⟨bb, o + j * 3, none⟩ = false := hH.free _ rfl (j * 3) (by rw [flatC_length rcC_len]; omega)
          have hz1 : wr.frozen? ⟨bb, o + j * 3 + 1, none⟩ = false := hH.free _ rfl (j * 3 + 1) (by rw [flatC_length rcC_len]; omega)
          have hz2' : wr.frozen? ⟨bb, o + j * 3 + 2, none⟩ = false := hH.free _ rfl (j * 3 + 2) (by rw [flatC_length rcC_len]; omega)
          simp only [Nat.add_zero] at c0
          rw [← Nat.add_assoc] at c1 c2
          have hsub := HSr.out j hj0
          have hbg := HBr.out j hj0
          rw [← hjs] at hsub hbg
          obtain ⟨xx, hxx⟩ : ∃ xx, xx = js[j] := ⟨_, rfl⟩
          rw [← hxx] at hsub hbg c0 c1 c2
          obtain ⟨wb, hwb⟩ : ∃ wb, wb = wr.alloc (.cells #[.string xx.name, .slice xx.va xx.vs.length xx.vcap, .slice xx.ma xx.ms.length xx.mcap] 49) := ⟨_, rfl⟩
          obtain ⟨⟨t0, t1, t2⟩, hzb, hbb1⟩ := bx3 wr _ _ _ _ wb hwb
          have HStep := hid (fun (wq : World) (y : Rc) (hy : datR y = datR xx) (hbq : Below wr.heap.size wr wq) (hrow : subR wq (fun b => wb.heap.size ≤ b ∧ b < wq.heap.size) y) => (by
            have hdy := hy
            unfold datR at hdy
            injection hdy with d1 d2
            injection d2 with d2 d3
            have hp := hH.put3 rcC_len subR_keep hj2 y (by rw [hy, hxx]) (.string xx.name) (.slice y.va xx.vs.length y.vcap) (.slice y.ma xx.ms.length y.mcap) (by unfold rcC; rw [d1, map_len d2, map_len d3]) hbq hLs2 (subR_keep hrow (fun _ _ => rfl) (fun b hb => ⟨by omega, hb.2⟩))
            rw [← Nat.add_assoc, ← Nat.add_assoc] at hp
            exact ⟨⟨_, hp⟩, (hL.box.below hbq (by omega)).keep (by rw [Below.heap_setCell _ _ _ _ (by dsimp only; omega), Below.heap_setCell _ _ _ _ (by dsimp only; omega), Below.heap_setCell _ _ _ _ (by dsimp only; omega)]) (by rw [Below.heap_setCell _ _ _ _ (by dsimp only; omega), Below.heap_setCell _ _ _ _ (by dsimp only; omega), Below.heap_setCell _ _ _ _ (by dsimp only; omega)]), ((((hL.fr).trans (Fr.of (hbq.mono (by omega)))).setCell (Or.inr (by omega)) _).setCell (Or.inr (by omega)) _).setCell (Or.inr (by omega)) _⟩ : LpR w w8 (((wq.setCell ⟨bb, o + j * 3, none⟩ (.string xx.name)).setCell ⟨bb, o + j * 3 + 1, none⟩ (.slice y.va xx.vs.length y.vcap)).setCell ⟨bb, o + j * 3 + 2, none⟩ (.slice y.ma xx.ms.length y.mcap)) w6.heap.size (some ⟨bb, o, none⟩) n3 cap3 (.slice a1 n1 cap1) (.slice a2 n2 cap2) (.slice xha n4 xhc) (.int .i64 lim) rs (j + 1)))
          have HCb := hid (fun (w' : World) (hb : Below wb.heap.size wb w') => (copied_any w' S xx xx.vs.length xx.ms.length (subR_keep hsub (fun b hb' => (hb.block b (by have := hS b hb'; omega)).trans ((hbb1.block b (by have := hS b hb'; omega)).trans (hbw.block b (hS b hb')))) (fun _ h => h)) (fun b hb' => by have := hS b hb'; have := hb.size; omega) hbg rfl rfl).mono (fun e w'' (h : ∃ y : Rc, e = .returned (.agg #[.string xx.name, .slice y.va xx.vs.length y.vcap, .slice y.ma xx.ms.length y.mcap]) ∧ datR y = datR xx ∧ Below w'.heap.size w' w'' ∧ subR w'' (fun b => w'.heap.size ≤ b ∧ b < w''.heap.size) y) => (by
            obtain ⟨y, q1, q2, q3, q4⟩ := h
            exact ⟨y, q1, q2, hb.trans (q3.mono hb.size), subR_keep q4 (fun _ _ => rfl) (fun b hb' => ⟨by have := hb.size; omega, hb'.2⟩)⟩ : ∃ y : Rc, e = .returned (.agg #[.string xx.name, .slice y.va xx.vs.length y.vcap, .slice y.ma xx.ms.length y.mcap]) ∧ datR y = datR xx ∧ Below wb.heap.size wb w'' ∧ subR w'' (fun b => wb.heap.size ≤ b ∧ b < w''.heap.size) y)))
          obtain ⟨u0, u1, u2, u3, u4, e0, e1, e2, e3, r0, r1, r2, r3, r4, f0, f1, f2, f3, f4⟩ := hL.box
          have HK := hid (fun (w' : World) (hb : Below wb.heap.size wb w') => (⟨(hbb1.trans (hb.mono (by omega)) |>.cell (p := ⟨w.heap.size, 2, none⟩) (by dsimp only; omega)).trans u2, (hb.cell (p := ⟨wr.heap.size, 0, none⟩) (by dsimp only; omega)).trans t0, (hb.cell (p := ⟨wr.heap.size, 1, none⟩) (by dsimp only; omega)).trans t1, (hb.cell (p := ⟨wr.heap.size, 2, none⟩) (by dsimp only; omega)).trans t2⟩ : w'.cell? ⟨w.heap.size, 2, none⟩ = some (.slice (some ⟨bb, o, none⟩) n3 cap3) ∧ w'.cell? ⟨wr.heap.size, 0, none⟩ = some (.string xx.name) ∧ w'.cell? ⟨wr.heap.size, 1, none⟩ = some (.slice xx.va xx.vs.length xx.vcap) ∧ w'.cell? ⟨wr.heap.size, 2, none⟩ = some (.slice xx.ma xx.ms.length xx.mcap)))
          have hbl : bb < wr.heap.size := by omega
          have hbg2 : ¬ bb = w.heap.size := by omega
          have HO := hid (fun (w' : World) (v0 v1 v2 : Value) (b c : Nat) (hn : ¬ b = bb) => (by
            rw [World.cell?_setCell_other _ _ _ _ (by intro e; injection e with e; omega), World.cell?_setCell_other _ _ _ _ (by intro e; injection e with e; omega), World.cell?_setCell_other _ _ _ _ (by intro e; injection e with e; omega)] : (((w'.setCell ⟨bb, o + j * 3, none⟩ v0).setCell ⟨bb, o + j * 3 + 1, none⟩ v1).setCell ⟨bb, o + j * 3 + 2, none⟩ v2).cell? ⟨b, c, none⟩ = w'.cell? ⟨b, c, none⟩))
          have HKs := hid (fun (w' : World) (v0 v1 v2 : Value) (hb : Below wb.heap.size wb w') => (by
            obtain ⟨q0, q1, q2, q3⟩ := HK.out _ hb
            exact ⟨(HO.out _ _ _ _ _ _ (by omega)).trans q0, (HO.out _ _ _ _ _ _ (by omega)).trans q1, (HO.out _ _ _ _ _ _ (by omega)).trans q2, (HO.out _ _ _ _ _ _ (by omega)).trans q3⟩ : (((w'.setCell ⟨bb, o + j * 3, none⟩ v0).setCell ⟨bb, o + j * 3 + 1, none⟩ v1).setCell ⟨bb, o + j * 3 + 2, none⟩ v2).cell? ⟨w.heap.size, 2, none⟩ = some (.slice (some ⟨bb, o, none⟩) n3 cap3) ∧ (((w'.setCell ⟨bb, o + j * 3, none⟩ v0).setCell ⟨bb, o + j * 3 + 1, none⟩ v1).setCell ⟨bb, o + j * 3 + 2, none⟩ v2).cell? ⟨wr.heap.size, 0, none⟩ = some (.string xx.name) ∧ (((w'.setCell ⟨bb, o + j * 3, none⟩ v0).setCell ⟨bb, o + j * 3 + 1, none⟩ v1).setCell ⟨bb, o + j * 3 + 2, none⟩ v2).cell? ⟨wr.heap.size, 1, none⟩ = some (.slice xx.va xx.vs.length xx.vcap) ∧ (((w'.setCell ⟨bb, o + j * 3, none⟩ v0).setCell ⟨bb, o + j * 3 + 1, none⟩ v1).setCell ⟨bb, o + j * 3 + 2, none⟩ v2).cell? ⟨wr.heap.size, 2, none⟩ = some (.slice xx.ma xx.ms.length xx.mcap)))
          have HBw := hid (fun (w' : World) (hb : Below wb.heap.size wb w') => hbb1.trans (hb.mono (by omega)))
          have HQ := hid (fun (w' : World) (hb : Below wb.heap.size wb w') => (by
            have hh := hbb1.trans (hb.mono (show wr.heap.size ≤ wb.heap.size by omega))
            exact ⟨⟨(hh.cell (p := ⟨bb, o + j * 3, none⟩) hbl).trans c0, (hh.cell (p := ⟨bb, o + j * 3 + 1, none⟩) hbl).trans c1, (hh.cell (p := ⟨bb, o + j * 3 + 2, none⟩) hbl).trans c2⟩, (hh.frozen (p := ⟨bb, o + j * 3, none⟩) hbl).trans hz0, (hh.frozen (p := ⟨bb, o + j * 3 + 1, none⟩) hbl).trans hz1, (hh.frozen (p := ⟨bb, o + j * 3 + 2, none⟩) hbl).trans hz2'⟩ : (w'.cell? ⟨bb, o + j * 3, none⟩ = some (.string xx.name) ∧ w'.cell? ⟨bb, o + j * 3 + 1, none⟩ = some (.slice xx.va xx.vs.length xx.vcap) ∧ w'.cell? ⟨bb, o + j * 3 + 2, none⟩ = some (.slice xx.ma xx.ms.length xx.mcap)) ∧ w'.frozen? ⟨bb, o + j * 3, none⟩ = false ∧ w'.frozen? ⟨bb, o + j * 3 + 1, none⟩ = false ∧ w'.frozen? ⟨bb, o + j * 3 + 2, none⟩ = false))
          have HWb := hid hwb
          clear hH hL hsub hwb hbb1 hjs h1 hlen hbg hbw hxx hz0 hz1 hz2' u0 u1 u3 u4 e0 e1 e2 e3 r0 r1 r2 r3 r4 f0 f1 f2 f3 f4
          generalize xx.name = kn at *
          generalize xx.va = kva at *
          generalize xx.vcap = kvc at *
          generalize xx.ma = kma at *
          generalize xx.mcap = kmc at *
          generalize xx.vs.length = kvl at *
          generalize xx.ms.length = kml at *
          go_upto_region 12 with fail
          rw [← HWb.out]
          clear c0 c1 c2 u2 t0 t1 t2
          go_region_held3 (fun w' => w'.cell? ⟨w.heap.size, 2, none⟩ = some (.slice (some ⟨bb, o, none⟩) n3 cap3) ∧ w'.cell? ⟨wr.heap.size, 0, none⟩ = some (.string kn) ∧ w'.cell? ⟨wr.heap.size, 1, none⟩ = some (.slice kva kvl kvc) ∧ w'.cell? ⟨wr.heap.size, 2, none⟩ = some (.slice kma kml kmc))
            (first | (refine HK.out _ ?_; first | assumption | exact bdrew (Below.refl _ _) 1) | (refine HKs.out _ _ _ _ ?_; assumption))
            (first
            | (go_at_call 10; refine (HCb.out _ (by first | exact bdrew (Below.refl _ _) 1)).mono ?_; rintro e w10 ⟨y, rfl, hy10, hb10, hr10⟩; have hq10 := HQ.out _ hb10; obtain ⟨⟨hq1, hq2, hq3⟩, hq4, hq5, hq6⟩ := hq10))
          all_goals
            have HX := hid (HStep.out _ y hy10 (HBw.out _ hb10) hr10)
            clear hb10 hr10 hy10
            go_wp2_with fail
            go_roundw
            case rel => exact ⟨j + 1, by omega, by go_num, HX.out⟩
            case measure => simp [intOf]; omega
        · have hlt2 : ¬ (j : Int) < n3 := by omega
          obtain ⟨wu, rfl⟩ : ∃ wu, wu = wr := ⟨_, rfl⟩
          obtain ⟨hm1, hm2⟩ := hH.all subR_keep (by have := HN3.out; omega) hs8 hLs2
          have HM := hid (And.intro hm1 hm2)
          have HDr := hid hH.dat
          have HFu := hid hL.fr
          have HBu := hid hbw
          have HBox2 := hid hL.box
          have HCw := hid (cloneWd wu S xha n4 xhc (flatC wdC hs) (HH.out.below hbw hS) (fun b hb => by have := hS b hb; omega) (by rw [flatC_length wdC_len, HN4.out]) (flatC_one wdC_one _) (by omega))
          obtain ⟨u0, u1, u2, u3, u4, e0, e1, e2, e3, r0, r1, r2, r3, r4, f0, f1, f2, f3, f4⟩ := hL.box
          clear hH hL hm1 hm2 hlen hbw
          go_wp2_with fail
          have hcall := HCw.out
          go_fit hcall
          clear hcall
          rintro e w10 ⟨a4, cap4, rfl, hc4, hF10⟩
          have hz10 := hF10.bel.size
          have K10 := HBox2.out.below hF10.bel (by omega)
          have K11 := K10.set3 (.slice a4 n4 cap4)
          obtain ⟨w11, hw11⟩ : ∃ w11, w11 = w10.setCell ⟨w.heap.size, 3, none⟩ (.slice a4 n4 cap4) := ⟨_, rfl⟩
          rw [← hw11] at K11
          have hz11 : w11.heap.size = w10.heap.size := by rw [hw11]; simp
          have HF11 := hid (show Fr w.heap.size wu.heap.size wu w11 by rw [hw11]; exact (Fr.of hF10.bel).setCell (Or.inl rfl) _)
          have hW11 : Cs w11 (fun b => wu.heap.size ≤ b ∧ b < w11.heap.size) a4 (flatC wdC hs) := hF10.row.keep (fun b hb => by rw [hw11]; exact Below.heap_setCell _ _ _ _ (by dsimp only; omega)) (fun b hb => ⟨hb.1, by omega⟩)
          obtain ⟨wz, hwz⟩ : ∃ wz, wz = ((((w11.setCell ⟨w.heap.size + 1, 0, none⟩ (.slice a1 n1 cap1)).setCell ⟨w.heap.size + 1, 1, none⟩ (.slice a2 n2 cap2)).setCell ⟨w.heap.size + 1, 2, none⟩ (.slice a3 n3 cap3)).setCell ⟨w.heap.size + 1, 3, none⟩ (.slice a4 n4 cap4)).setCell ⟨w.heap.size + 1, 4, none⟩ (.int .i64 lim) := ⟨_, rfl⟩
          have hz : ∀ b, ¬ b = w.heap.size + 1 → wz.heap[b]? = w11.heap[b]? := fun b hb => by
            rw [hwz, Below.heap_setCell _ _ _ _ (by dsimp only; omega), Below.heap_setCell _ _ _ _ (by dsimp only; omega), Below.heap_setCell _ _ _ _ (by dsimp only; omega), Below.heap_setCell _ _ _ _ (by dsimp only; omega), Below.heap_setCell _ _ _ _ (by dsimp only; omega)]
          have hzs : wz.heap.size = w11.heap.size := by rw [hwz]; simp
          have k4 : ∀ b, wu.heap.size ≤ b ∧ b < w11.heap.size → wz.heap[b]? = w11.heap[b]? := fun b hb => hz b (by omega)
          have s4 : ∀ b, wu.heap.size ≤ b ∧ b < w11.heap.size → w.heap.size ≤ b ∧ b < wz.heap.size := fun b hb => ⟨by omega, by omega⟩
          have k3 : ∀ b, w6.heap.size ≤ b ∧ b < wu.heap.size → wz.heap[b]? = wu.heap[b]? := fun b hb => (hz b (by omega)).trans (HF11.out.blk b hb.2 (by omega))
          have s3 : ∀ b, w6.heap.size ≤ b ∧ b < wu.heap.size → w.heap.size ≤ b ∧ b < wz.heap.size := fun b hb => ⟨by omega, by omega⟩
          have kk : ∀ b, w2.heap.size ≤ b → b < w6.heap.size → wz.heap[b]? = w6.heap[b]? := fun b h1 h2 => (hz b (by omega)).trans ((HF11.out.blk b (by omega) (by omega)).trans ((HFu.out.blk b h2 (by omega)).trans (HF8.out.blk b h2 (by omega))))
          have k2 : ∀ b, wv.heap.size ≤ b ∧ b < w6.heap.size → wz.heap[b]? = w6.heap[b]? := fun b hb => kk b (by omega) hb.2
          have s2 : ∀ b, wv.heap.size ≤ b ∧ b < w6.heap.size → w.heap.size ≤ b ∧ b < wz.heap.size := fun b hb => ⟨by omega, by omega⟩
          have k1 : ∀ b, w2.heap.size ≤ b ∧ b < wv.heap.size → wz.heap[b]? = wv.heap[b]? := fun b hb => (kk b hb.1 (by omega)).trans (HF6.out.blk b hb.2 (by omega))
          have s1 : ∀ b, w2.heap.size ≤ b ∧ b < wv.heap.size → w.heap.size ≤ b ∧ b < wz.heap.size := fun b hb => ⟨by omega, by omega⟩
          have HSub := hid (⟨HV.out.1.keep k1 s1, fun y hy => subF_keep (HV.out.2 y hy) k1 s1, HG6.out.keep k2 s2, HM.out.1.keep k3 s3, fun y hy => subR_keep (HM.out.2 y hy) k3 s3, hW11.keep k4 s4⟩ : subW wz (fun b => w.heap.size ≤ b ∧ b < wz.heap.size) ⟨a1, cap1, ks, a2, cap2, gs, a3, cap3, js, a4, cap4, hs⟩)
          have HSame := hid (HRet.out ⟨a1, cap1, ks, a2, cap2, gs, a3, cap3, js, a4, cap4, hs⟩ HD.out rfl HDr.out rfl)
          have HBz := hid (show Below w.heap.size w wz by
            rw [hwz]
            exact (((((HBu.out.trans (HF11.out.below (by omega))).setCell (p := ⟨w.heap.size + 1, 0, none⟩) (by dsimp only; omega) _).setCell (p := ⟨w.heap.size + 1, 1, none⟩) (by dsimp only; omega) _).setCell (p := ⟨w.heap.size + 1, 2, none⟩) (by dsimp only; omega) _).setCell (p := ⟨w.heap.size + 1, 3, none⟩) (by dsimp only; omega) _).setCell (p := ⟨w.heap.size + 1, 4, none⟩) (by dsimp only; omega) _)
          have H11 := hid hw11
          have HWz := hid hwz
          have HK11 := hid K11
          clear u0 u1 u2 u3 u4 e0 e1 e2 e3 r0 r1 r2 r3 r4 f0 f1 f2 f3 f4
          obtain ⟨u0, u1, u2, u3, u4, e0, e1, e2, e3, r0, r1, r2, r3, r4, f0, f1, f2, f3, f4⟩ := K10
          clear hwz hw11 K11 hF10 hz11 hz10 hW11 hz hzs k1 k2 k3 k4 s1 s2 s3 s4 kk
          go_upto_region 15 with fail
          rw [← H11.out]
          clear u0 u1 u2 u3 u4 e0 e1 e2 e3 r0 r1 r2 r3 r4 f0 f1 f2 f3 f4
          obtain ⟨u0, u1, u2, u3, u4, e0, e1, e2, e3, r0, r1, r2, r3, r4, f0, f1, f2, f3, f4⟩ := HK11.out
          go_wp2_with fail
          refine bodyPost_ret (v := .agg #[.slice a1 n1 cap1, .slice a2 n2 cap2, .slice a3 n3 cap3, .slice a4 n4 cap4, .int .i64 lim]) (by simp [results, Try.results4, go_sem, r0, r1, r2, r3, r4]) rfl ?_
          rw [← HWz.out]
          exact ⟨⟨a1, cap1, ks, a2, cap2, gs, a3, cap3, js, a4, cap4, hs⟩, rfl, HSame.out, HBz.out, HSub.out⟩
end Go.Proofs.Ytecjnlekckmhfaa

/- Are a world's names right: vm's areNamesRight. · Are a world's names right: the walk of vm's areNamesRight. · What mayBe asks of all functions, records, globals. (Written by wip/tools/mkconts.py.) · The things of a heap that may be, one behind the other: vm's sides, things. -/
import Derived.Test.YtldmanfgmadbfaaGreatDoorQ14
import Derived.Test.YtldmanfgmadbfaaGreatDoorQ11
import Derived.Maps.AppendAt
import Derived.Deep.Draws
import Derived.Deep.AppendLies
import Derived.Deep.RegionLaw
import Derived.Deep.Upon
import Derived.Test.YtldmanfgmadbfaaGreatDoorQ08
import Derived.Test.YtldmanfgmadbfaaGreatDoorQ05
import Derived.RangeFuncNested
import Derived.RangeFuncBound
import Derived.RangeFuncCalls
import Derived.RangeFuncLeaves
import Derived.Shelf.Abstract
import Derived.Shelf.RegionOpen
import Derived.OwnWalkIn
import Derived.TacticsInMore
import Derived.LoopNIn
import Derived.LoopIn
namespace Go.Proofs.YtldmanfgmadbfaaGreatDoor
set_option maxRecDepth 100000
open HH UU VV
open Go.RowKit Go.Maps Go.WideMaps
theorem infoStr : (Tryz.prog.info? 9).map (fun i => (i.zero, i.size, i.bytes)) = some (some (.string ⟨#[]⟩), 1, 16) := by kernel_rfl
theorem infoSh : (Tryz.prog.info? 65).map (fun i => (i.zero, i.size, i.bytes)) = some (some (.agg #[.string ⟨#[]⟩, .slice none 0 0]), 2, 40) := by kernel_rfl
theorem own_lt {w : World} {B k : Nat} {ty : TypeId} {v : Value} {n : Nat} {cells : List Value} (h : w.ownsRow B ty k v n cells) {g : Nat} (hg : v.ownBlock = some g) : B ≤ g ∧ g < w.heap.size := by
  rcases h.2 with ⟨rfl, _⟩ | ⟨g', c, cur, rfl, hb, hc, _⟩
  · cases hg
  · injection hg with hg
    subst hg
    refine ⟨hb, ?_⟩
    rcases Nat.lt_or_ge g' w.heap.size with h' | h'
    · exact h'
    · rw [Array.getElem?_eq_none h'] at hc; cases hc
theorem own_keep {w w' : World} {B k : Nat} {ty : TypeId} {v : Value} {n : Nat} {cells : List Value} (h : w.ownsRow B ty k v n cells) (hk : ∀ b, v.ownBlock = some b → w'.heap[b]? = w.heap[b]?) : w'.ownsRow B ty k v n cells := by
  refine ⟨h.1, ?_⟩
  rcases h.2 with h0 | ⟨g, c, cur, rfl, hb, hc, h5⟩
  · exact Or.inl h0
  · exact Or.inr ⟨g, c, cur, rfl, hb, (hk g rfl).trans hc, h5⟩
theorem own_below {w w' : World} {B k : Nat} {ty : TypeId} {v : Value} {n : Nat} {cells : List Value} (h : w.ownsRow B ty k v n cells) (hb : Below w.heap.size w w') : w'.ownsRow B ty k v n cells := own_keep h (fun b e => hb.block b (own_lt h e).2)
theorem KpB.grown {N g : Nat} {w w' : World} {row : Option Nat} (h : w.grownBy w' row) (hN : N ≤ w.heap.size) (hr : ∀ k, row = some k → N ≤ k) : KpB N g w w' :=
  ⟨h.os, h.tape, h.output, h.size, fun k hk _ => h.block k (by omega) (fun e => by have := hr k e.symm; omega)⟩
/-- A row of the call's own. -/
def RowC {α : Type} (c : α → List Value) (ty : TypeId) (k : Nat) (w : World) (B : Nat) (v : Value) (l : List α) : Prop := w.ownsRow B ty k v l.length (flatC c l)
section
variable {α : Type} {c : α → List Value} {ty : TypeId} {k : Nat}
theorem RowC.nil (w : World) (B : Nat) : RowC c ty k w B (.slice none 0 0) [] := ⟨by simp [flatC], Or.inl ⟨rfl, rfl⟩⟩
theorem RowC.slice {w : World} {B : Nat} {v : Value} {l : List α} (h : RowC c ty k w B v l) : ∃ a cap, v = .slice a l.length cap ∧ l.length ≤ cap := by
  rcases h.2 with ⟨rfl, h0⟩ | ⟨g, cap, cur, rfl, hb, hc, hn, hm, hcs, hcut⟩
  · exact ⟨none, 0, by rw [h0], by omega⟩
  · exact ⟨_, cap, rfl, hn⟩
theorem RowC.lt {w : World} {B : Nat} {v : Value} {l : List α} (h : RowC c ty k w B v l) {g : Nat} (hg : v.ownBlock = some g) : B ≤ g ∧ g < w.heap.size := by
  rcases h.2 with ⟨rfl, _⟩ | ⟨g', c, cur, rfl, hb, hc, _⟩
  · cases hg
  · injection hg with hg
    subst hg
    refine ⟨hb, ?_⟩
    rcases Nat.lt_or_ge g' w.heap.size with h' | h'
    · exact h'
    · rw [Array.getElem?_eq_none h'] at hc; cases hc
theorem RowC.keep {w w' : World} {B : Nat} {v : Value} {l : List α} (h : RowC c ty k w B v l) (hk : ∀ b, v.ownBlock = some b → w'.heap[b]? = w.heap[b]?) : RowC c ty k w' B v l := by
  refine ⟨h.1, ?_⟩
  rcases h.2 with h0 | ⟨g, c, cur, rfl, hb, hc, h5⟩
  · exact Or.inl h0
  · exact Or.inr ⟨g, c, cur, rfl, hb, (hk g rfl).trans hc, h5⟩
theorem RowC.below {w w' : World} {B : Nat} {v : Value} {l : List α} (h : RowC c ty k w B v l) (hb : Below w.heap.size w w') : RowC c ty k w' B v l := h.keep (fun b e => hb.block b (h.lt e).2)
theorem RowC.cs {w : World} {B : Nat} {a : Option Addr} {n cap : Nat} {l : List α} (h : RowC c ty k w B (.slice a n cap) l) (hc : ∀ x, (c x).length = k) : Cs w (fun b => b < w.heap.size) a (flatC c l) := by
  rcases h.2 with ⟨h1, h0⟩ | ⟨g, cap, cur, h1, hb, hcc, hn, hm, hcs, hcut⟩
  · have : l = [] := List.eq_nil_of_length_eq_zero h0
    subst this
    exact Cs.nil _ _ _
  · injection h1 with h1 h2 h3
    subst h1
    intro j u hj
    have hj2 : j < l.length * k := by rw [← flatC_length hc]; exact (List.getElem?_eq_some_iff.1 hj).1
    refine ⟨g, 0, rfl, ?_, ?_⟩
    · rcases Nat.lt_or_ge g w.heap.size with h' | h'
      · exact h'
      · rw [Array.getElem?_eq_none h'] at hcc; cases hcc
    · rw [show w.cell? ⟨g, 0 + j, none⟩ = cur[0 + j]? by simp [World.cell?, hcc], Nat.zero_add]
      have e : (cur.toList.take (l.length * k))[j]? = some u := by rw [hcut]; exact hj
      rw [List.getElem?_take_of_lt hj2] at e
      simpa using e
theorem flatC_snoc (l : List α) (x : α) : flatC c (l ++ [x]) = flatC c l ++ c x := by simp [flatC]
theorem RowC.of {w : World} {B : Nat} {v : Value} {l : List α} {x : α} {n : Nat} (hn : n = l.length) (h : w.ownsRow B ty k v (n + 1) (flatC c l ++ c x)) : RowC c ty k w B v (l ++ [x]) := by
  unfold RowC
  rw [flatC_snoc, List.length_append, ← hn]
  exact h
theorem RowC.own {w : World} {B : Nat} {v : Value} {l : List α} {n : Nat} (h : RowC c ty k w B v l) (hn : l.length = n) : ∃ a cap, v = .slice a n cap ∧ n ≤ cap ∧ w.ownsRow B ty k (.slice a n cap) n (flatC c l) := by
  obtain ⟨a, cap, rfl, hc⟩ := h.slice
  subst hn
  exact ⟨a, cap, rfl, hc, h⟩
end
theorem cells_new (w : World) (u : Value) (ty : TypeId) : ∀ j x, [u][j]? = some x → (w.alloc (.cells #[u] ty)).cell? ((⟨w.heap.size, 0, none⟩ : Addr).add j) = some x := by
  intro j x hj
  cases j with
  | zero => simp at hj; subst hj; simp only [Addr.add]; go_simp
  | succ j => simp at hj
theorem cells_new2 (w : World) (u0 u1 : Value) (ty : TypeId) : ∀ j x, [u0, u1][j]? = some x → (w.alloc (.cells #[u0, u1] ty)).cell? ((⟨w.heap.size, 0, none⟩ : Addr).add j) = some x := by
  intro j x hj
  match j with
  | 0 => simp at hj; subst hj; simp only [Addr.add]; go_simp
  | 1 => simp at hj; subst hj; simp only [Addr.add]; go_simp
  | j + 2 => simp at hj
def toU (s : VV.Sh) : UU.Sh := ⟨s.name, s.adr, s.fs, s.cap⟩
def shZ : VV.Sh := ⟨⟨#[]⟩, none, 0, []⟩
def firsts (rs : List Rc) : List VV.Sh := rs.map fun r => r.vs.getD 0 shZ
def namesB (x : Wv) : Bool := decide (envI (x.gs.map Gl.name) ((firsts x.rs).map toU) = 0)
theorem shs_row {w : World} {B : Nat} {a : Option Addr} {l : List VV.Sh} (h : Cs w (fun b => b < B) a (flatC shC l)) (hw : ∀ s, s ∈ l → wfSh s) (hs : ∀ s, s ∈ l → subS w (fun b => b < B) s) (hb : ∀ s, s ∈ l → bigS s) : Shs w B a (l.map toU) := by
  intro i hi
  have hi2 : i < l.length := by simpa using hi
  obtain ⟨b, o, e, hB, c0, c1⟩ := sh_at h hi2
  have hm := List.getElem_mem hi2
  have g := hw _ hm
  have g2 : (l[i]'hi2).fs.length * 16 ≤ 140737488355328 := hb _ hm
  simp only [List.getElem_map, toU]
  exact ⟨b, o, e, hB, c0, c1, g.name, g.cap, by unfold maxLen; omega, strs_row (hs _ hm) g.fs⟩
/-- The names so far. -/
def GInv (gs : List Gl) (kb : Nat) (w2 : World) (i : Value) (wr : World) : Prop :=
  ∃ (k : Nat) (gv : Value), k ≤ gs.length ∧ i = .int .i64 k ∧ RowC strC 9 1 wr w2.heap.size gv ((gs.map Gl.name).take k) ∧ wr.cell? ⟨kb, 0, none⟩ = some gv ∧ wr.cell? ⟨kb, 1, none⟩ = some (.slice none 0 0) ∧
    wr.frozen? ⟨kb, 0, none⟩ = false ∧ wr.frozen? ⟨kb, 1, none⟩ = false ∧ KpB w2.heap.size kb w2 wr
theorem GInv.mk {gs : List Gl} {kb : Nat} {w2 : World} {i : Value} {wr : World} (k : Nat) (gv : Value) (h1 : k ≤ gs.length) (h2 : i = .int .i64 k) (h3 : RowC strC 9 1 wr w2.heap.size gv ((gs.map Gl.name).take k)) (h4 : wr.cell? ⟨kb, 0, none⟩ = some gv) (h5 : wr.cell? ⟨kb, 1, none⟩ = some (.slice none 0 0))
    (h6 : wr.frozen? ⟨kb, 0, none⟩ = false) (h7 : wr.frozen? ⟨kb, 1, none⟩ = false) (h8 : KpB w2.heap.size kb w2 wr) : GInv gs kb w2 i wr := ⟨k, gv, h1, h2, h3, h4, h5, h6, h7, h8⟩
/-- The records so far. -/
def SInv (rs : List Rc) (kb : Nat) (gv : Value) (w5 : World) (i : Value) (wr : World) : Prop :=
  ∃ (k : Nat) (sv : Value), k ≤ rs.length ∧ i = .int .i64 k ∧ RowC shC 65 2 wr w5.heap.size sv ((firsts rs).take k) ∧ wr.cell? ⟨kb, 0, none⟩ = some gv ∧ wr.cell? ⟨kb, 1, none⟩ = some sv ∧
    wr.frozen? ⟨kb, 1, none⟩ = false ∧ KpB w5.heap.size kb w5 wr
theorem SInv.mk {rs : List Rc} {kb : Nat} {gv : Value} {w5 : World} {i : Value} {wr : World} (k : Nat) (sv : Value) (h1 : k ≤ rs.length) (h2 : i = .int .i64 k) (h3 : RowC shC 65 2 wr w5.heap.size sv ((firsts rs).take k)) (h4 : wr.cell? ⟨kb, 0, none⟩ = some gv) (h5 : wr.cell? ⟨kb, 1, none⟩ = some sv)
    (h6 : wr.frozen? ⟨kb, 1, none⟩ = false) (h7 : KpB w5.heap.size kb w5 wr) : SInv rs kb gv w5 i wr := ⟨k, sv, h1, h2, h3, h4, h5, h6, h7⟩
end Go.Proofs.YtldmanfgmadbfaaGreatDoor
namespace Go.Proofs.YtldmanfgmadbfaaGreatDoor
set_option maxRecDepth 100000
open HH UU VV
open Go.RowKit Go.Maps Go.WideMaps
set_option maxRecDepth 1000000 in
set_option maxHeartbeats 8000000 in
theorem names_walk (fa ga ra ha : Option Addr) (fl fcap gcap rcap hl hcap : Nat) (lim : Int) (gq rq vq pm : Nat) (gs : List Gl) (rs : List Rc) (w : World) (hG : Cs w (fun b => b < w.heap.size) ga (flatC glC gs)) (hR : Cs w (fun b => b < w.heap.size) ra (flatC rcC rs))
    (hRs : ∀ r, r ∈ rs → subR w (fun b => b < w.heap.size) r) (hwg : ∀ y, y ∈ gs → wfGl y) (hwr : ∀ y, y ∈ rs → wfRc y) (hbr : ∀ y, y ∈ rs → bigR y) (hg : gs.length ≤ 1000) (hr : rs.length ≤ 1000) (hvs : ∀ r, r ∈ rs → 1 ≤ r.vs.length) :
    Calls Tryz.prog 57 #[.agg #[.slice fa fl fcap, .slice ga gs.length gcap, .slice ra rs.length rcap, .slice ha hl hcap, .int .i64 lim, finG gq, finR rq, valF vq, .map (some pm)]] w fun e w' =>
      e = .returned (.bool (decide (envI (gs.map Gl.name) ((firsts rs).map toU) = 0))) ∧ Below w.heap.size w w' := by
  obtain ⟨i0, hi, iz0, iz1, iz2⟩ := info_parts infoStr
  have HI := hid hi
  have HZ0 := hid iz0
  have HZ1 := hid iz1
  have HZ2 := hid iz2
  clear hi iz0 iz1 iz2
  obtain ⟨j0, hj, jz0, jz1, jz2⟩ := info_parts infoSh
  have HJ := hid hj
  have HY0 := hid jz0
  have HY1 := hid jz1
  have HY2 := hid jz2
  clear hj jz0 jz1 jz2
  obtain ⟨w2, hw2⟩ : ∃ w2, w2 = (w.alloc (.cells #[.slice fa fl fcap, .slice ga gs.length gcap, .slice ra rs.length rcap, .slice ha hl hcap, .int .i64 lim, finG gq, finR rq, valF vq, .map (some pm)] 45)).alloc (.cells #[.slice none 0 0, .slice none 0 0] 36) := ⟨_, rfl⟩
  have HB2 := hid (show Below w.heap.size w w2 by rw [hw2]; exact below_2 _ _ _)
  have hz2 : w2.heap.size = w.heap.size + 2 := by rw [hw2]; simp
  have hv1 : w2.cell? ⟨w.heap.size, 2, none⟩ = some (.slice ra rs.length rcap) := by rw [hw2]; go_simp
  have HV2 := hid hv1
  have kb : w2.cell? ⟨w.heap.size + 1, 0, none⟩ = some (.slice none 0 0) ∧ w2.cell? ⟨w.heap.size + 1, 1, none⟩ = some (.slice none 0 0) ∧ w2.frozen? ⟨w.heap.size + 1, 0, none⟩ = false ∧ w2.frozen? ⟨w.heap.size + 1, 1, none⟩ = false := by
    rw [hw2]; refine ⟨?_, ?_, ?_, ?_⟩ <;> go_simp
  have KB := hid kb
  have HG := hid hG
  have HRr := hid hR
  have HRs := hid hRs
  have H2 := hid hw2
  clear hw2 kb hv1 hG hR hRs
  go_enter Tryz.func57, Tryz.ntmps57
  go_wp2_with fail
  rw [← H2.out]
  go_loopw [12] (fun i wr => GInv gs (w.heap.size + 1) w2 i wr) (fun i _ => gs.length - (intOf i).toNat)
  case atStart => exact GInv.mk 0 (.slice none 0 0) (Nat.zero_le _) rfl (by simpa using RowC.nil w2 w2.heap.size) KB.out.1 KB.out.2.1 KB.out.2.2.1 KB.out.2.2.2 (KpB.refl _ _ _)
  case round =>
    obtain ⟨k, gv, hk, rfl, hrow, q0, q1, f0, f1, hkp⟩ := hrel
    have HRow := hid hrow
    have HKp := hid hkp
    have HWr := hid (HB2.out.trans (hkp.below (B := w.heap.size) (by omega) (by omega)))
    have hzr := hkp.size
    clear hrow hkp
    by_cases hlt : k < gs.length
    · have hlt2 : (k : Int) < gs.length := by omega
      obtain ⟨b, o, rfl, hbB, i0', i1, i2, i3⟩ := gl_at (Cs.below HG.out HWr.out (Nat.le_refl _)) hlt
      have HT := hid (show (gs.map Gl.name).take (k + 1) = (gs.map Gl.name).take k ++ [(gs[k]'hlt).name] by
        rw [List.take_succ_eq_append_getElem (by simpa using hlt), List.getElem_map])
      generalize gs[k]'hlt = y at i0' i1 i2 i3 HT
      have hba : Below wr.heap.size wr ((wr.alloc (.cells #[.string y.name, .int .i64 y.w.k, .int .i64 y.w.n, .string y.w.s] 53)).alloc (.cells #[.string y.name] 9)) := below_2 _ _ _
      have hln : ((gs.map Gl.name).take k).length = k := by simp; omega
      obtain ⟨gA, gC, rfl, _, hown⟩ := HRow.out.own hln
      have HR := hid (own_below hown hba)
      have HOn := hid (fun g (e : (Value.slice gA k gC).ownBlock = some g) => own_lt hown e)
      have HX := hid (fun v' w' (h : World.ownsRow w' w2.heap.size 9 1 v' (k + 1) (flatC strC ((gs.map Gl.name).take k) ++ strC y.name)) => (by rw [HT.out]; exact RowC.of hln.symm h : RowC strC 9 1 w' w2.heap.size v' ((gs.map Gl.name).take (k + 1))))
      have HBa := hid hba
      have hkz : w.heap.size + 1 < wr.heap.size := by omega
      clear hba hown hln
      go_wp2_with (at_builtin; refine wpList_append_lies _ rfl _ _ 33 rfl w2.heap.size 9 i0 (.string ⟨#[]⟩) 1 16 Tryz.underlying33 HI.out HZ0.out HZ1.out HZ2.out rfl (by decide) _ _ _ rfl HR.out ⟨wr.heap.size + 1, 0, none⟩ 1 1 [.string y.name] rfl rfl (by have := cells_new (wr.alloc (.cells #[.string y.name, .int .i64 y.w.k, .int .i64 y.w.n, .string y.w.s] 53)) (.string y.name) 9; simpa using this) (by simp [Value.oneCell']) (by decide) (by unfold maxLen; omega) (by omega) (by simp; omega) _ rfl ?_; intro g3 cap3 w3 hown3 hgrow3 hat3 hlt3; have u0 := (hgrow3.cell_far ⟨w.heap.size + 1, 0, none⟩ (by simp; omega) (fun e => by have := (HOn.out _ e.symm).1; dsimp only at this; omega)).trans ((HBa.out.cell (p := ⟨w.heap.size + 1, 0, none⟩) hkz).trans q0); have uf0 := (hgrow3.frozen_far ⟨w.heap.size + 1, 0, none⟩ (by simp; omega) (fun e => by have := (HOn.out _ e.symm).1; dsimp only at this; omega)).trans ((HBa.out.frozen (p := ⟨w.heap.size + 1, 0, none⟩) hkz).trans f0))
      have u1 := (hgrow3.cell_far ⟨w.heap.size + 1, 1, none⟩ (by simp; omega) (fun e => by have := (HOn.out _ e.symm).1; dsimp only at this; omega)).trans ((HBa.out.cell (p := ⟨w.heap.size + 1, 1, none⟩) hkz).trans q1)
      have uf1 := (hgrow3.frozen_far ⟨w.heap.size + 1, 1, none⟩ (by simp; omega) (fun e => by have := (HOn.out _ e.symm).1; dsimp only at this; omega)).trans ((HBa.out.frozen (p := ⟨w.heap.size + 1, 1, none⟩) hkz).trans f1)
      have hg3 : ¬ g3 = w.heap.size + 1 := by have h3 : w2.heap.size ≤ g3 := (own_lt hown3 rfl).1; omega
      have HRw := hid (RowC.keep (w' := w3.setCell ⟨w.heap.size + 1, 0, none⟩ (.slice (some ⟨g3, 0, none⟩) (k + 1) cap3)) (HX.out _ _ hown3) (fun b e => by injection e with e; subst e; exact Below.heap_setCell _ _ _ _ hg3))
      have HKw := hid (((HKp.out.trans (KpB.of HBa.out hzr)).trans (KpB.grown hgrow3 (Nat.le_trans hzr HBa.out.size) (fun j e => (HOn.out j e).1))).trans (KpB.set w2.heap.size (w.heap.size + 1) 0 w3 (.slice (some ⟨g3, 0, none⟩) (k + 1) cap3)))
      have U0 := hid (World.cell?_setCell_same w3 ⟨w.heap.size + 1, 0, none⟩ (.slice (some ⟨g3, 0, none⟩) (k + 1) cap3) u0)
      have U1 := hid ((World.cell?_setCell_other w3 ⟨w.heap.size + 1, 0, none⟩ ⟨w.heap.size + 1, 1, none⟩ (.slice (some ⟨g3, 0, none⟩) (k + 1) cap3) (by intro e; injection e with _ e; omega)).trans u1)
      clear hown3 hgrow3 hat3
      go_wp2_with fail
      go_roundw
      case rel => exact GInv.mk (k + 1) _ (by omega) (by go_num) HRw.out U0.out U1.out (by rw [World.frozen?_setCell]; exact uf0) (by rw [World.frozen?_setCell]; exact uf1) HKw.out
      case measure => simp [intOf]; omega
    · have hlt2 : ¬ (k : Int) < gs.length := by omega
      obtain rfl : k = gs.length := by omega
      have hln : ((gs.map Gl.name).take gs.length) = gs.map Gl.name := List.take_of_length_le (by simp)
      rw [hln] at HRow
      have c2 := (HKp.out.cell (b := w.heap.size) (o := 2) (by omega) (by omega)).trans HV2.out
      obtain ⟨gA, gC, rfl, hgc, hown⟩ := HRow.out.own (n := gs.length) (by simp)
      have HOw := hid hown
      have hz1 : w.heap.size + 1 < wr.heap.size := by omega
      clear hln hown
      obtain ⟨w5, hw5⟩ : ∃ w5, w5 = wr := ⟨_, rfl⟩
      subst hw5
      have HK5 := hid HKp.out
      have HW5 := hid HWr.out
      go_wp2_with fail
      go_loopw [28] (fun i wr => SInv rs (w.heap.size + 1) (.slice gA gs.length gC) w5 i wr) (fun i _ => rs.length - (intOf i).toNat)
      case atStart => exact SInv.mk 0 (.slice none 0 0) (Nat.zero_le _) rfl (by simpa using RowC.nil w5 w5.heap.size) q0 q1 f1 (KpB.refl _ _ _)
      case round =>
        clear q0 q1 f0 f1 c2 HRow HKp HWr
        obtain ⟨k, sv, hk, rfl, hrow, q0, q1, f1, hkp⟩ := hrel
        have HRow := hid hrow
        have HKp := hid hkp
        have HWr := hid (HW5.out.trans (hkp.below (B := w.heap.size) (by omega) (by omega)))
        have hzr2 := hkp.size
        clear hrow hkp
        by_cases hlt : k < rs.length
        · have hlt2 : (k : Int) < rs.length := by omega
          obtain ⟨b, o, rfl, hbB, i0', i1, i2⟩ := rc_at (Cs.below HRr.out HWr.out (Nat.le_refl _)) hlt
          have hv1 := hvs _ (List.getElem_mem hlt)
          have HSv := hid (Cs.below (HRs.out _ (List.getElem_mem hlt)).v HWr.out HWr.out.size)
          have HT := hid (show (firsts rs).take (k + 1) = (firsts rs).take k ++ [(rs[k]'hlt).vs.getD 0 shZ] by
            rw [List.take_succ_eq_append_getElem (by simpa [firsts] using hlt)]
            unfold firsts
            rw [List.getElem_map])
          generalize rs[k]'hlt = y at i0' i1 i2 HT HSv hv1
          obtain ⟨rn, va, vcap, vs, ma, mcap, ms⟩ := y
          dsimp only at i0' i1 i2 HT HSv hv1
          obtain ⟨vb, vo, hvq, hvb, t0, t1⟩ := sh_at HSv.out hv1
          have hvb : vb < _ := hvb
          subst hvq
          rw [Nat.zero_mul, Nat.add_zero] at t0 t1
          obtain ⟨s0, hs0⟩ : ∃ s0, s0 = vs[0]'hv1 := ⟨_, rfl⟩
          have hgd : vs.getD 0 shZ = s0 := by rw [hs0, List.getD_eq_getElem?_getD, List.getElem?_eq_getElem hv1]; rfl
          rw [← hs0] at t0 t1
          rw [hgd] at HT
          clear hgd
          clear hs0
          obtain ⟨sn, sa, scap, sf⟩ := s0
          dsimp only at t0 t1
          have hvl2 : (0 : Int) < vs.length := by omega
          have hvl3 : 0 < vs.length := by omega
          have hvb2 : vb < wr.heap.size := hvb
          have hba : Below wr.heap.size wr (((wr.alloc (.cells #[.string rn, .slice (some ⟨vb, vo, none⟩) vs.length vcap, .slice ma ms.length mcap] 58)).alloc (.cells #[.string sn, .slice sa sf.length scap] 65)).drew) := (((Below.refl _ _).alloc (Nat.le_refl _) _).alloc (by simp) _).drew
          have hln : ((firsts rs).take k).length = k := by simp [firsts]; omega
          obtain ⟨sA, sC, rfl, _, hown⟩ := HRow.out.own hln
          have HR := hid (own_below hown hba)
          have HOn := hid (fun g (e : (Value.slice sA k sC).ownBlock = some g) => own_lt hown e)
          have HX := hid (fun v' w' (h : World.ownsRow w' w5.heap.size 65 2 v' (k + 1) (flatC shC ((firsts rs).take k) ++ shC ⟨sn, sa, scap, sf⟩)) => (by rw [HT.out]; exact RowC.of hln.symm h : RowC shC 65 2 w' w5.heap.size v' ((firsts rs).take (k + 1))))
          have HBa := hid hba
          have hkz : w.heap.size + 1 < wr.heap.size := by omega
          have hkz2 : w.heap.size + 1 < wr.heap.size + 1 := by omega
          have r0 := (hba.cell (p := ⟨w.heap.size + 1, 0, none⟩) hkz).trans q0
          have r1 := (hba.cell (p := ⟨w.heap.size + 1, 1, none⟩) hkz).trans q1
          have rf1 := (hba.frozen (p := ⟨w.heap.size + 1, 1, none⟩) hkz).trans f1
          have Hr0 := hid r0
          have Hr1 := hid r1
          have Hrf := hid rf1
          clear hba hown hln r0 r1 rf1
          go_wp2_with fail
          go_region_law (refine step_append_lies _ rfl (.tmp 33) (.tmp 38) 34 rfl w5.heap.size 65 j0 (.agg #[.string ⟨#[]⟩, .slice none 0 0]) 2 40 Tryz.underlying34 HJ.out HY0.out HY1.out HY2.out rfl (by decide) (.slice sA k sC) k _ (by simp [Act.eval]) HR.out ⟨wr.heap.size + 1, 0, none⟩ 1 1 [.string sn, .slice sa sf.length scap] (by simp [Act.eval]) rfl (by have := cells_new2 (wr.alloc (.cells #[.string rn, .slice (some ⟨vb, vo, none⟩) vs.length vcap, .slice ma ms.length mcap] 58)) (.string sn) (.slice sa sf.length scap) 65; simpa using this) (by simp [Value.oneCell']) (by decide) (by unfold maxLen; omega) (by omega) (by simp; omega) _ rfl ?_; intro g3 cap3 w3 hown3 hgrow3 hat3 hlt3; have u1 := (hgrow3.cell_far ⟨w.heap.size + 1, 1, none⟩ (by simp; omega) (fun e => by have := (HOn.out _ e.symm).1; dsimp only at this; omega)).trans Hr1.out; have uf1 := (hgrow3.frozen_far ⟨w.heap.size + 1, 1, none⟩ (by simp; omega) (fun e => by have := (HOn.out _ e.symm).1; dsimp only at this; omega)).trans Hrf.out)
          all_goals
            have hg3 : ¬ g3 = w.heap.size + 1 := by have h3 : w5.heap.size ≤ g3 := (own_lt hown3 rfl).1; omega
            have u0 := (hgrow3.cell_far ⟨w.heap.size + 1, 0, none⟩ (by simp; omega) (fun e => by have := (HOn.out _ e.symm).1; dsimp only at this; omega)).trans Hr0.out
            have HRw := hid (RowC.keep (w' := w3.setCell ⟨w.heap.size + 1, 1, none⟩ (.slice (some ⟨g3, 0, none⟩) (k + 1) cap3)) (HX.out _ _ hown3) (fun b e => by injection e with e; subst e; exact Below.heap_setCell _ _ _ _ hg3))
            have HKw := hid (((HKp.out.trans (KpB.of HBa.out hzr2)).trans (KpB.grown hgrow3 (Nat.le_trans hzr2 HBa.out.size) (fun j e => (HOn.out j e).1))).trans (KpB.set w5.heap.size (w.heap.size + 1) 1 w3 (.slice (some ⟨g3, 0, none⟩) (k + 1) cap3)))
            have U1 := hid (World.cell?_setCell_same w3 ⟨w.heap.size + 1, 1, none⟩ (.slice (some ⟨g3, 0, none⟩) (k + 1) cap3) u1)
            have U0 := hid ((World.cell?_setCell_other w3 ⟨w.heap.size + 1, 1, none⟩ ⟨w.heap.size + 1, 0, none⟩ (.slice (some ⟨g3, 0, none⟩) (k + 1) cap3) (by intro e; injection e with _ e; omega)).trans u0)
            clear hown3 hgrow3 hat3 u0
            go_wp2_with fail
            go_roundw
            case rel => exact SInv.mk (k + 1) _ (by omega) (by go_num) HRw.out U0.out U1.out (by rw [World.frozen?_setCell]; exact uf1) HKw.out
            case measure => simp [intOf]; omega
        · have hlt2 : ¬ (k : Int) < rs.length := by omega
          obtain rfl : k = rs.length := by omega
          have hln : (firsts rs).take rs.length = firsts rs := List.take_of_length_le (by simp [firsts])
          rw [hln] at HRow
          obtain ⟨sA, sC, rfl, hsc, hownS⟩ := HRow.out.own (n := rs.length) (by simp [firsts])
          have HGr : Hid (RowC strC 9 1 wr w2.heap.size (.slice gA gs.length gC) (gs.map Gl.name)) := hid (by
            refine (show RowC strC 9 1 w5 w2.heap.size (.slice gA gs.length gC) (gs.map Gl.name) from ?_).keep (fun b e => HKp.out.block b (own_lt HOw.out e).2 (by have := (own_lt HOw.out e).1; omega))
            have h := HOw.out
            unfold RowC
            rw [show (gs.map Gl.name).length = gs.length by simp]
            exact h)
          have HSr : Hid (RowC shC 65 2 wr w5.heap.size (.slice sA rs.length sC) (firsts rs)) := hid HRow.out
          have hmem : ∀ s, s ∈ firsts rs → ∃ r, r ∈ rs ∧ s ∈ r.vs := by
            intro s hs
            unfold firsts at hs
            obtain ⟨r, hr1, rfl⟩ := List.mem_map.1 hs
            have h1 := hvs r hr1
            refine ⟨r, hr1, ?_⟩
            rw [List.getD_eq_getElem?_getD, List.getElem?_eq_getElem h1]
            exact List.getElem_mem _
          have HCk := hid (UU.Check_any wr wr.heap.size gA sA (gs.map Gl.name) ((firsts rs).map toU) gs.length gC rs.length sC wr (by simp) (by simp [firsts]) (by omega) (by omega) hgc hsc (Below.refl _ _) (Nat.le_refl _)
            (strs_row (HGr.out.cs strC_len) (fun s hs => by obtain ⟨y, hy, rfl⟩ := List.mem_map.1 hs; exact (hwg y hy).name))
            (shs_row (HSr.out.cs shC_len) (fun s hs => by obtain ⟨r, h1, h2⟩ := hmem s hs; exact (hwr r h1).vs s h2)
              (fun s hs => by obtain ⟨r, h1, h2⟩ := hmem s hs; exact Cs.below ((HRs.out r h1).vs s h2) HWr.out HWr.out.size) (fun s hs => by obtain ⟨r, h1, h2⟩ := hmem s hs; exact (hbr r h1).vs s h2)))
          clear hownS hln
          go_wp2_with fail
          have hcall := HCk.out
          go_fit hcall
          clear hcall
          rintro e w6 ⟨rfl, hb6⟩
          have HB6 := hid (HWr.out.trans (hb6.mono HWr.out.size))
          clear hb6
          go_wp2_with fail
          go_ret
          exact ⟨ret_bool (by rw [Bool.eq_iff_iff]; simp), HB6.out⟩
end Go.Proofs.YtldmanfgmadbfaaGreatDoor
namespace Go.Proofs.YtldmanfgmadbfaaGreatDoor
set_option maxRecDepth 100000
open HH UU VV
open Go.RowKit Go.Maps Go.WideMaps
set_option maxHeartbeats 2000000 in
theorem noFunc_any (v : Vw) (th : List Th) (g : Nat) (x : VV.Fn) (w : World) (hV : ViewAt w v th) (hB : VBox w g v) (hx : wfFn x) (hF : subF w (fun b => b < w.heap.size) x) (hbig : bigF x) :
    Calls Tryz.prog 50 #[.agg #[.int .i64 x.p, .int .i64 x.l, .int .i64 x.c, .slice x.adr x.code.length x.cap], .pointer (some ⟨g, 0, none⟩)] w fun e w' => e = .returned (.bool (!(funcB (ctxOf v.x) x))) ∧ Below w.heap.size w w' := by
  have hb1 : Below w.heap.size w (w.alloc (.cells #[.int .i64 x.p, .int .i64 x.l, .int .i64 x.c, .slice x.adr x.code.length x.cap] 63)) := (Below.refl _ _).alloc (Nat.le_refl _) _
  have HB1 := hid hb1
  have HV1 := hid (hV.below hb1)
  obtain ⟨vlt, c0, c1, c2, c3, c4, c5, c6, c7, c8⟩ := hB
  have hcall0 := hid (mayBeFunc_any v th x (w.alloc (.cells #[.int .i64 x.p, .int .i64 x.l, .int .i64 x.c, .slice x.adr x.code.length x.cap] 63)) HV1.out hx (subF_keep hF (fun b hb => HB1.out.block b hb) (fun _ hb => Nat.lt_of_lt_of_le hb HB1.out.size)) hbig)
  clear hV hb1
  go_enter Tryz.func50, Tryz.ntmps50
  go_wp2_with fail
  have hcall := hcall0.out
  go_fit hcall
  clear hcall
  rintro e w2 ⟨rfl, hb2⟩
  have HB2 := hid (HB1.out.trans (hb2.mono HB1.out.size))
  clear hb2
  go_wp2_with fail
  go_ret
  exact ⟨rfl, HB2.out⟩
set_option maxHeartbeats 2000000 in
theorem indexFunc_any (v : Vw) (th : List Th) (g : Nat) (a : Option Addr) (n cap : Nat) (l : List VV.Fn) (w : World) (hV : ViewAt w v th) (hB : VBox w g v) (hC : Cs w (fun b => b < w.heap.size) a (flatC fnC l)) (hn : n = l.length) (hm : n ≤ 9223372036854775807) (hF : ∀ y, y ∈ l → wfFn y ∧ subF w (fun b => b < w.heap.size) y ∧ bigF y) :
    Calls Tryz.prog 73 #[.slice a n cap, .func (.func 50) #[] #[.pointer (some ⟨g, 0, none⟩)]] w fun e w' => IdxR (fun x => !(funcB (ctxOf v.x) x)) l w e w' := by
  have HN := hid hn
  have HC := hid hC
  have HV := hid hV
  have HVB := hid hB
  clear hC hn hV hB
  go_enter Tryz.func73, Tryz.ntmps73
  go_wp2_with fail
  go_loopw [8] (fun i wr => ∃ k : Nat, k ≤ n ∧ i = .int .i64 k ∧ (l.take k).any (fun x => !(funcB (ctxOf v.x) x)) = false ∧ Below w.heap.size w wr) (fun i _ => n - (intOf i).toNat)
  case atStart => exact ⟨0, Nat.zero_le _, rfl, by simp, Below.refl _ _⟩
  case round =>
    obtain ⟨k, hk, rfl, hno, hbr⟩ := hrel
    have HNo := hid hno
    have HBr := hid hbr
    clear hno
    by_cases hlt : k < n
    · have hlt2 : (k : Int) < n := by omega
      have hkl : k < l.length := by rw [← HN.out]; exact hlt
      obtain ⟨b, o, rfl, hbB, i0, i1, i2, i3⟩ := fn_at (Cs.below HC.out hbr hbr.size) hkl
      have HYes := hid (fun h => any_yes (f := (fun x => !(funcB (ctxOf v.x) x))) hkl h)
      have HNx := hid (fun h => take_none (f := (fun x => !(funcB (ctxOf v.x) x))) HNo.out hkl h)
      have hcall0 := hid (noFunc_any v th g (l[k]'hkl) wr (HV.out.below hbr) (HVB.out.below hbr HVB.out.lt) (hF _ (List.getElem_mem hkl)).1 (subF_keep (hF _ (List.getElem_mem hkl)).2.1 (fun b hb => HBr.out.block b hb) (fun _ hb => Nat.lt_of_lt_of_le hb HBr.out.size)) (hF _ (List.getElem_mem hkl)).2.2)
      clear hbr
      generalize l[k]'hkl = x at i0 i1 i2 i3 hcall0 HYes HNx
      go_wp2_with fail
      have hcall := hcall0.out
      go_fit hcall
      clear hcall
      rintro e w2 ⟨rfl, hb2⟩
      have HB2 := hid (HBr.out.trans (hb2.mono HBr.out.size))
      clear hb2 hcall0
      cases hv : funcB (ctxOf v.x) x with
      | false =>
        have HR := hid (HYes.out (by rw [hv]; rfl))
        go_wp2_with fail
        go_ret
        exact IdxR.hit HR.out HB2.out
      | true =>
        have HR := hid (HNx.out (by rw [hv]; rfl))
        go_wp2_with fail
        go_roundw
        case rel => exact ⟨k + 1, by omega, by go_num, HR.out, HB2.out⟩
        case measure => simp [intOf]; omega
    · have hlt2 : ¬ (k : Int) < n := by omega
      have hkl : k = l.length := by rw [← HN.out]; omega
      have HR := hid (show l.any (fun x => !(funcB (ctxOf v.x) x)) = false from by have := HNo.out; rw [hkl, List.take_length] at this; exact this)
      clear hbr hkl
      go_wp2_with fail
      go_ret
      exact IdxR.miss HR.out HBr.out
set_option maxHeartbeats 1000000 in
theorem containsFunc_any (v : Vw) (th : List Th) (g : Nat) (a : Option Addr) (n cap : Nat) (l : List VV.Fn) (w : World) (hV : ViewAt w v th) (hB : VBox w g v) (hC : Cs w (fun b => b < w.heap.size) a (flatC fnC l)) (hn : n = l.length) (hm : n ≤ 9223372036854775807) (hF : ∀ y, y ∈ l → wfFn y ∧ subF w (fun b => b < w.heap.size) y ∧ bigF y) :
    Calls Tryz.prog 55 #[.slice a n cap, .func (.func 50) #[] #[.pointer (some ⟨g, 0, none⟩)]] w fun e w' => e = .returned (.bool (l.any (fun x => !(funcB (ctxOf v.x) x)))) ∧ Below w.heap.size w w' := by
  have HC := hid (indexFunc_any v th g a n cap l w hV hB hC hn hm hF)
  clear hC hn hV hB
  go_enter Tryz.func55, Tryz.ntmps55
  go_wp2_with fail
  have hcall := HC.out
  go_fit hcall
  clear hcall
  rintro e w2 ⟨r, rfl, hr, hb2⟩
  have HR := hid hr
  have HB := hid hb2
  clear hr hb2
  go_wp2_with fail
  go_ret
  exact ⟨ret_bool (by rw [← HR.out]), HB.out⟩
set_option maxHeartbeats 2000000 in
theorem noRec_any (v : Vw) (th : List Th) (g : Nat) (x : Rc) (w : World) (hV : ViewAt w v th) (hB : VBox w g v) (hx : wfRc x) (hF : subR w (fun b => b < w.heap.size) x) (hbig : bigR x) (hFs : ∀ f, f ∈ v.x.fs → ∀ i, i ∈ f.code → 1 ≤ i.op ∧ i.op ≤ 22) :
    Calls Tryz.prog 52 #[.agg #[.string x.name, .slice x.va x.vs.length x.vcap, .slice x.ma x.ms.length x.mcap], .pointer (some ⟨g, 0, none⟩)] w fun e w' => e = .returned (.bool (!(recB v.x.fs x))) ∧ Below w.heap.size w w' := by
  have hb1 : Below w.heap.size w (w.alloc (.cells #[.string x.name, .slice x.va x.vs.length x.vcap, .slice x.ma x.ms.length x.mcap] 58)) := (Below.refl _ _).alloc (Nat.le_refl _) _
  have HB1 := hid hb1
  have HV1 := hid (hV.below hb1)
  obtain ⟨vlt, c0, c1, c2, c3, c4, c5, c6, c7, c8⟩ := hB
  have hcall0 := hid (mayBeRec_any v th x (w.alloc (.cells #[.string x.name, .slice x.va x.vs.length x.vcap, .slice x.ma x.ms.length x.mcap] 58)) HV1.out hx (subR_keep hF (fun b hb => HB1.out.block b hb) (fun _ hb => Nat.lt_of_lt_of_le hb HB1.out.size)) hbig hFs)
  clear hV hb1
  go_enter Tryz.func52, Tryz.ntmps52
  go_wp2_with fail
  have hcall := hcall0.out
  go_fit hcall
  clear hcall
  rintro e w2 ⟨rfl, hb2⟩
  have HB2 := hid (HB1.out.trans (hb2.mono HB1.out.size))
  clear hb2
  go_wp2_with fail
  go_ret
  exact ⟨rfl, HB2.out⟩
set_option maxHeartbeats 2000000 in
theorem indexRec_any (v : Vw) (th : List Th) (g : Nat) (a : Option Addr) (n cap : Nat) (l : List Rc) (w : World) (hV : ViewAt w v th) (hB : VBox w g v) (hC : Cs w (fun b => b < w.heap.size) a (flatC rcC l)) (hn : n = l.length) (hm : n ≤ 9223372036854775807) (hF : ∀ y, y ∈ l → wfRc y ∧ subR w (fun b => b < w.heap.size) y ∧ bigR y) (hFs : ∀ f, f ∈ v.x.fs → ∀ i, i ∈ f.code → 1 ≤ i.op ∧ i.op ≤ 22) :
    Calls Tryz.prog 74 #[.slice a n cap, .func (.func 52) #[] #[.pointer (some ⟨g, 0, none⟩)]] w fun e w' => IdxR (fun x => !(recB v.x.fs x)) l w e w' := by
  have HN := hid hn
  have HC := hid hC
  have HV := hid hV
  have HVB := hid hB
  clear hC hn hV hB
  go_enter Tryz.func74, Tryz.ntmps74
  go_wp2_with fail
  go_loopw [8] (fun i wr => ∃ k : Nat, k ≤ n ∧ i = .int .i64 k ∧ (l.take k).any (fun x => !(recB v.x.fs x)) = false ∧ Below w.heap.size w wr) (fun i _ => n - (intOf i).toNat)
  case atStart => exact ⟨0, Nat.zero_le _, rfl, by simp, Below.refl _ _⟩
  case round =>
    obtain ⟨k, hk, rfl, hno, hbr⟩ := hrel
    have HNo := hid hno
    have HBr := hid hbr
    clear hno
    by_cases hlt : k < n
    · have hlt2 : (k : Int) < n := by omega
      have hkl : k < l.length := by rw [← HN.out]; exact hlt
      obtain ⟨b, o, rfl, hbB, i0, i1, i2⟩ := rc_at (Cs.below HC.out hbr hbr.size) hkl
      have HYes := hid (fun h => any_yes (f := (fun x => !(recB v.x.fs x))) hkl h)
      have HNx := hid (fun h => take_none (f := (fun x => !(recB v.x.fs x))) HNo.out hkl h)
      have hcall0 := hid (noRec_any v th g (l[k]'hkl) wr (HV.out.below hbr) (HVB.out.below hbr HVB.out.lt) (hF _ (List.getElem_mem hkl)).1 (subR_keep (hF _ (List.getElem_mem hkl)).2.1 (fun b hb => HBr.out.block b hb) (fun _ hb => Nat.lt_of_lt_of_le hb HBr.out.size)) (hF _ (List.getElem_mem hkl)).2.2 hFs)
      clear hbr
      generalize l[k]'hkl = x at i0 i1 i2 hcall0 HYes HNx
      go_wp2_with fail
      have hcall := hcall0.out
      go_fit hcall
      clear hcall
      rintro e w2 ⟨rfl, hb2⟩
      have HB2 := hid (HBr.out.trans (hb2.mono HBr.out.size))
      clear hb2 hcall0
      cases hv : recB v.x.fs x with
      | false =>
        have HR := hid (HYes.out (by rw [hv]; rfl))
        go_wp2_with fail
        go_ret
        exact IdxR.hit HR.out HB2.out
      | true =>
        have HR := hid (HNx.out (by rw [hv]; rfl))
        go_wp2_with fail
        go_roundw
        case rel => exact ⟨k + 1, by omega, by go_num, HR.out, HB2.out⟩
        case measure => simp [intOf]; omega
    · have hlt2 : ¬ (k : Int) < n := by omega
      have hkl : k = l.length := by rw [← HN.out]; omega
      have HR := hid (show l.any (fun x => !(recB v.x.fs x)) = false from by have := HNo.out; rw [hkl, List.take_length] at this; exact this)
      clear hbr hkl
      go_wp2_with fail
      go_ret
      exact IdxR.miss HR.out HBr.out
set_option maxHeartbeats 1000000 in
theorem containsRec_any (v : Vw) (th : List Th) (g : Nat) (a : Option Addr) (n cap : Nat) (l : List Rc) (w : World) (hV : ViewAt w v th) (hB : VBox w g v) (hC : Cs w (fun b => b < w.heap.size) a (flatC rcC l)) (hn : n = l.length) (hm : n ≤ 9223372036854775807) (hF : ∀ y, y ∈ l → wfRc y ∧ subR w (fun b => b < w.heap.size) y ∧ bigR y) (hFs : ∀ f, f ∈ v.x.fs → ∀ i, i ∈ f.code → 1 ≤ i.op ∧ i.op ≤ 22) :
    Calls Tryz.prog 56 #[.slice a n cap, .func (.func 52) #[] #[.pointer (some ⟨g, 0, none⟩)]] w fun e w' => e = .returned (.bool (l.any (fun x => !(recB v.x.fs x)))) ∧ Below w.heap.size w w' := by
  have HC := hid (indexRec_any v th g a n cap l w hV hB hC hn hm hF hFs)
  clear hC hn hV hB
  go_enter Tryz.func56, Tryz.ntmps56
  go_wp2_with fail
  have hcall := HC.out
  go_fit hcall
  clear hcall
  rintro e w2 ⟨r, rfl, hr, hb2⟩
  have HR := hid hr
  have HB := hid hb2
  clear hr hb2
  go_wp2_with fail
  go_ret
  exact ⟨ret_bool (by rw [← HR.out]), HB.out⟩
set_option maxHeartbeats 2000000 in
theorem noGlob_any (v : Vw) (th : List Th) (g : Nat) (x : Gl) (w : World) (hV : ViewAt w v th) (hB : VBox w g v) (hx : wfGl x) :
    Calls Tryz.prog 54 #[.agg #[.string x.name, .int .i64 x.w.k, .int .i64 x.w.n, .string x.w.s], .pointer (some ⟨g, 0, none⟩)] w fun e w' => e = .returned (.bool (!(okV v.x.hs.length th x.w))) ∧ Below w.heap.size w w' := by
  have hb1 : Below w.heap.size w (w.alloc (.cells #[.string x.name, .int .i64 x.w.k, .int .i64 x.w.n, .string x.w.s] 53)) := (Below.refl _ _).alloc (Nat.le_refl _) _
  have HB1 := hid hb1
  have HV1 := hid (hV.below hb1)
  obtain ⟨vlt, c0, c1, c2, c3, c4, c5, c6, c7, c8⟩ := hB
  have hcall0 := hid (isValue_any v.vq v.vb v.x.hs.length th x.w (w.alloc (.cells #[.string x.name, .int .i64 x.w.k, .int .i64 x.w.n, .string x.w.s] 53)) hx.w HV1.out.room HV1.out.vq HV1.out.vc HV1.out.vb HV1.out.beg)
  clear hV hb1
  go_enter Tryz.func54, Tryz.ntmps54
  go_wp2_with fail
  have hcall := hcall0.out
  go_fit hcall
  clear hcall
  rintro e w2 ⟨rfl, hb2⟩
  have HB2 := hid (HB1.out.trans (hb2.mono HB1.out.size))
  clear hb2
  go_wp2_with fail
  go_ret
  exact ⟨rfl, HB2.out⟩
set_option maxHeartbeats 2000000 in
theorem indexGlob_any (v : Vw) (th : List Th) (g : Nat) (a : Option Addr) (n cap : Nat) (l : List Gl) (w : World) (hV : ViewAt w v th) (hB : VBox w g v) (hC : Cs w (fun b => b < w.heap.size) a (flatC glC l)) (hn : n = l.length) (hm : n ≤ 9223372036854775807) (hF : ∀ y, y ∈ l → wfGl y) :
    Calls Tryz.prog 76 #[.slice a n cap, .func (.func 54) #[] #[.pointer (some ⟨g, 0, none⟩)]] w fun e w' => IdxR (fun x => !(okV v.x.hs.length th x.w)) l w e w' := by
  have HN := hid hn
  have HC := hid hC
  have HV := hid hV
  have HVB := hid hB
  clear hC hn hV hB
  go_enter Tryz.func76, Tryz.ntmps76
  go_wp2_with fail
  go_loopw [8] (fun i wr => ∃ k : Nat, k ≤ n ∧ i = .int .i64 k ∧ (l.take k).any (fun x => !(okV v.x.hs.length th x.w)) = false ∧ Below w.heap.size w wr) (fun i _ => n - (intOf i).toNat)
  case atStart => exact ⟨0, Nat.zero_le _, rfl, by simp, Below.refl _ _⟩
  case round =>
    obtain ⟨k, hk, rfl, hno, hbr⟩ := hrel
    have HNo := hid hno
    have HBr := hid hbr
    clear hno
    by_cases hlt : k < n
    · have hlt2 : (k : Int) < n := by omega
      have hkl : k < l.length := by rw [← HN.out]; exact hlt
      obtain ⟨b, o, rfl, hbB, i0, i1, i2, i3⟩ := gl_at (Cs.below HC.out hbr hbr.size) hkl
      have HYes := hid (fun h => any_yes (f := (fun x => !(okV v.x.hs.length th x.w))) hkl h)
      have HNx := hid (fun h => take_none (f := (fun x => !(okV v.x.hs.length th x.w))) HNo.out hkl h)
      have hcall0 := hid (noGlob_any v th g (l[k]'hkl) wr (HV.out.below hbr) (HVB.out.below hbr HVB.out.lt) (hF _ (List.getElem_mem hkl)))
      clear hbr
      generalize l[k]'hkl = x at i0 i1 i2 i3 hcall0 HYes HNx
      go_wp2_with fail
      have hcall := hcall0.out
      go_fit hcall
      clear hcall
      rintro e w2 ⟨rfl, hb2⟩
      have HB2 := hid (HBr.out.trans (hb2.mono HBr.out.size))
      clear hb2 hcall0
      cases hv : okV v.x.hs.length th x.w with
      | false =>
        have HR := hid (HYes.out (by rw [hv]; rfl))
        go_wp2_with fail
        go_ret
        exact IdxR.hit HR.out HB2.out
      | true =>
        have HR := hid (HNx.out (by rw [hv]; rfl))
        go_wp2_with fail
        go_roundw
        case rel => exact ⟨k + 1, by omega, by go_num, HR.out, HB2.out⟩
        case measure => simp [intOf]; omega
    · have hlt2 : ¬ (k : Int) < n := by omega
      have hkl : k = l.length := by rw [← HN.out]; omega
      have HR := hid (show l.any (fun x => !(okV v.x.hs.length th x.w)) = false from by have := HNo.out; rw [hkl, List.take_length] at this; exact this)
      clear hbr hkl
      go_wp2_with fail
      go_ret
      exact IdxR.miss HR.out HBr.out
set_option maxHeartbeats 1000000 in
theorem containsGlob_any (v : Vw) (th : List Th) (g : Nat) (a : Option Addr) (n cap : Nat) (l : List Gl) (w : World) (hV : ViewAt w v th) (hB : VBox w g v) (hC : Cs w (fun b => b < w.heap.size) a (flatC glC l)) (hn : n = l.length) (hm : n ≤ 9223372036854775807) (hF : ∀ y, y ∈ l → wfGl y) :
    Calls Tryz.prog 58 #[.slice a n cap, .func (.func 54) #[] #[.pointer (some ⟨g, 0, none⟩)]] w fun e w' => e = .returned (.bool (l.any (fun x => !(okV v.x.hs.length th x.w)))) ∧ Below w.heap.size w w' := by
  have HC := hid (indexGlob_any v th g a n cap l w hV hB hC hn hm hF)
  clear hC hn hV hB
  go_enter Tryz.func58, Tryz.ntmps58
  go_wp2_with fail
  have hcall := HC.out
  go_fit hcall
  clear hcall
  rintro e w2 ⟨r, rfl, hr, hb2⟩
  have HR := hid hr
  have HB := hid hb2
  clear hr hb2
  go_wp2_with fail
  go_ret
  exact ⟨ret_bool (by rw [← HR.out]), HB.out⟩
end Go.Proofs.YtldmanfgmadbfaaGreatDoor
namespace Go.Proofs.YtldmanfgmadbfaaGreatDoor
set_option maxRecDepth 100000
open HH UU VV
open Go.RowKit Go.Maps Go.WideMaps Go.Shelf
attribute [local go_sem] Oper.semAt_some
theorem int_at_of {l : List Wd} {a : Nat} {b : Int} (h : intAt l a b = true) : ∃ ha : a < l.length, ∃ n : Nat, l[a].n = n ∧ (n : Int) < b ∧ nAt l a = n := by
  unfold intAt at h
  split at h
  · rename_i w hw
    obtain ⟨ha, rfl⟩ := List.getElem?_eq_some_iff.1 hw
    unfold plainB at h
    simp only [Bool.and_eq_true, decide_eq_true_eq] at h
    obtain ⟨n, hn⟩ := Int.eq_ofNat_of_zero_le h.2.1.1
    refine ⟨ha, n, hn, by omega, ?_⟩
    unfold nAt
    rw [hw]
    simp only
    omega
  · cases h
theorem fit_of {l : List Wd} {f n a b : Nat} (h : fitT l f n = some (a, b)) : a = f ∧ b = f + n := by
  unfold fitT at h
  split at h
  · simp only [Option.some.injEq, Prod.mk.injEq] at h; omega
  · cases h
/-- What begins at an address, by its kind. -/
structure ThingIs (l : List Wd) (p f e : Nat) : Prop where
  lt : p < l.length
  n : ∃ n : Nat, (l[p]'lt).n = n ∧ (n : Int) < 60000
  kind : ((l[p]'lt).k = 6 ∧ f = p + 1 ∧ e = p + 3) ∨ ((l[p]'lt).k = 7 ∧ f = p + 1 ∧ e = p + 2) ∨
    ((l[p]'lt).k = 8 ∧ ∃ h1 : p + 1 < l.length, ∃ n : Nat, (l[p + 1]'h1).n = n ∧ n ≤ 40 ∧ f = p + 2 ∧ e = p + 2 + n) ∨
    (((l[p]'lt).k = 9 ∨ (l[p]'lt).k = 10) ∧ ∃ h1 : p + 1 < l.length, ∃ h2 : p + 2 < l.length, ∃ m n : Nat, (l[p + 1]'h1).n = m ∧ m < 20 ∧ (l[p + 2]'h2).n = n ∧ n ≤ 6 ∧ f = p + 3 ∧ e = p + 3 + n)
theorem thing_is {l : List Wd} {p f e : Nat} (h : tAt l p = some (f, e)) : ThingIs l p f e := by
  unfold tAt at h
  split at h
  · cases h
  · rename_i w hw
    obtain ⟨hp, rfl⟩ := List.getElem?_eq_some_iff.1 hw
    split at h
    · cases h
    · rename_i hpl
      have hpl2 : plainB l[p].n l[p].s (headsI l[p].k) = true := by simpa using hpl
      have hhe := headsI_le l[p].k
      unfold plainB at hpl2
      simp only [Bool.and_eq_true, decide_eq_true_eq] at hpl2
      obtain ⟨n, hn⟩ := Int.eq_ofNat_of_zero_le hpl2.1.1
      refine ⟨hp, ⟨n, hn, by omega⟩, ?_⟩
      have hk : l[p].k = 6 ∨ l[p].k = 7 ∨ l[p].k = 8 ∨ l[p].k = 9 ∨ l[p].k = 10 := by
        have h0 : 0 < headsI l[p].k := by omega
        unfold headsI at h0
        repeat' split at h0
        all_goals first | omega | (simp at h0)
      rcases hk with hk | hk | hk | hk | hk
      · rw [hk] at h
        simp [versI, tailT, cntdB, valsI] at h
        obtain ⟨h1, h2⟩ := fit_of h
        exact Or.inl ⟨hk, h1, by omega⟩
      · rw [hk] at h
        simp [versI, tailT, cntdB, valsI] at h
        obtain ⟨h1, h2⟩ := fit_of h
        exact Or.inr (Or.inl ⟨hk, h1, by omega⟩)
      · rw [hk] at h
        simp only [versI, tailT, cntdB, valsI] at h
        simp at h
        obtain ⟨hi, h⟩ := h
        obtain ⟨ha, m, hm, hlt, hna⟩ := int_at_of hi
        obtain ⟨h1, h2⟩ := fit_of h
        exact Or.inr (Or.inr (Or.inl ⟨hk, ha, m, hm, by omega, h1, by omega⟩))
      · rw [hk] at h
        simp only [versI, tailT, cntdB, valsI] at h
        simp at h
        obtain ⟨hv, hi, h⟩ := h
        obtain ⟨hb, q, hq, hql, _⟩ := int_at_of hv
        obtain ⟨ha, m, hm, hlt, hna⟩ := int_at_of hi
        obtain ⟨h1, h2⟩ := fit_of h
        exact Or.inr (Or.inr (Or.inr ⟨Or.inl hk, hb, ha, q, m, hq, by omega, hm, by omega, h1, by omega⟩))
      · rw [hk] at h
        simp only [versI, tailT, cntdB, valsI] at h
        simp at h
        obtain ⟨hv, hi, h⟩ := h
        obtain ⟨hb, q, hq, hql, _⟩ := int_at_of hv
        obtain ⟨ha, m, hm, hlt, hna⟩ := int_at_of hi
        obtain ⟨h1, h2⟩ := fit_of h
        exact Or.inr (Or.inr (Or.inr ⟨Or.inr hk, hb, ha, q, m, hq, by omega, hm, by omega, h1, by omega⟩))
/-- Where the k-th thing begins. -/
def posT (acc : List Th) (e k : Nat) : Nat := match acc[k]? with
  | some t => t.h
  | none => e
theorem posT_lt {acc : List Th} {e k : Nat} (h : k < acc.length) : posT acc e k = acc[k].h := by unfold posT; rw [List.getElem?_eq_getElem h]
theorem posT_end {acc : List Th} {e : Nat} : posT acc e acc.length = e := by unfold posT; rw [List.getElem?_eq_none (Nat.le_refl _)]
theorem chain_pos {l : List Wd} {acc : List Th} {e : Nat} (h : Chain l acc e) : posT acc e 0 = 0 ∧ ∀ k (hk : k < acc.length), tAt l acc[k].h = some (acc[k].f, acc[k].e) ∧ acc[k].e = posT acc e (k + 1) := by
  induction h with
  | nil => exact ⟨rfl, fun k hk => absurd hk (by simp)⟩
  | @snoc acc a f e h1 h2 h3 ih =>
    refine ⟨?_, fun k hk => ?_⟩
    · cases acc with
      | nil => have := ih.1; simp [posT] at this ⊢; exact this
      | cons t r => have := ih.1; simp [posT] at this ⊢; exact this
    · by_cases hlt : k < acc.length
      · rw [List.getElem_append_left hlt]
        obtain ⟨g1, g2⟩ := ih.2 k hlt
        refine ⟨g1, g2.trans ?_⟩
        by_cases hl2 : k + 1 < acc.length
        · rw [posT_lt hl2, posT_lt (by simp; omega), List.getElem_append_left hl2]
        · have : k + 1 = acc.length := by omega
          rw [this, posT_end, posT_lt (by simp), List.getElem_append_right (Nat.le_refl _)]
          simp
      · have hke : k = acc.length := by simp at hk; omega
        subst hke
        rw [List.getElem_append_right (Nat.le_refl _)]
        simp only [Nat.sub_self, List.getElem_cons_zero]
        refine ⟨h3, ?_⟩
        have : acc.length + 1 = (acc ++ [(⟨a, f, e⟩ : Th)]).length := by simp
        rw [this, posT_end]
set_option maxHeartbeats 2000000 in
theorem sides_any (w : World) (B : Nat) (a : Option Addr) (l : List Wd) (len cap p f e : Nat) (hW : Wds w B a l) (hlen : len = l.length) (hl : len ≤ 60000) (ht : ThingIs l p f e) :
    Calls Tryz.prog 67 #[.slice a len cap, .int .i64 p] w fun r w' => r = .returned (.tuple #[.int .i64 f, .int .i64 e]) ∧ Below w.heap.size w w' := by
  obtain ⟨hp, _, hk⟩ := ht
  obtain ⟨b, o, rfl, _, c0, _, _⟩ := hW p hp
  have hp2 : (p : Int) < len := by omega
  have HL := hid hlen
  clear hlen
  rcases hk with ⟨hk, rfl, rfl⟩ | ⟨hk, rfl, rfl⟩ | ⟨hk, h1, n, hn, hn2, rfl, rfl⟩ | ⟨hk, h1, h2, m, n, hm, hm2, hn, hn2, rfl, rfl⟩
  · rw [hk] at c0
    clear hk
    go_enter Tryz.func67, Tryz.ntmps67
    go_wp2_with fail
    go_ret2
    exact ⟨rfl, Below.refl _ _⟩
  · rw [hk] at c0
    clear hk
    go_enter Tryz.func67, Tryz.ntmps67
    go_wp2_with fail
    go_ret2
    exact ⟨rfl, Below.refl _ _⟩
  · rw [hk] at c0
    obtain ⟨b', o', hq, _, _, d1, _⟩ := hW (p + 1) h1
    injection hq with hq
    injection hq with e1 e2
    subst e1 e2
    rw [hn] at d1
    obtain ⟨p1, hp1⟩ : ∃ p1, p1 = p + 1 := ⟨_, rfl⟩
    obtain ⟨p2, hp2'⟩ : ∃ p2, p2 = p + 2 := ⟨_, rfl⟩
    obtain ⟨pe, hpe⟩ : ∃ pe, pe = p + 2 + n := ⟨_, rfl⟩
    have hlen2 := HL.out
    have q1 : (p : Int) + 1 = p1 := by omega
    have q2 : (p : Int) + 2 = p2 := by omega
    have q3 : (p2 : Int) + n = pe := by omega
    have u1 : IntKind.i64.wrap (p1 : Int) = p1 := wrap_small (by omega) (by omega)
    have u2 : IntKind.i64.wrap (p2 : Int) = p2 := wrap_small (by omega) (by omega)
    have u3 : IntKind.i64.wrap (pe : Int) = pe := wrap_small (by omega) (by omega)
    have v1 : (p1 : Int) < len := by omega
    rw [← hp1] at d1
    have hG1 := hid hp2'
    have hG2 := hid hpe
    clear hk hn hp1 hp2' hpe hlen2
    go_enter Tryz.func67, Tryz.ntmps67
    go_wp2_with fail
    go_region
    go_wp2_with fail
    go_ret2
    exact ⟨by rw [← hG2.out, ← hG1.out]; rfl, bdrew (Below.refl _ _) 1⟩
  · obtain ⟨b', o', hq, _, _, d1, _⟩ := hW (p + 2) h2
    injection hq with hq
    injection hq with e1 e2
    subst e1 e2
    rw [hn] at d1
    obtain ⟨p1, hp1⟩ : ∃ p1, p1 = p + 2 := ⟨_, rfl⟩
    obtain ⟨p2, hp2'⟩ : ∃ p2, p2 = p + 3 := ⟨_, rfl⟩
    obtain ⟨pe, hpe⟩ : ∃ pe, pe = p + 3 + n := ⟨_, rfl⟩
    have hlen2 := HL.out
    have q1 : (p : Int) + 2 = p1 := by omega
    have q2 : (p : Int) + 3 = p2 := by omega
    have q3 : (p2 : Int) + n = pe := by omega
    have u1 : IntKind.i64.wrap (p1 : Int) = p1 := wrap_small (by omega) (by omega)
    have u2 : IntKind.i64.wrap (p2 : Int) = p2 := wrap_small (by omega) (by omega)
    have u3 : IntKind.i64.wrap (pe : Int) = pe := wrap_small (by omega) (by omega)
    have v1 : (p1 : Int) < len := by omega
    rw [← hp1] at d1
    have hG1 := hid hp2'
    have hG2 := hid hpe
    clear hn hm hp1 hp2' hpe hlen2
    rcases hk with hk | hk
    all_goals
      rw [hk] at c0
      clear hk
      go_enter Tryz.func67, Tryz.ntmps67
      go_wp2_with fail
      go_region
      go_wp2_with fail
      go_ret2
      exact ⟨by rw [← hG2.out, ← hG1.out]; rfl, bdrew (Below.refl _ _) 1⟩
/-- A thing of a heap. -/
abbrev TA (acc : List Th) := { t : Th // t ∈ acc }
def encA {acc : List Th} (x : TA acc) : Array Value := #[.int .i64 (x.1.h : Int)]
def thA {acc : List Th} (l : List (TA acc)) : List Th := l.map fun x => x.1
theorem Wds.keepN {W W' : World} {N : Nat} {a : Option Addr} {l : List Wd} (h : Wds W N a l) (hk : ∀ k, k < N → W'.heap[k]? = W.heap[k]?) : Wds W' N a l := by
  intro i hi
  obtain ⟨b, o, h2, h3, c0, c1, c2⟩ := h i hi
  exact ⟨b, o, h2, h3, (World.cell?_of_block (w := W) (hk b h3)).trans c0, (World.cell?_of_block (w := W) (hk b h3)).trans c1, (World.cell?_of_block (w := W) (hk b h3)).trans c2⟩
theorem KpM.of {N mb : Nat} {W W' : World} (h : Below N W W') : KpM N mb W W' := ⟨h.size, fun k hk _ => h.block k hk⟩
set_option maxRecDepth 100000 in
set_option maxHeartbeats 2000000 in
theorem things1_in (n : Nat) (hn : 2 ≤ n) (y Bs N mb B : Nat) (a : Option Addr) (cap : Nat) (l : List Wd) (acc : List Th) (hch : Chain l acc l.length) (hl : l.length ≤ 60000) (hBN : Bs < N) (hBm : ¬ Bs = mb) (hBB : B ≤ mb) (hBN2 : B ≤ N) (J Jx : List (TA acc) → World → Prop)
    (hY : ∀ pre x W, J pre W → pre.length < acc.length → YieldAt Fence.wide (n - 1) Tryz.prog y (encA x) W fun e W' =>
      (e = .returned (.bool true) ∧ J (pre ++ [x]) W' ∧ KpM N mb W W') ∨ (e = .returned (.bool false) ∧ Jx (pre ++ [x]) W'))
    (hJ : ∀ pre W W', J pre W → Below W.heap.size W W' → J pre W')
    (W : World) (hBs : W.cell? ⟨Bs, 0, none⟩ = some (.slice a l.length cap)) (hc : Wds W B a l) (hNW : N ≤ W.heap.size) (h0 : J [] W) :
    CallsIn Fence.wide n Tryz.prog 66 #[.func (.yield y) #[] #[], .pointer (some ⟨Bs, 0, none⟩)] W fun e W' => (∃ v, e = .returned v) ∧
      ((∃ ys, thA ys = acc ∧ J ys W') ∨ (∃ pre, (∃ k, k < acc.length ∧ thA pre = acc.take (k + 1)) ∧ Jx pre W')) := by
  obtain ⟨hp0, hps⟩ := chain_pos hch
  refine callsIn_of_wp Tryz.func66 rfl trivial ?_ rfl
  simp only [Tryz.ntmps66, List.size_toArray, List.length_cons, List.length_nil, Nat.reduceAdd, Nat.reduceSub, Array.replicate_succ, Array.replicate_zero, List.push_toArray, List.append_toArray, List.nil_append, List.cons_append]
  gi_wp2
  gi_loopw [3] (fun i wr => ∃ (k p : Nat) (pre : List (TA acc)), k ≤ acc.length ∧ i = .int .i64 (p : Int) ∧ p = posT acc l.length k ∧ thA pre = acc.take k ∧ pre.length = k ∧ J pre wr ∧ KpM N mb W wr)
    (fun i _ => l.length - (intOf i).toNat)
  case atStart => exact ⟨0, 0, [], Nat.zero_le _, rfl, hp0.symm, by simp [thA], rfl, h0, KpM.refl _ _ _⟩
  case round =>
    obtain ⟨k, p, pre, hk, rfl, hp, hth, hpl, hJs, hkp⟩ := hrel
    have hbs := (World.cell?_of_block (w := W) (a := ⟨Bs, 0, none⟩) (hkp.block Bs hBN hBm)).trans hBs
    by_cases hlt : k < acc.length
    · have hpk := hp.trans (posT_lt hlt)
      obtain ⟨htA, hen⟩ := hps k hlt
      have hle := tAt_le htA
      have hti := thing_is htA
      have hpl2 : p < l.length := by omega
      have hpl3 : (p : Int) < l.length := by omega
      obtain ⟨fn, tmps, assign, body, hy, hR⟩ := hY pre ⟨acc[k], List.getElem_mem hlt⟩ wr hJs (by omega)
      dsimp only [encA] at hy
      have hstep : thA (pre ++ [(⟨acc[k], List.getElem_mem hlt⟩ : TA acc)]) = acc.take (k + 1) := by
        rw [List.take_succ_eq_append_getElem hlt, ← hth]; simp [thA]
      have HS := hid hstep
      have HP := hid hpl
      have HK := hid hkp
      have HT := hid hti
      have HE := hid hen
      have HLe := hid hle
      clear hstep hpl hth hkp hps hti hen htA hle
      rw [← hpk] at hy
      have HPk := hid hpk
      clear hp hpk
      gi_wp2
      refine ⟨fun _ => by omega, hR.mono ?_⟩
      rintro e W3 (⟨rfl, hJ3, hk3⟩ | ⟨rfl, hJx3⟩)
      · have hbs3 := (World.cell?_of_block (w := wr) (a := ⟨Bs, 0, none⟩) (hk3.block Bs hBN hBm)).trans hbs
        have HK3 := hid (HK.out.trans hk3)
        have hcall0 := hid (sides_any W3 B a l l.length cap p acc[k].f acc[k].e (Wds.keepN hc (fun k hk => HK3.out.block k (by omega) (by omega))) rfl hl (by rw [HPk.out]; exact HT.out))
        clear hk3
        have hnp : acc[k].e = posT acc l.length (k + 1) := HE.out
        have hgo : p < acc[k].e := by have := HLe.out; have := HPk.out; omega
        have HNp := hid hnp
        have HZ := hid (Nat.le_trans hNW HK3.out.size)
        clear hnp
        generalize acc[k].f = ff at hcall0
        generalize acc[k].e = ee at hcall0 HNp hgo
        gi_wp2
        refine ⟨trivial, fun _ => by omega, ?_⟩
        refine (callsIn_wide.2 hcall0.out).mono ?_
        rintro e w4 ⟨rfl, hb4⟩
        have HJ4 := hid (hJ _ _ _ hJ3 hb4)
        have HK4 := hid (HK3.out.trans (KpM.of (hb4.mono HZ.out)))
        clear hb4 hJ3
        gi_wp2
        go_roundw
        case rel => exact ⟨k + 1, ee, pre ++ [⟨acc[k], List.getElem_mem hlt⟩], by omega, rfl, HNp.out, HS.out, by have := HP.out; simp; omega, HJ4.out, HK4.out⟩
        case measure => simp [intOf]; omega
      · gi_wp2
        refine bodyPost_ret (results_none rfl _ _ _) rfl ?_
        exact ⟨⟨_, rfl⟩, .inr ⟨_, ⟨k, hlt, HS.out⟩, hJx3⟩⟩
    · obtain rfl : k = acc.length := by omega
      obtain rfl : p = l.length := hp.trans posT_end
      have hnl : ¬ ((l.length : Int) < l.length) := by omega
      have HT := hid hth
      clear hth hkp hps hp hp0
      gi_wp2
      go_end0
      exact ⟨⟨_, rfl⟩, .inl ⟨pre, by have := HT.out; rwa [List.take_length] at this, hJs⟩⟩
theorem things_stops (n : Nat) (hn : 2 ≤ n) (Bs N mb B : Nat) (a : Option Addr) (cap : Nat) (l : List Wd) (acc : List Th) (hch : Chain l acc l.length) (hl : l.length ≤ 60000) (hBN : Bs < N) (hBm : ¬ Bs = mb) (hBB : B ≤ mb) (hBN2 : B ≤ N) (w : World) (hNw : N ≤ w.heap.size)
    (hBs : w.cell? ⟨Bs, 0, none⟩ = some (.slice a l.length cap)) (hc : Wds w B a l) :
    SeqStopsK Fence.wide n Tryz.prog 66 #[.pointer (some ⟨Bs, 0, none⟩)] (encA (acc := acc)) (KpM N mb) (fun ys => thA ys = acc) (fun pre => ∃ k, k < acc.length ∧ thA pre = acc.take (k + 1)) acc.length w := fun y J Jx W hW hA _ hY h0 =>
  things1_in n hn y Bs N mb B a cap l acc hch hl hBN hBm hBB hBN2 J Jx hY (fun pre X X' hs hb => hA pre X X' none hs ⟨hb.os, hb.tape, hb.output, hb.size, fun k hk _ => hb.block k hk⟩ (fun r e => by cases e)) W
    ((hW.cell (p := ⟨Bs, 0, none⟩) (by dsimp only; omega)).trans hBs) (Wds.keepN hc (fun k hk => hW.block k (by omega))) (Nat.le_trans hNw hW.size) h0
set_option maxHeartbeats 1000000 in
theorem things_in (n : Nat) (a : Option Addr) (len cap : Nat) (w : World) :
    CallsIn Fence.wide n Tryz.prog 46 #[.slice a len cap] w fun e w' => e = .returned (.func (.func 66) #[] #[.pointer (some ⟨w.heap.size, 0, none⟩)]) ∧ w' = w.alloc (.cells #[.slice a len cap] 25) := by
  refine callsIn_of_wp Tryz.func46 rfl trivial ?_ rfl
  simp only [Tryz.ntmps46, List.size_toArray, List.length_cons, List.length_nil, Nat.reduceAdd, Nat.reduceSub, Array.replicate_succ, Array.replicate_zero, List.push_toArray, List.append_toArray, List.nil_append, List.cons_append]
  gi_wp2
  go_ret
  exact ⟨rfl, rfl⟩
end Go.Proofs.YtldmanfgmadbfaaGreatDoor

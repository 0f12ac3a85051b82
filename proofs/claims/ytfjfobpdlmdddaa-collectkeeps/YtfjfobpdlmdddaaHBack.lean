/- Things from the last to the first: slices.Backward at things. -/
import Derived.Test.YtfjfobpdlmdddaaHVals
import Derived.RangeFuncNested
import Derived.RangeFuncBound
import Derived.RangeFuncCalls
import Derived.RangeFuncLeaves
import Derived.Shelf.Abstract
import Derived.Shelf.RegionOpen
import Derived.OwnWalkIn
import Derived.TacticsInMore
import Derived.LoopNIn
import Derived.LoopIn
namespace Go.Proofs.Ytfjfobpdlmdddaa
set_option maxRecDepth 100000
open Go.RowKit Go.Shelf
attribute [local go_sem] Oper.semAt_some
/-- A thing that begins below M. -/
abbrev TT (M : Nat) := { t : Th // t.h < M }
def encT {M : Nat} (x : Nat × TT M) : Array Value := #[.int .i64 (x.1 : Int), .agg #[.int .i64 (x.2.1.h : Int), .int .i64 (x.2.1.f : Int), .int .i64 (x.2.1.e : Int)]]
def thsOf {M : Nat} (l : List (Nat × TT M)) : List Th := l.map fun x => x.2.1
/-- What lay ahead of N is as it was, but for block mb. -/
structure KpM (N mb : Nat) (W W' : World) : Prop where
  size : W.heap.size ≤ W'.heap.size
  block : ∀ k, k < N → ¬ k = mb → W'.heap[k]? = W.heap[k]?
theorem KpM.refl (N mb : Nat) (W : World) : KpM N mb W W := ⟨Nat.le_refl _, fun _ _ _ => rfl⟩
theorem KpM.trans {N mb : Nat} {a b c : World} (h : KpM N mb a b) (k : KpM N mb b c) : KpM N mb a c := ⟨Nat.le_trans h.size k.size, fun i hi hn => (k.block i hi hn).trans (h.block i hi hn)⟩
theorem KpM.putObj {N mb : Nat} {w : World} (hN : N ≤ w.heap.size) (W : World) (l : Nat) (o o' : Obj) (hl : w.heap.size ≤ l) (h : W.heap[l]? = some o) (_ : o.isCells = false) (_ : o.isWalk = false) : KpM N mb W (W.putObj l o') :=
  ⟨(grownBy_putObj' W l o').size, fun k hk _ => (grownBy_putObj' W l o').block k (by have := (Array.getElem?_eq_some_iff.1 h).1; omega) (fun e => by cases e; omega)⟩
/-- Things lie in a row. -/
def ThsIn (W : World) (N mb : Nat) (a : Option Addr) (acc : List Th) : Prop :=
  ∀ i (h : i < acc.length), ∃ g, a = some ⟨g, 0, none⟩ ∧ g < N ∧ ¬ g = mb ∧ W.cell? ⟨g, i * 3, none⟩ = some (.int .i64 acc[i].h) ∧ W.cell? ⟨g, i * 3 + 1, none⟩ = some (.int .i64 acc[i].f) ∧ W.cell? ⟨g, i * 3 + 2, none⟩ = some (.int .i64 acc[i].e)
theorem ThsIn.keep {W W' : World} {N mb : Nat} {a : Option Addr} {acc : List Th} (h : ThsIn W N mb a acc) (hk : KpM N mb W W') : ThsIn W' N mb a acc := by
  intro i hi
  obtain ⟨g, h1, h2, h3, c0, c1, c2⟩ := h i hi
  have hb := hk.block g h2 h3
  exact ⟨g, h1, h2, h3, (World.cell?_of_block (w := W) hb).trans c0, (World.cell?_of_block (w := W) hb).trans c1, (World.cell?_of_block (w := W) hb).trans c2⟩
set_option maxRecDepth 100000 in
set_option maxHeartbeats 2000000 in
theorem back1_in (F : Fence) (n : Nat) (h58 : F.fn 60) (hro : F.round = none) (hn : 1 ≤ n) {M : Nat} (l Bs N mb : Nat) (a : Option Addr) (cap : Nat) (acc : List Th) (hin : ∀ i (h : i < acc.length), acc[i].h < M) (hacc : acc.length ≤ 60000) (hBN : Bs < N) (hBm : ¬ Bs = mb) (J Jx : List (Nat × TT M) → World → Prop)
    (hY : ∀ pre x W, J pre W → pre.length < acc.length → YieldAt F (n - 1) Try.prog l (encT x) W fun e W' =>
      (e = .returned (.bool true) ∧ J (pre ++ [x]) W' ∧ KpM N mb W W') ∨ (e = .returned (.bool false) ∧ Jx (pre ++ [x]) W'))
    (W : World) (hBs : W.cell? ⟨Bs, 0, none⟩ = some (.slice a acc.length cap)) (hc : ThsIn W N mb a acc) (h0 : J [] W) :
    CallsIn F n Try.prog 60 #[.func (.yield l) #[] #[], .pointer (some ⟨Bs, 0, none⟩)] W fun e W' => (∃ v, e = .returned v) ∧
      ((∃ ys, thsOf ys = acc.reverse ∧ J ys W') ∨ (∃ pre, (∃ k, k < acc.length ∧ thsOf pre = (acc.drop k).reverse) ∧ Jx pre W')) := by
  refine callsIn_of_wp Try.func60 rfl h58 ?_ hro
  simp only [Try.ntmps60, List.size_toArray, List.length_cons, List.length_nil, Nat.reduceAdd, Nat.reduceSub, Array.replicate_succ, Array.replicate_zero, List.push_toArray, List.append_toArray, List.nil_append, List.cons_append]
  gi_wp2
  gi_loopw [3] (fun i wr => ∃ (k : Nat) (z : Int) (pre : List (Nat × TT M)), k ≤ acc.length ∧ i = .int .i64 z ∧ z = (k : Int) - 1 ∧ thsOf pre = (acc.drop k).reverse ∧ pre.length = acc.length - k ∧ J pre wr ∧ KpM N mb W wr)
    (fun i _ => (intOf i + 1).toNat)
  case atStart => exact ⟨acc.length, _, [], Nat.le_refl _, rfl, rfl, by simp [thsOf], by simp, h0, KpM.refl _ _ _⟩
  case round =>
    obtain ⟨k, z, pre, hk, rfl, hz, hth, hpl, hJs, hkp⟩ := hrel
    have hbs := (World.cell?_of_block (w := W) (a := ⟨Bs, 0, none⟩) (hkp.block Bs hBN hBm)).trans hBs
    cases k with
    | zero =>
      obtain rfl : z = -1 := by simpa using hz
      have HT := hid hth
      clear hz hth hpl hkp
      have hneg : ¬ (0 : Int) ≤ -1 := by omega
      gi_wp2
      go_end0
      exact ⟨⟨_, rfl⟩, .inl ⟨pre, by simpa using HT.out, hJs⟩⟩
    | succ m =>
      obtain rfl : z = (m : Int) := by omega
      have hm : m < acc.length := by omega
      have hm2 : (m : Int) < acc.length := by omega
      obtain ⟨g, rfl, hgN, hgm, d0, d1, d2⟩ := (hc.keep hkp) m hm
      obtain ⟨fn, tmps, assign, body, hy, hR⟩ := hY pre (m, ⟨acc[m], hin m hm⟩) wr hJs (by omega)
      dsimp only [encT] at hy
      have hstep : thsOf (pre ++ [(m, (⟨acc[m], hin m hm⟩ : TT M))]) = (acc.drop m).reverse := by
        rw [List.drop_eq_getElem_cons hm, List.reverse_cons, ← hth]; simp [thsOf]
      have HS := hid hstep
      have HZ := hid hz
      have HP := hid hpl
      have HK := hid hkp
      clear hstep hz hpl hth hkp
      generalize acc[m].h = x0 at hy d0
      generalize acc[m].f = x1 at hy d1
      generalize acc[m].e = x2 at hy d2
      gi_wp2
      refine hR.mono ?_
      rintro e W3 (⟨rfl, hJ3, hk3⟩ | ⟨rfl, hJx3⟩)
      · gi_wp2
        go_roundw
        case rel => exact ⟨m, _, pre ++ [(m, ⟨acc[m], hin m hm⟩)], by omega, rfl, rfl, HS.out, by have := HP.out; simp; omega, hJ3, HK.out.trans hk3⟩
        case measure => simp [intOf]
      · gi_wp2
        refine bodyPost_ret (results_none rfl _ _ _) rfl ?_
        exact ⟨⟨_, rfl⟩, .inr ⟨_, ⟨m, hm, HS.out⟩, hJx3⟩⟩
theorem back_stops (F : Fence) (n : Nat) (h58 : F.fn 60) (hro : F.round = none) (hn : 1 ≤ n) {M : Nat} (Bs N mb : Nat) (a : Option Addr) (cap : Nat) (acc : List Th) (hin : ∀ i (h : i < acc.length), acc[i].h < M) (hacc : acc.length ≤ 60000) (hBN : Bs < N) (hBm : ¬ Bs = mb) (w : World) (hNw : N ≤ w.heap.size)
    (hBs : w.cell? ⟨Bs, 0, none⟩ = some (.slice a acc.length cap)) (hc : ThsIn w N mb a acc) :
    SeqStopsK F n Try.prog 60 #[.pointer (some ⟨Bs, 0, none⟩)] (encT (M := M)) (KpM N mb) (fun ys => thsOf ys = acc.reverse) (fun pre => ∃ k, k < acc.length ∧ thsOf pre = (acc.drop k).reverse) acc.length w := fun l J Jx W hW _ _ hY h0 =>
  back1_in F n h58 hro hn l Bs N mb a cap acc hin hacc hBN hBm J Jx hY W ((hW.cell (p := ⟨Bs, 0, none⟩) (by dsimp only; omega)).trans hBs) (hc.keep ⟨hW.size, fun k hk _ => hW.block k (by omega)⟩) h0
set_option maxHeartbeats 1000000 in
theorem back_in (F : Fence) (n : Nat) (h52 : F.fn 58) (hro : F.round = none) (a : Option Addr) (len cap : Nat) (w : World) :
    CallsIn F n Try.prog 58 #[.slice a len cap] w fun e w' => e = .returned (.func (.func 60) #[] #[.pointer (some ⟨w.heap.size, 0, none⟩)]) ∧ w' = w.alloc (.cells #[.slice a len cap] 55) := by
  refine callsIn_of_wp Try.func58 rfl h52 ?_ hro
  simp only [Try.ntmps58, List.size_toArray, List.length_cons, List.length_nil, Nat.reduceAdd, Nat.reduceSub, Array.replicate_succ, Array.replicate_zero, List.push_toArray, List.append_toArray, List.nil_append, List.cons_append]
  gi_wp2
  go_ret
  exact ⟨rfl, rfl⟩
end Go.Proofs.Ytfjfobpdlmdddaa

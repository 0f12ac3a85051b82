/- What was moved, and where it is now: heap's addMoved. -/
import Derived.Test.YtfjfobpdlmdddaaHBack
import Derived.Test.YtfjfobpdlmdddaaHHas
import Derived.Maps.OwnIn
import Derived.BigRegionIn
namespace Go.Proofs.Ytfjfobpdlmdddaa
set_option maxRecDepth 100000
open Go.RowKit Go.Shelf Go.Maps
attribute [local go_sem] Oper.semAt_some
def nInt (l : List Wd) (i : Nat) : Int := match l[i]? with
  | some w => w.n
  | none => 0
def toOf (l : List Wd) (ms : List (Int × Int)) (t : Th) : Int := if hasI ms (nInt l t.h) = true then valI ms (nInt l t.h) else nInt l t.h
/-- One thing more, from the last to the first. -/
def mvStep (l : List Wd) (ps ms : List (Int × Int)) (t : Th) : Option (List (Int × Int)) :=
  if kindAt l t.h = 10 then (if recB l ps (toOf l ms t) = true then some (((t.h : Int), toOf l ms t) :: ms) else none) else some ms
def mvAll (l : List Wd) (ps : List (Int × Int)) : List Th → List (Int × Int) → Option (List (Int × Int))
  | [], ms => some ms
  | t :: r, ms => (mvStep l ps ms t).bind (mvAll l ps r)
theorem mvAll_snoc (l : List Wd) (ps : List (Int × Int)) (t : Th) : ∀ (r : List Th) (ms : List (Int × Int)), mvAll l ps (r ++ [t]) ms = (mvAll l ps r ms).bind fun ms' => mvStep l ps ms' t
  | [], ms => by simp [mvAll]
  | x :: r, ms => by
    simp only [List.cons_append, mvAll]
    cases mvStep l ps ms x with
    | none => rfl
    | some ms' => exact mvAll_snoc l ps t r ms'
theorem Chart.keepN {W W' : World} {B cb N : Nat} {a : Option Addr} {len cap : Nat} {l : List Wd} {v : Value} {acc : List Th} {pb mb : Nat} {ms : List (Int × Int)} (h : Chart W B cb a len cap l v acc pb mb ms) (hk : ∀ k, k < N → W'.heap[k]? = W.heap[k]?)
    (h1 : cb < N) (h2 : pb < N) (h3 : mb < N) (h4 : ∀ g, v.ownBlock = some g → g < N) : Chart W' B cb a len cap l v acc pb mb ms := by
  have hb := hk cb h1
  refine ⟨?_, (World.cell?_of_block (w := W) hb).trans h.c0, (World.cell?_of_block (w := W) hb).trans h.c1, (World.cell?_of_block (w := W) hb).trans h.c2, (World.cell?_of_block (w := W) hb).trans h.c3, (World.frozen?_of_block (w := W) hb).trans h.f1,
    h.row.keep (fun b hv => hk b (h4 b hv)), h.pl.keep (hk pb h2), h.mv.keep (hk mb h3), h.hcb, h.hpb, h.hmb, h.n1, h.n2, h.n3, h.n4⟩
  intro i hi
  obtain ⟨b, o, e1, e2, c0, c1, c2⟩ := h.wds i hi
  have hb := hk b (by have := h.hcb; omega)
  exact ⟨b, o, e1, e2, (World.cell?_of_block (w := W) hb).trans c0, (World.cell?_of_block (w := W) hb).trans c1, (World.cell?_of_block (w := W) hb).trans c2⟩
/-- A pair more in the map of what was moved. -/
theorem Chart.moved {W W' : World} {B cb : Nat} {a : Option Addr} {len cap : Nat} {l : List Wd} {v : Value} {acc : List Th} {pb mb : Nat} {ms ms' : List (Int × Int)} (h : Chart W B cb a len cap l v acc pb mb ms) (hg : W.grownBy W' (some mb)) (ho : OwnsI W' mb ms') : Chart W' B cb a len cap l v acc pb mb ms' := by
  have hl := h.lt
  have hne : some cb ≠ some mb := fun e => h.n2 (by injection e)
  have hB : Below B W W' := (Below.refl _ _).grown hg (by have := h.hcb; omega) (fun j hj => by cases hj; exact h.hmb)
  exact ⟨h.wds.below hB, (hg.cell_far ⟨cb, _, none⟩ hl hne).trans h.c0, (hg.cell_far ⟨cb, _, none⟩ hl hne).trans h.c1, (hg.cell_far ⟨cb, _, none⟩ hl hne).trans h.c2, (hg.cell_far ⟨cb, _, none⟩ hl hne).trans h.c3, (hg.frozen_far ⟨cb, _, none⟩ hl hne).trans h.f1,
    h.row.keep (fun b hv => hg.block b (h.row.own_lt hv).2 (fun e => (h.n4 b hv).2.2 (by injection e))), h.pl.kept hg (fun e => h.n3 (by injection e)), ho, h.hcb, h.hpb, h.hmb, h.n1, h.n2, h.n3, h.n4⟩
theorem mvAll_append (l : List Wd) (ps : List (Int × Int)) : ∀ (r q : List Th) (ms : List (Int × Int)), mvAll l ps (r ++ q) ms = (mvAll l ps r ms).bind (mvAll l ps q)
  | [], q, ms => rfl
  | x :: r, q, ms => by
    simp only [List.cons_append, mvAll]
    cases mvStep l ps ms x with
    | none => rfl
    | some ms' => exact mvAll_append l ps r q ms'
theorem mv_boxes (w : World) (cb : Nat) (av : Option Addr) (n capv : Nat) (t1 t2 t3 : TypeId) :
    (((w.alloc (.cells #[.pointer (some ⟨cb, 0, none⟩)] t1)).alloc (.cells #[.bool false] t2)).alloc (.cells #[.slice av n capv] t3)).cell? ⟨w.heap.size, 0, none⟩ = some (.pointer (some ⟨cb, 0, none⟩)) ∧
    (((w.alloc (.cells #[.pointer (some ⟨cb, 0, none⟩)] t1)).alloc (.cells #[.bool false] t2)).alloc (.cells #[.slice av n capv] t3)).cell? ⟨w.heap.size + 1, 0, none⟩ = some (.bool false) ∧
    (((w.alloc (.cells #[.pointer (some ⟨cb, 0, none⟩)] t1)).alloc (.cells #[.bool false] t2)).alloc (.cells #[.slice av n capv] t3)).cell? ⟨w.heap.size + 2, 0, none⟩ = some (.slice av n capv) ∧
    (((w.alloc (.cells #[.pointer (some ⟨cb, 0, none⟩)] t1)).alloc (.cells #[.bool false] t2)).alloc (.cells #[.slice av n capv] t3)).frozen? ⟨w.heap.size + 1, 0, none⟩ = false := by
  refine ⟨?_, ?_, ?_, ?_⟩ <;> go_simp
/-- Between two rounds. -/
structure MvI (w : World) (N B cb : Nat) (a : Option Addr) (len cap : Nat) (l : List Wd) (v : Value) (acc : List Th) (pb mb : Nat) (ts : List Th) (W : World) (ms : List (Int × Int)) : Prop where
  all : mvAll l (plOf acc) ts [] = some ms
  ok : ∀ n, hasI ms n = true → wfI (valI ms n)
  few : ms.length ≤ ts.length
  chart : Chart W B cb a len cap l v acc pb mb ms
  x0 : W.cell? ⟨w.heap.size, 0, none⟩ = some (.pointer (some ⟨cb, 0, none⟩))
  x1 : W.cell? ⟨w.heap.size + 1, 0, none⟩ = some (.bool false)
  xf : W.frozen? ⟨w.heap.size + 1, 0, none⟩ = false
  bel : Below B w W
  size : N ≤ W.heap.size
structure MvX (w : World) (N B : Nat) (l : List Wd) (ps : List (Int × Int)) (ts : List Th) (W : World) : Prop where
  all : mvAll l ps ts [] = none
  x1 : W.cell? ⟨w.heap.size + 1, 0, none⟩ = some (.bool false)
  bel : Below B w W
  size : N ≤ W.heap.size
theorem MvI.keep {w : World} {N B cb : Nat} {a : Option Addr} {len cap : Nat} {l : List Wd} {v : Value} {acc : List Th} {pb mb : Nat} {ts : List Th} {W W' : World} {ms : List (Int × Int)} (h : MvI w N B cb a len cap l v acc pb mb ts W ms) (hz : W.heap.size ≤ W'.heap.size) (hk : ∀ k, k < N → W'.heap[k]? = W.heap[k]?) (hB : Below B W W')
    (hN : w.heap.size + 2 ≤ N) (h1 : cb < N) (h2 : pb < N) (h3 : mb < N) (h4 : ∀ g, v.ownBlock = some g → g < N) : MvI w N B cb a len cap l v acc pb mb ts W' ms :=
  ⟨h.all, h.ok, h.few, h.chart.keepN hk h1 h2 h3 h4, (World.cell?_of_block (w := W) (hk _ (by dsimp only; omega))).trans h.x0, (World.cell?_of_block (w := W) (hk _ (by dsimp only; omega))).trans h.x1, (World.frozen?_of_block (w := W) (hk _ (by dsimp only; omega))).trans h.xf, h.bel.trans hB, Nat.le_trans h.size hz⟩
theorem mv_false {w : World} {N B cb : Nat} {a : Option Addr} {len cap : Nat} {l : List Wd} {v : Value} {acc : List Th} {pb mb : Nat} {ts ts' : List Th} {W : World} {ms : List (Int × Int)} (h : MvI w N B cb a len cap l v acc pb mb ts W ms) (hx : mvAll l (plOf acc) ts' [] = none) (hB : B ≤ w.heap.size) :
    KeepsFrom N W (W.setCell ⟨w.heap.size + 1, 0, none⟩ (.bool false)).drew.drew ∧ MvX w N B l (plOf acc) ts' (W.setCell ⟨w.heap.size + 1, 0, none⟩ (.bool false)).drew.drew := by
  have k := (KeepsOthers.setCell W ⟨w.heap.size + 1, 0, none⟩ (.bool false)).from N
  have hb := h.bel.setCell (p := ⟨w.heap.size + 1, 0, none⟩) (by dsimp only; omega) (.bool false)
  exact ⟨⟨k.size, k.same⟩, hx, World.cell?_setCell_same' W _ _ (by rw [h.x1]; rfl), ⟨hb.os, hb.tape, hb.output, hb.size, hb.block⟩, Nat.le_trans h.size k.size⟩
theorem mv_true {w : World} {N B cb : Nat} {a : Option Addr} {len cap : Nat} {l : List Wd} {v : Value} {acc : List Th} {pb mb : Nat} {ts : List Th} {W w5 : World} {ms : List (Int × Int)} {x tv : Int} {t : Th} (h : MvI w N B cb a len cap l v acc pb mb ts W ms) (hx : mvAll l (plOf acc) (ts ++ [t]) [] = some ((x, tv) :: ms)) (htv : wfI tv)
    (hG : W.grownBy w5 (some mb)) (hO : OwnsI w5 mb ((x, tv) :: ms)) (hN : w.heap.size + 2 ≤ N) (hm : mb < w.heap.size) :
    KeepsFrom N W w5 ∧ KpM N mb W w5 ∧ MvI w N B cb a len cap l v acc pb mb (ts ++ [t]) w5 ((x, tv) :: ms) := by
  have hB : Below B W w5 := (Below.refl _ _).grown hG (by have := h.chart.hcb; have := h.chart.lt; omega) (fun j hj => by cases hj; exact h.chart.hmb)
  have hz := h.size
  refine ⟨KeepsFrom.of_grownBy hG (fun j e => by cases e; omega), ⟨hG.size, fun k hk hn => hG.block k (by omega) (fun e => hn (by injection e))⟩, hx, fun n hn => ?_, ?_, h.chart.moved hG hO, ?_, ?_, ?_, h.bel.trans hB, Nat.le_trans h.size hG.size⟩
  · unfold valI
    by_cases e : x = n
    · rw [if_pos e]; exact htv
    · rw [if_neg e]; unfold hasI at hn; exact h.ok n (by simpa [e] using hn)
  · have := h.few; simp; omega
  · exact (hG.cell_far ⟨w.heap.size, 0, none⟩ (by dsimp only; omega) (fun e => by injection e with e; dsimp only at e; omega)).trans h.x0
  · exact (hG.cell_far ⟨w.heap.size + 1, 0, none⟩ (by dsimp only; omega) (fun e => by injection e with e; dsimp only at e; omega)).trans h.x1
  · exact (hG.frozen_far ⟨w.heap.size + 1, 0, none⟩ (by dsimp only; omega) (fun e => by injection e with e; dsimp only at e; omega)).trans h.xf
set_option maxRecDepth 100000 in
set_option maxHeartbeats 4000000 in
theorem addMoved_any (w : World) (B cb : Nat) (a : Option Addr) (len cap : Nat) (l : List Wd) (v : Value) (acc : List Th) (pb mb : Nat) (hC : Chart w B cb a len cap l v acc pb mb []) (hlen : len = l.length) (hl : len ≤ 60000) (hin : ∀ i (h : i < acc.length), acc[i].h < len) (hacc : acc.length ≤ 60000) (hwf : wfL l)
    (hps : ∀ n, hasI (plOf acc) n = true → 0 ≤ n ∧ n < l.length) :
    Calls Try.prog 50 #[.pointer (some ⟨cb, 0, none⟩)] w fun e w' => Below B w w' ∧ ((e = .returned (.bool true) ∧ ∃ ms, mvAll l (plOf acc) acc.reverse [] = some ms ∧ Chart w' B cb a len cap l v acc pb mb ms) ∨ (e = .returned (.bool false) ∧ mvAll l (plOf acc) acc.reverse [] = none)) := by
  refine (callsIn_wide (n := 5)).1 ?_
  obtain ⟨av, capv, hv, hcv, hcells⟩ := hC.row.cells
  refine callsIn_of_wp_marks Try.func50 rfl trivial ?_ rfl
  simp only [Try.ntmps50, List.size_toArray, List.length_cons, List.length_nil, Nat.reduceAdd, Nat.reduceSub, Array.replicate_succ, Array.replicate_zero, List.push_toArray, List.append_toArray, List.nil_append, List.cons_append]
  have c1 := hC.c1
  rw [hv] at c1
  have hclt := hC.lt
  gi_wp2_with (refine ⟨trivial, ?_⟩; gi_at_call 58; refine (back_in Fence.wide _ trivial rfl _ _ _ _).mono ?_; rintro e w' ⟨rfl, rfl⟩)
  obtain ⟨W0, hW0⟩ : ∃ W0, ((w.alloc (.cells #[.pointer (some ⟨cb, 0, none⟩)] 91)).alloc (.cells #[.bool false] 4)).alloc (.cells #[.slice av acc.length capv] 55) = W0 := ⟨_, rfl⟩
  have hb0 : Below w.heap.size w W0 := by rw [← hW0]; exact (((Below.refl _ w).alloc (Nat.le_refl _) _).alloc (by simp) _).alloc (by simp; omega) _
  have hz0 : W0.heap.size = w.heap.size + 3 := by rw [← hW0]; simp
  have bx := mv_boxes w cb av acc.length capv 91 4 55
  rw [hW0] at bx ⊢
  clear hW0
  have hp : pb < w.heap.size := hC.pl.lt
  have hm : mb < w.heap.size := hC.mv.lt
  have ho : ∀ g, v.ownBlock = some g → g < w.heap.size := fun g hg => (hC.row.own_lt hg).2
  have hBw : B ≤ w.heap.size := by have := hC.hcb; omega
  have hI0 : MvI w W0.heap.size B cb a len cap l v acc pb mb [] W0 [] := ⟨rfl, (fun n h => by cases h), Nat.le_refl _, hC.below hb0, bx.1, bx.2.1, bx.2.2.2, hb0.mono hBw, Nat.le_refl _⟩
  have hT0 : ThsIn W0 W0.heap.size mb av acc := fun i hi => by
    obtain ⟨g, e1, e2, d0, d1, d2⟩ := hcells i hi
    have hg := ho g e2
    exact ⟨g, e1, by omega, (hC.n4 g e2).2.2, (hb0.cell (p := ⟨g, _, none⟩) hg).trans d0, (hb0.cell (p := ⟨g, _, none⟩) hg).trans d1, (hb0.cell (p := ⟨g, _, none⟩) hg).trans d2⟩
  have hkk : ∀ {A A' : World} {row : Option Nat}, W0.heap.size ≤ A.heap.size → A.grownBy A' row → (∀ r, row = some r → W0.heap.size ≤ r ∧ ∃ o : Obj, A.heap[r]? = some o ∧ o.isCells = false) → (∀ k, k < W0.heap.size → A'.heap[k]? = A.heap[k]?) ∧ Below B A A' := fun {A A' row} hz hg hr =>
    ⟨fun k hk => hg.block k (by omega) (fun e => by have := (hr k e.symm).1; omega), (Below.refl _ _).grown hg (by omega) (fun j hj => by have := (hr j hj).1; omega)⟩
  refine wpIn_rangeFunc_ownH (F := Fence.wide) rfl (by omega) (gf := 60) (lb := #[.pointer (some ⟨w.heap.size + 1 + 1, 0, none⟩)]) rfl trivial (enters_of Try.func60 (by kernel_rfl) rfl)
    (back_stops Fence.wide _ trivial rfl (by omega) (M := l.length) (w.heap.size + 1 + 1) W0.heap.size mb av capv acc (by rw [← hlen]; exact hin) hacc (by omega) (by omega) W0 (Nat.le_refl _) bx.2.2.1 hT0) KpM.trans (KpM.putObj (Nat.le_refl _)) (Below.refl _ _) (fun _ => rfl)
    (fun pre W => ∃ ms, MvI w W0.heap.size B cb a len cap l v acc pb mb (thsOf pre) W ms)
    (fun c pre W => c = .ret ∧ MvX w W0.heap.size B l (plOf acc) (thsOf pre) W)
    (fun s A A' row hs hg hr => by
      obtain ⟨ms, hs⟩ := hs
      obtain ⟨k1, k2⟩ := hkk hs.size hg hr
      exact ⟨ms, hs.keep hg.size k1 k2 (by omega) (by omega) (by omega) (by omega) (fun g hg => by have := ho g hg; omega)⟩)
    (fun c s A A' row hs hg hr => by
      obtain ⟨hc, hs⟩ := hs
      obtain ⟨k1, k2⟩ := hkk hs.size hg hr
      exact ⟨hc, hs.all, (World.cell?_of_block (w := A) (k1 _ (by dsimp only; omega))).trans hs.x1, hs.bel.trans k2, Nat.le_trans hs.size hg.size⟩)
    ⟨[], hI0⟩
    (fun x a' W => ∃ Bx, W0.heap.size ≤ Bx ∧ (W.cell? ⟨Bx, 0, none⟩ = some (.int .i64 (x.2.1.h : Int)) ∧ W.cell? ⟨Bx, 1, none⟩ = some (.int .i64 (x.2.1.f : Int)) ∧ W.cell? ⟨Bx, 2, none⟩ = some (.int .i64 (x.2.1.e : Int))) ∧ a' = { tmps := #[.pointer (some ⟨cb, 0, none⟩), .pointer (some ⟨w.heap.size, 0, none⟩), .pointer (some ⟨w.heap.size + 1, 0, none⟩), undef, .pointer (some ⟨Bx, 0, none⟩), undef, undef, undef, .pointer (some ⟨cb, 0, none⟩), .pointer (some ⟨cb, 0, none⟩), .pointer (some ⟨cb, 1, none⟩), .slice av acc.length capv, .func (.func 60) #[] #[.pointer (some ⟨w.heap.size + 1 + 1, 0, none⟩)], .int .i64 (x.1 : Int), .agg #[.int .i64 (x.2.1.h : Int), .int .i64 (x.2.1.f : Int), .int .i64 (x.2.1.e : Int)], undef, undef, undef, undef, undef, undef, undef, undef, undef, undef, undef, undef, undef, undef, undef, undef, undef, undef, undef, undef, undef, undef, undef, undef, undef, undef, undef, undef, undef, undef, undef, undef, undef, undef, undef, undef, undef, undef, undef, undef, undef], defers := [] })
    (fun x a' s A A' row hs hg hr => by
      obtain ⟨Bx, e1, ⟨e2, e3, e4⟩, e5⟩ := hs
      exact ⟨Bx, e1, ⟨cell_kept e2 hg (fun r e => (hr r e).2), cell_kept e3 hg (fun r e => (hr r e).2), cell_kept e4 hg (fun r e => (hr r e).2)⟩, e5⟩)
    ?assign ?body ?done ?stop
  case assign =>
    rintro ll pre x W K ⟨ms, hi⟩ hK
    dsimp only [encT]
    have hz := hi.size
    gi_wp2
    have hbl : ∀ k, k < W0.heap.size → (W.alloc (.cells #[.int .i64 (x.2.1.h : Int), .int .i64 (x.2.1.f : Int), .int .i64 (x.2.1.e : Int)] 81)).heap[k]? = W.heap[k]? := fun k hk => Below.heap_alloc W _ k (by omega)
    exact hK _ _ ((KeepsOthers.alloc _ _).from _) ⟨by simp, fun k hk _ => hbl k hk⟩ ⟨ms, hi.keep (by simp) hbl ((Below.refl _ _).alloc (by omega) _) (by omega) (by omega) (by omega) (by omega) (fun g hg => by have := ho g hg; omega)⟩ ⟨W.heap.size, hz, ⟨by go_simp, by go_simp, by go_simp⟩, rfl⟩
  case body =>
    rintro ll pre x a' W hll ⟨r, hr⟩ ⟨ms, hi⟩ ⟨Bx, hBx, ⟨d0, d1, d2⟩, rfl⟩ hlt
    have hmx : Try.prog.follows .mixedOrders = true := by kernel_rfl
    obtain ⟨idx, ⟨⟨th, tf, te⟩, hth⟩⟩ := x
    dsimp only at *
    have c0 := hi.chart.c0
    have c3 := hi.chart.c3
    have x0 := hi.x0
    have x1 := hi.x1
    have xf := hi.xf
    obtain ⟨bb, o, rfl, hbb, k0, k1, k2⟩ := hi.chart.wds th hth
    have hj : (th : Int) < len := by have h1 := hlen; have h2 : th < l.length := hth; omega
    have HK := hid (kindAt_nat hth)
    have HN := hid (show nInt l th = l[th].n by unfold nInt; rw [List.getElem?_eq_getElem hth])
    obtain ⟨hwn, _⟩ := hwf th hth
    generalize l[th].k = kk at k0 HK
    generalize l[th].n = nn at k1 HN hwn
    have HI := hid hi
    have HC := hid hC
    have Hlen := hid hlen
    clear hi hC hlen hin hcells hT0 bx hI0 hkk c1 hv k2 hcv
    gi_wp2
    refine wpIn_mono (Q := fun e a' w' => e = .normal ∧ a' = { tmps := #[.pointer (some ⟨cb, 0, none⟩), .pointer (some ⟨w.heap.size, 0, none⟩), .pointer (some ⟨w.heap.size + 1, 0, none⟩), undef, .pointer (some ⟨Bx, 0, none⟩), undef, undef, undef, .pointer (some ⟨cb, 0, none⟩), .pointer (some ⟨cb, 0, none⟩), .pointer (some ⟨cb, 1, none⟩), .slice av acc.length capv, .func (.func 60) #[] #[.pointer (some ⟨w.heap.size + 1 + 1, 0, none⟩)], .int .i64 (idx : Int), .agg #[.int .i64 (th : Int), .int .i64 (tf : Int), .int .i64 (te : Int)], .pointer (some ⟨cb, 0, none⟩), .pointer (some ⟨cb, 0, none⟩), .pointer (some ⟨cb, 0, none⟩), .slice (some ⟨bb, o, none⟩) len cap, .pointer (some ⟨Bx, 0, none⟩), .int .i64 (th : Int), .pointer (some ⟨bb, o + th * 3, none⟩), .pointer (some ⟨bb, o + th * 3, none⟩), .int .i64 kk, .bool (kk != 10), undef, undef, undef, undef, undef, undef, undef, undef, undef, undef, undef, undef, undef, undef, undef, undef, undef, undef, undef, undef, undef, undef, undef, undef, undef, undef, undef, undef, undef, undef, undef], defers := [] } ∧ w' = W.drew) ?reg3 ?rest3
    case reg3 =>
      gi_region_with_o (fail)
      all_goals exact ⟨rfl, rfl, rfl⟩
    case rest3 =>
      rintro e a' w' ⟨rfl, rfl, rfl⟩
      by_cases h10 : kk = 10
      · subst h10
        have hd : ((10 : Int) != 10) = false := rfl
        gi_wp2
        refine wpIn_mono (Q := fun e a' w' => e = .normal ∧ a' = { tmps := #[.pointer (some ⟨cb, 0, none⟩), .pointer (some ⟨w.heap.size, 0, none⟩), .pointer (some ⟨w.heap.size + 1, 0, none⟩), undef, .pointer (some ⟨Bx, 0, none⟩), .int .i64 nn, undef, undef, .pointer (some ⟨cb, 0, none⟩), .pointer (some ⟨cb, 0, none⟩), .pointer (some ⟨cb, 1, none⟩), .slice av acc.length capv, .func (.func 60) #[] #[.pointer (some ⟨w.heap.size + 1 + 1, 0, none⟩)], .int .i64 (idx : Int), .agg #[.int .i64 (th : Int), .int .i64 (tf : Int), .int .i64 (te : Int)], .pointer (some ⟨cb, 0, none⟩), .pointer (some ⟨cb, 0, none⟩), .pointer (some ⟨cb, 0, none⟩), .slice (some ⟨bb, o, none⟩) len cap, .pointer (some ⟨Bx, 0, none⟩), .int .i64 (th : Int), .pointer (some ⟨bb, o + th * 3, none⟩), .pointer (some ⟨bb, o + th * 3, none⟩), .int .i64 10, .bool false, .pointer (some ⟨cb, 0, none⟩), .pointer (some ⟨cb, 0, none⟩), .pointer (some ⟨cb, 0, none⟩), .slice (some ⟨bb, o, none⟩) len cap, .pointer (some ⟨Bx, 0, none⟩), .int .i64 (th : Int), .pointer (some ⟨bb, o + th * 3, none⟩), .pointer (some ⟨bb, o + th * 3 + 1, none⟩), .int .i64 nn, undef, undef, undef, undef, undef, undef, undef, undef, undef, undef, undef, undef, undef, undef, undef, undef, undef, undef, undef, undef, undef, undef], defers := [] } ∧ w' = W.drew.drew) ?reg4 ?rest4
        case reg4 =>
          gi_region_with_o (fail)
          all_goals exact ⟨rfl, rfl, rfl⟩
        case rest4 =>
          rintro e a' w' ⟨rfl, rfl, rfl⟩
          have Cd := HI.out.chart.below (show Below W.heap.size W W.drew.drew from bdrew (Below.refl _ _) 2)
          have hrun : (Instr.lookup 56 (.map (some mb)) (.int .i64 nn) true).run Try.prog W.drew.drew = .ok (.tuple #[.int .i64 (valI ms nn), .bool (hasI ms nn)]) W.drew.drew := OwnsI.look2 (w := W.drew.drew) Cd.mv hwn
          have Hto := hid (show toOf l ms ⟨th, tf, te⟩ = if hasI ms nn = true then valI ms nn else nn by unfold toOf; rw [show nInt l th = nn from HN.out])
          have hok := hid (HI.out.ok nn)
          have hall := HI.out.all
          have Hst := hid (show mvAll l (plOf acc) (thsOf (pre ++ [(idx, (⟨⟨th, tf, te⟩, hth⟩ : TT l.length))])) [] = mvStep l (plOf acc) ms ⟨th, tf, te⟩ by
            simp only [thsOf, List.map_append, List.map_cons, List.map_nil] at hall ⊢
            rw [mvAll_snoc, hall]; rfl)
          clear hall
          have hkind : kindAt l th = 10 := HK.out
          have Hkd := hid hkind
          clear hkind
          generalize valI ms nn = vv at hrun Hto hok
          cases hh : hasI ms nn
          · rw [hh] at hrun Hto
            rw [if_neg (by simp)] at Hto
            have htv := hwn
            cases hrec : recB l (plOf acc) nn
            · have HX := hid (show mvStep l (plOf acc) ms ⟨th, tf, te⟩ = none by unfold mvStep; rw [if_pos Hkd.out, Hto.out, if_neg (by simp [hrec])])
              have hcall := isRecord_any W.drew.drew B cb _ len cap l v acc pb mb ms Cd Hlen.out nn htv (hps nn)
              rw [hrec] at hcall
              have HCall := hid hcall
              clear hcall Cd
              gi_wp2_with (refine ⟨trivial, ?_⟩; gi_at_call 59; refine (CallsIn.inRound ll (callsIn_wide.2 HCall.out)).mono ?_; rintro e w' ⟨rfl, rfl⟩)
              obtain ⟨z1, z2⟩ := mv_false HI.out (Hst.out.trans HX.out) hBw
              exact ⟨z1, rfl, z2⟩
            · have HX := hid (show mvStep l (plOf acc) ms ⟨th, tf, te⟩ = some (((th : Int), nn) :: ms) by unfold mvStep; rw [if_pos Hkd.out, Hto.out, if_pos hrec])
              have hcall := isRecord_any W.drew.drew B cb _ len cap l v acc pb mb ms Cd Hlen.out nn htv (hps nn)
              rw [hrec] at hcall
              have HCall := hid hcall
              have hfew := HI.out.few
              have htl : (thsOf pre).length = pre.length := by simp [thsOf]
              obtain ⟨w5, hrun5, hO5, hG5⟩ := OwnsI.put (w := W.drew.drew.drew) (b := mb) (l := ms) Cd.mv (by unfold maxLen; omega) (k := (th : Int)) (c := nn) (wf_nat (by omega)) htv
              clear hcall Cd hfew htl
              gi_wp2_with (refine ⟨trivial, ?_⟩; gi_at_call 59; refine (CallsIn.inRound ll (callsIn_wide.2 HCall.out)).mono ?_; rintro e w' ⟨rfl, rfl⟩)
              refine wpIn_mono (Q := fun e _ w' => e = .normal ∧ w' = w5) ?reg10 ?rest10
              case reg10 =>
                gi_region_with_o (fail)
                all_goals exact ⟨rfl, rfl⟩
              case rest10 =>
                rintro e a' w' ⟨rfl, rfl⟩
                obtain ⟨z1, z2, z3⟩ := mv_true (t := ⟨th, tf, te⟩) HI.out (by have := Hst.out.trans HX.out; simpa [thsOf] using this) htv ⟨hG5.os, hG5.tape, hG5.output, hG5.size, hG5.block⟩ hO5 (by omega) hm
                gi_wp2
                exact ⟨z1, z2, _, by simpa [thsOf] using z3⟩
          · rw [hh] at hrun Hto
            rw [if_pos rfl] at Hto
            have htv := hok.out hh
            cases hrec : recB l (plOf acc) vv
            · have HX := hid (show mvStep l (plOf acc) ms ⟨th, tf, te⟩ = none by unfold mvStep; rw [if_pos Hkd.out, Hto.out, if_neg (by simp [hrec])])
              have hcall := isRecord_any W.drew.drew B cb _ len cap l v acc pb mb ms Cd Hlen.out vv htv (hps vv)
              rw [hrec] at hcall
              have HCall := hid hcall
              clear hcall Cd
              gi_wp2_with (refine ⟨trivial, ?_⟩; gi_at_call 59; refine (CallsIn.inRound ll (callsIn_wide.2 HCall.out)).mono ?_; rintro e w' ⟨rfl, rfl⟩)
              obtain ⟨z1, z2⟩ := mv_false HI.out (Hst.out.trans HX.out) hBw
              exact ⟨z1, rfl, z2⟩
            · have HX := hid (show mvStep l (plOf acc) ms ⟨th, tf, te⟩ = some (((th : Int), vv) :: ms) by unfold mvStep; rw [if_pos Hkd.out, Hto.out, if_pos hrec])
              have hcall := isRecord_any W.drew.drew B cb _ len cap l v acc pb mb ms Cd Hlen.out vv htv (hps vv)
              rw [hrec] at hcall
              have HCall := hid hcall
              have hfew := HI.out.few
              have htl : (thsOf pre).length = pre.length := by simp [thsOf]
              obtain ⟨w5, hrun5, hO5, hG5⟩ := OwnsI.put (w := W.drew.drew.drew) (b := mb) (l := ms) Cd.mv (by unfold maxLen; omega) (k := (th : Int)) (c := vv) (wf_nat (by omega)) htv
              clear hcall Cd hfew htl
              gi_wp2_with (refine ⟨trivial, ?_⟩; gi_at_call 59; refine (CallsIn.inRound ll (callsIn_wide.2 HCall.out)).mono ?_; rintro e w' ⟨rfl, rfl⟩)
              refine wpIn_mono (Q := fun e _ w' => e = .normal ∧ w' = w5) ?reg10 ?rest10
              case reg10 =>
                gi_region_with_o (fail)
                all_goals exact ⟨rfl, rfl⟩
              case rest10 =>
                rintro e a' w' ⟨rfl, rfl⟩
                obtain ⟨z1, z2, z3⟩ := mv_true (t := ⟨th, tf, te⟩) HI.out (by have := Hst.out.trans HX.out; simpa [thsOf] using this) htv ⟨hG5.os, hG5.tape, hG5.output, hG5.size, hG5.block⟩ hO5 (by omega) hm
                gi_wp2
                exact ⟨z1, z2, _, by simpa [thsOf] using z3⟩
      · have hd : (kk != 10) = true := by simp [h10]
        have HV := hid (show mvAll l (plOf acc) (thsOf (pre ++ [(idx, (⟨⟨th, tf, te⟩, hth⟩ : TT l.length))])) [] = some ms by
          have e := HI.out.all
          simp only [thsOf, List.map_append, List.map_cons, List.map_nil] at e ⊢
          rw [mvAll_snoc, e]
          simp only [Option.bind_some, mvStep]
          rw [if_neg (by rw [HK.out]; exact h10)])
        gi_wp2
        have h := HI.out.keep (W' := W.drew) (Nat.le_refl _) (fun _ _ => rfl) (bdrew (Below.refl _ _) 1) (by omega) (by omega) (by omega) (by omega) (fun g hg => by have := ho g hg; omega)
        exact ⟨(KeepsOthers.drew _).from _, ⟨Nat.le_refl _, fun _ _ _ => rfl⟩, ms, HV.out, h.ok, Nat.le_trans h.few (by simp [thsOf]), h.chart, h.x0, h.x1, h.xf, h.bel, h.size⟩
  case done =>
    rintro D ys W hD hS ⟨ms, hi⟩ hK
    have x1 := hi.x1
    have xf := hi.xf
    have hK' := (KeepsOthers.setCell W ⟨w.heap.size + 1, 0, none⟩ (.bool true)).same D _ hK rfl
    have hsz : (W.setCell ⟨w.heap.size + 1, 0, none⟩ (.bool true)).heap.size = W.heap.size := by simp
    obtain ⟨k1, k2⟩ := hkk (A := W.setCell ⟨w.heap.size + 1, 0, none⟩ (.bool true)) (by rw [hsz]; exact hi.size) (grownBy_putObj' _ D (.deferred none)) (fun r e => by cases e; exact ⟨hD, _, hK', rfl⟩)
    have hc5 := cell_kept (World.cell?_setCell_same' W ⟨w.heap.size + 1, 0, none⟩ (.bool true) (by rw [x1]; rfl)) (grownBy_putObj' _ D (.deferred none)) (fun r e => by cases e; exact ⟨_, hK', rfl⟩)
    have hfin := hi.chart.keepN (W' := (W.setCell ⟨w.heap.size + 1, 0, none⟩ (.bool true)).putObj D (.deferred none)) (N := w.heap.size) (fun k hk => (k1 k (by omega)).trans (Below.heap_setCell _ _ _ _ (by dsimp only; omega))) hclt hp hm ho
    have HF := hid hfin
    have HB := hid ((hi.bel.setCell (p := ⟨w.heap.size + 1, 0, none⟩) (by dsimp only; omega) (.bool true)).trans k2)
    have HA := hid (show mvAll l (plOf acc) acc.reverse [] = some ms by rw [← hS]; exact hi.all)
    clear hfin k1 k2 hkk hi hI0 hT0 bx hcells hin hwf hps
    gi_wp2
    refine ⟨by simp, .inl ⟨_, _, rfl, run_takeDeferred hK', ?_⟩⟩
    refine ⟨.bool true, ?_, HB.out, Or.inl ⟨rfl, ms, HA.out, HF.out⟩⟩
    simp [results, Try.results50, go_sem, hc5]
  case stop =>
    rintro D c pre W hD ⟨k, hk, hS⟩ ⟨rfl, hx⟩ hK
    have x1 := hx.x1
    obtain ⟨k1, k2⟩ := hkk hx.size (grownBy_putObj' W D (.deferred none)) (fun r e => by cases e; exact ⟨hD, _, hK, rfl⟩)
    have hc5 := cell_kept x1 (grownBy_putObj' _ D (.deferred none)) (fun r e => by cases e; exact ⟨_, hK, rfl⟩)
    have HA := hid (show mvAll l (plOf acc) acc.reverse [] = none by
      rw [← List.take_append_drop k acc, List.reverse_append, mvAll_append, ← hS, show mvAll l (plOf (List.take k acc ++ List.drop k acc)) (thsOf pre) [] = none by rw [List.take_append_drop]; exact hx.all]
      rfl)
    have HB := hid (hx.bel.trans k2)
    clear k1 k2 hkk hx hI0 hT0 bx hcells hin hwf hps
    gi_wp2
    refine ⟨by simp, .inl ⟨_, _, rfl, run_takeDeferred hK, ?_⟩⟩
    refine ⟨.bool false, ?_, HB.out, Or.inr ⟨rfl, HA.out⟩⟩
    simp [results, Try.results50, go_sem, hc5]
end Go.Proofs.Ytfjfobpdlmdddaa

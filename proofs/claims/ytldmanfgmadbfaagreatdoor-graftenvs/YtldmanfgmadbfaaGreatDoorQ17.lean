/- What is a value on a heap: vm's valuesOn. · May a world be, whose heap may: vm's mayBe. · The finders of a view, and its primitives. (Written by wip/tools/mkfinder.py.) · The primitives in memory: vm's newPrimitives. -/
import Derived.Test.YtldmanfgmadbfaaGreatDoorQ15
import Derived.OwnWalk
import Derived.Laws.OwnMore
import Derived.Test.YtldmanfgmadbfaaGreatDoorQ16
import Derived.Test.YtldmanfgmadbfaaGreatDoorQ08
import Derived.RegionTactic
import Derived.Deep.RegionWith
import Derived.Carry
namespace Go.Proofs.YtldmanfgmadbfaaGreatDoor
set_option maxRecDepth 100000
open HH UU VV
open Go.RowKit Go.Maps Go.WideMaps Go.Shelf
attribute [local go_sem] Oper.semAt_some
/-- The closure that tells of a value, and what it stands on. -/
def ValR (th : List Th) (n : Nat) (w : World) (e : Ending) (w' : World) : Prop :=
  ∃ q b, e = .returned (valF q) ∧ w.heap.size ≤ q ∧ q < w'.heap.size ∧ b < w'.heap.size ∧ w'.cell? ⟨q, 0, none⟩ = some (.slice (some ⟨b, 0, none⟩) n n) ∧ Beg w' b n th ∧ Below w.heap.size w w'
set_option maxRecDepth 100000 in
set_option maxHeartbeats 4000000 in
theorem valuesOn_any (w : World) (B : Nat) (a : Option Addr) (cap : Nat) (l : List Wd) (acc : List Th) (hW : Wds w B a l) (hB : B ≤ w.heap.size) (hch : Chain l acc l.length) (hl : l.length ≤ 60000) :
    Calls Tryz.prog 28 #[.slice a l.length cap] w fun e w' => ValR acc l.length w e w' := by
  obtain ⟨i0, hi, iz0, iz1, iz2⟩ := info_parts infoB
  have HI := hid hi
  have HZ0 := hid iz0
  have HZ1 := hid iz1
  have HZ2 := hid iz2
  clear hi iz0 iz1 iz2
  refine (callsIn_wide (n := 5)).1 ?_
  refine callsIn_of_wp_marks Tryz.func28 rfl trivial ?_ rfl
  refine wpIn_wide.2 ?_
  simp only [Tryz.ntmps28, List.size_toArray, List.length_cons, List.length_nil, Nat.reduceAdd, Nat.reduceSub, Array.replicate_succ, Array.replicate_zero, List.push_toArray, List.append_toArray, List.nil_append, List.cons_append]
  go_wp2_with (first
    | (at_make; refine wpList_make_full _ rfl _ _ 78 rfl w.heap.size 4 i0 (.bool false) 1 Tryz.underlying78 HI.out HZ0.out HZ1.out _ _ _ _ l.length rfl rfl rfl rfl (by rw [HZ2.out]; omega) (by unfold maxLen; omega) (Nat.le_refl _) ?_; intro w1 hown hgrow; have hb1 : Below w.heap.size w w1 := (Below.refl _ _).grown hgrow (Nat.le_refl _) (fun k e => by cases e); have HBeg := hid (beg_made hown); have hlt1 := (ownsRow_lt' hown).2; have HB1 := hid hb1; clear hown hgrow hb1)
    | (go_at_call 46; refine (callsIn_wide.1 (things_in 5 _ _ _ _)).mono ?_; rintro e w' ⟨rfl, rfl⟩))
  obtain ⟨W0, hW0⟩ : ∃ W0, W0 = ((w1.alloc (.cells #[.slice (some ⟨w.heap.size, 0, none⟩) l.length l.length] 78)).alloc (.cells #[.slice a l.length cap] 25)) := ⟨_, rfl⟩
  have hz0 : W0.heap.size = w1.heap.size + 2 := by rw [hW0]; simp
  have hb01 : Below w1.heap.size w1 W0 := by rw [hW0]; exact below_2 _ _ _
  have hb0 : Below w.heap.size w W0 := HB1.out.trans (hb01.mono (by omega))
  have bq : W0.cell? ⟨w1.heap.size, 0, none⟩ = some (.slice (some ⟨w.heap.size, 0, none⟩) l.length l.length) := by rw [hW0]; go_simp
  have bw : W0.cell? ⟨w1.heap.size + 1, 0, none⟩ = some (.slice a l.length cap) := by rw [hW0]; go_simp
  have hbg0 : Beg W0 w.heap.size l.length [] := HBeg.out.below hb01 hlt1
  rw [← hW0]
  clear hW0
  have hQ := hid hb01
  clear hb01
  have hkk : ∀ {A A' : World} {row : Option Nat}, W0.heap.size ≤ A.heap.size → A.grownBy A' row → (∀ r, row = some r → W0.heap.size ≤ r ∧ ∃ o : Obj, A.heap[r]? = some o ∧ o.isCells = false) → (∀ k, k < W0.heap.size → A'.heap[k]? = A.heap[k]?) ∧ Below w.heap.size A A' := fun {A A' row} hz hg hr =>
    ⟨fun k hk => hg.block k (by omega) (fun e => by have := (hr k e.symm).1; omega), (Below.refl _ _).grown hg (by omega) (fun j hj => by have := (hr j hj).1; omega)⟩
  have hin : ∀ x : TA acc, x.1.h < l.length := fun x => by
    obtain ⟨i, hi, e⟩ := List.getElem_of_mem x.2
    have := (hch.inL i hi).1
    rw [e] at this
    exact this
  refine (wpIn_wide (n := 5)).1 ?_
  refine wpIn_rangeFunc_ownH (F := Fence.wide) rfl (by omega) (gf := 66) (lb := #[.pointer (some ⟨w1.heap.size + 1, 0, none⟩)]) rfl trivial (enters_of Tryz.func66 (by kernel_rfl) rfl)
    (things_stops 4 (by omega) (w1.heap.size + 1) W0.heap.size w.heap.size B a cap l acc hch hl (by omega) (by omega) hB (by omega) W0 (Nat.le_refl _) bw (hW.below (hb0.mono hB))) KpM.trans (KpM.putObj (Nat.le_refl _)) (Below.refl _ _) (fun _ => rfl)
    (fun pre W => Beg W w.heap.size l.length (thA pre) ∧ W.cell? ⟨w1.heap.size, 0, none⟩ = some (.slice (some ⟨w.heap.size, 0, none⟩) l.length l.length) ∧ Below w.heap.size w W ∧ W0.heap.size ≤ W.heap.size)
    (fun _ _ _ => False)
    (fun s A A' row hs hg hr => by
      obtain ⟨h1, h2, h3, h4⟩ := hs
      obtain ⟨k1, k2⟩ := hkk h4 hg hr
      exact ⟨fun j hj => ⟨(World.cell?_of_block (w := A) (a := ⟨w.heap.size, j, none⟩) (k1 _ (by dsimp only; omega))).trans (h1 j hj).1, (World.frozen?_of_block (w := A) (a := ⟨w.heap.size, j, none⟩) (k1 _ (by dsimp only; omega))).trans (h1 j hj).2⟩,
        (World.cell?_of_block (w := A) (a := ⟨w1.heap.size, 0, none⟩) (k1 _ (by dsimp only; omega))).trans h2, h3.trans k2, Nat.le_trans h4 hg.size⟩)
    (fun c s A A' row hs hg hr => hs) ⟨hbg0, bq, hb0, Nat.le_refl _⟩
    (fun x a' _ => a' = { tmps := #[.slice a l.length cap, undef, .nilFunc, .pointer (some ⟨w1.heap.size, 0, none⟩), .int .i64 (x.1.h : Int), .slice a l.length cap, .int .i64 (l.length : Int), .slice (some ⟨w.heap.size, 0, none⟩) l.length l.length, .slice a l.length cap, .func (.func 66) #[] #[.pointer (some ⟨w1.heap.size + 1, 0, none⟩)], .int .i64 (x.1.h : Int), undef, undef, undef, undef], defers := [] })
    (fun x a' s A A' row hs hg hr => hs)
    ?assign ?body ?done (fun _ _ _ _ _ _ h _ => h.elim)
  case assign =>
    rintro ll pre x W K hi hK
    dsimp only [encA]
    gi_wp2
    exact hK _ _ ((KeepsOthers.refl _).from _) (KpM.refl _ _ _) hi rfl
  case body =>
    rintro ll pre x a' W hll ⟨r, hr⟩ ⟨hbeg, hq, hbl, hz⟩ rfl hlt
    have hx := hin x
    have hx2 : (x.1.h : Int) < l.length := by omega
    obtain ⟨d0, d1⟩ := hbeg x.1.h hx
    obtain ⟨⟨th, tf, te⟩, hth⟩ := x
    dsimp only at *
    have HS := hid (Beg.set (f := tf) (e := te) hbeg hx)
    have HBl := hid hbl
    clear hbeg hbl hin hkk
    gi_wp2
    have k := (KeepsOthers.setCell W ⟨w.heap.size, th, none⟩ (.bool true)).from W0.heap.size
    refine ⟨k, ⟨by simp, fun k _ hk => Below.heap_setCell _ _ _ _ hk⟩, ?_, ?_, HBl.out.setCell (p := ⟨w.heap.size, th, none⟩) (Nat.le_refl _) _, by simp; omega⟩
    · simp only [thA, List.map_append, List.map_cons, List.map_nil]
      exact HS.out
    · rw [World.cell?_setCell_other _ _ _ _ (by intro e; injection e with e; omega)]
      exact hq
  case done =>
    rintro D ys W hD hS ⟨hbeg, hq, hbl, hz⟩ hK
    obtain ⟨k1, k2⟩ := hkk hz (grownBy_putObj' W D (.deferred none)) (fun r e => by cases e; exact ⟨hD, _, hK, rfl⟩)
    have HR := hid (show ValR acc l.length w (.returned (valF w1.heap.size)) (W.putObj D (.deferred none)) from
      ⟨w1.heap.size, w.heap.size, rfl, by omega, by have := (grownBy_putObj' W D (.deferred none)).size; omega, by have := (grownBy_putObj' W D (.deferred none)).size; omega,
        (World.cell?_of_block (w := W) (a := ⟨w1.heap.size, 0, none⟩) (k1 _ (by dsimp only; omega))).trans hq,
        fun j hj => by
          rw [hS] at hbeg
          exact ⟨(World.cell?_of_block (w := W) (a := ⟨w.heap.size, j, none⟩) (k1 _ (by dsimp only; omega))).trans (hbeg j hj).1, (World.frozen?_of_block (w := W) (a := ⟨w.heap.size, j, none⟩) (k1 _ (by dsimp only; omega))).trans (hbeg j hj).2⟩,
        hbl.trans k2⟩)
    clear k1 k2 hkk hbeg hbl hq
    go_wp2
    refine ⟨by simp, .inl ⟨_, _, rfl, run_takeDeferred hK, ?_⟩⟩
    refine ⟨valF w1.heap.size, ?_, HR.out⟩
    simp [results, Tryz.results28, go_sem]
end Go.Proofs.YtldmanfgmadbfaaGreatDoor
namespace Go.Proofs.YtldmanfgmadbfaaGreatDoor
set_option maxRecDepth 100000
open HH UU VV
open Go.RowKit Go.Maps Go.WideMaps Go.Shelf
attribute [local go_sem] Oper.semAt_some
/-- The program's mayBe. -/
def mayB (x : Wv) (th : List Th) : Bool :=
  x.fs.all (funcB (ctxOf x)) && (x.rs.all (recB x.fs) && (decide (envI (x.gs.map Gl.name) ((firsts x.rs).map toU) = 0) && (x.gs.all (fun y => okV x.hs.length th y.w) && th.all (standB x x.hs))))
theorem any_not {α : Type} (f : α → Bool) (l : List α) : (l.any fun x => !(f x)) = !(l.all f) := by
  induction l with
  | nil => rfl
  | cons a r ih => simp [List.any_cons, List.all_cons, ih]
theorem func_ops {c : Ctx} {l : List VV.Fn} (h : l.all (funcB c) = true) : ∀ f, f ∈ l → ∀ i, i ∈ f.code → 1 ≤ i.op ∧ i.op ≤ 22 := by
  intro f hf i hi
  have h1 := List.all_eq_true.1 h f hf
  unfold funcB at h1
  simp only [Bool.and_eq_true] at h1
  exact instrB_op (List.all_eq_true.1 h1.1.2 i hi)
theorem rec_vers {fs : List VV.Fn} {l : List Rc} (h : l.all (recB fs) = true) : ∀ r, r ∈ l → 1 ≤ r.vs.length := by
  intro r hr
  have h1 := List.all_eq_true.1 h r hr
  unfold recB belB at h1
  simp only [Bool.and_eq_true, decide_eq_true_eq] at h1
  omega
set_option maxRecDepth 1000000 in
set_option maxHeartbeats 8000000 in
theorem mayBe_any (v : Vw) (th : List Th) (w : World) (hV : ViewAt w v th) (hg : v.x.gs.length ≤ 1000) (hr : v.x.rs.length ≤ 1000) (hch : Chain v.x.hs th v.x.hs.length) :
    Calls Tryz.prog 30 #[viewV v] w fun e w' => e = .returned (.bool (mayB v.x th)) ∧ Below w.heap.size w w' := by
  obtain ⟨w2, hw2⟩ : ∃ w2, w2 = (w.alloc (.cells #[.slice v.x.fa v.x.fs.length v.x.fcap, .slice v.x.ga v.x.gs.length v.x.gcap, .slice v.x.ra v.x.rs.length v.x.rcap, .slice v.x.ha v.x.hs.length v.x.hcap, .int .i64 v.lim, finG v.gq, finR v.rq, valF v.vq, .map (some v.pm)] 45)).alloc (.cells #[.bool false] 4) := ⟨_, rfl⟩
  have HB2 := hid (show Below w.heap.size w w2 by rw [hw2]; exact below_2 _ _ _)
  have hz2 : w2.heap.size = w.heap.size + 2 := by rw [hw2]; simp
  have HVB := hid (show VBox w2 w.heap.size v from by
    rw [hw2]
    exact (vbox_new w v 45).below ((Below.refl _ _).alloc (Nat.le_refl _) _) (by simp))
  have rb : w2.cell? ⟨w.heap.size + 1, 0, none⟩ = some (.bool false) ∧ w2.frozen? ⟨w.heap.size + 1, 0, none⟩ = false := by
    rw [hw2]; refine ⟨?_, ?_⟩ <;> go_simp
  have RB := hid rb
  have HV2 := hid (hV.below HB2.out)
  have HV := hid hV
  have H2 := hid hw2
  have hfl : v.x.fs.length ≤ 9223372036854775807 := by have := hV.big.f; omega
  clear hw2 rb hV
  refine (callsIn_wide (n := 5)).1 ?_
  refine callsIn_of_wp_marks Tryz.func30 rfl trivial ?_ rfl
  refine wpIn_wide.2 ?_
  simp only [Tryz.ntmps30, List.size_toArray, List.length_cons, List.length_nil, Nat.reduceAdd, Nat.reduceSub, Array.replicate_succ, Array.replicate_zero, List.push_toArray, List.append_toArray, List.nil_append, List.cons_append]
  go_wp2_with fail
  rw [← H2.out]
  have hcall := containsFunc_any v th w.heap.size v.x.fa v.x.fs.length v.x.fcap v.x.fs w2 HV2.out HVB.out HV2.out.sub.f rfl hfl (fun y hy => ⟨HV2.out.wf.fs y hy, HV2.out.sub.fs y hy, HV2.out.big.fs y hy⟩)
  rw [any_not] at hcall
  go_fit hcall
  clear hcall
  rintro e w3 ⟨rfl, hb3⟩
  have HB3 := hid (hb3.mono (show w.heap.size + 2 ≤ w2.heap.size by omega))
  have HV3 := hid (HV2.out.below hb3)
  have rb3 := (hb3.cell (p := ⟨w.heap.size + 1, 0, none⟩) (by dsimp only; omega)).trans RB.out.1
  have rf3 := (hb3.frozen (p := ⟨w.heap.size + 1, 0, none⟩) (by dsimp only; omega)).trans RB.out.2
  clear hb3
  cases hA : v.x.fs.all (funcB (ctxOf v.x)) with
  | false =>
    have HR := hid (show mayB v.x th = false from by unfold mayB; rw [hA]; rfl)
    have hc := World.cell?_setCell_same w3 ⟨w.heap.size + 1, 0, none⟩ (.bool false) rb3
    have HBf := hid ((HB2.out.trans (HB3.out.mono (by omega))).setCell (p := ⟨w.heap.size + 1, 0, none⟩) (show w.heap.size ≤ w.heap.size + 1 by omega) (.bool false))
    have HC := hid hc
    clear hc
    go_wp2_with fail
    refine ⟨.bool false, ?_, ?_⟩
    · have hc := HC.out
      simp [results, Tryz.results30, go_sem, hc]
    · exact ⟨by rw [HR.out], HBf.out⟩
  | true =>
  have hFs := func_ops hA
  have hrl : v.x.rs.length ≤ 9223372036854775807 := by omega
  obtain ⟨vlt, c0, c1, c2, c3, c4, c5, c6, c7, c8⟩ := HVB.out.below HB3.out (by omega)
  go_wp2_with fail
  clear c0 c1 c2 c3 c4 c5 c6 c7 c8 vlt
  have hcall := containsRec_any v th w.heap.size v.x.ra v.x.rs.length v.x.rcap v.x.rs w3 HV3.out (HVB.out.below HB3.out (by omega)) HV3.out.sub.r rfl hrl (fun y hy => ⟨HV3.out.wf.rs y hy, HV3.out.sub.rs y hy, HV3.out.big.rs y hy⟩) hFs
  rw [any_not] at hcall
  go_fit hcall
  clear hcall
  rintro e w4 ⟨rfl, hb4⟩
  have HB4 := hid (HB3.out.trans (hb4.mono HB3.out.size |> fun h => h.mono (by have := hz2; omega)))
  have HV4 := hid (HV3.out.below hb4)
  have rb4 := (hb4.cell (p := ⟨w.heap.size + 1, 0, none⟩) (by have := HB3.out.size; dsimp only; omega)).trans rb3
  have rf4 := (hb4.frozen (p := ⟨w.heap.size + 1, 0, none⟩) (by have := HB3.out.size; dsimp only; omega)).trans rf3
  clear hb4 rb3 rf3
  cases hR4 : v.x.rs.all (recB v.x.fs) with
  | false =>
    have HR := hid (show mayB v.x th = false from by unfold mayB; rw [hA, hR4]; rfl)
    have hc := World.cell?_setCell_same w4 ⟨w.heap.size + 1, 0, none⟩ (.bool false) rb4
    have HBf := hid ((HB2.out.trans (HB4.out.mono (by omega))).setCell (p := ⟨w.heap.size + 1, 0, none⟩) (show w.heap.size ≤ w.heap.size + 1 by omega) (.bool false))
    have HC := hid hc
    clear hc
    go_wp2_with fail
    refine ⟨.bool false, ?_, ?_⟩
    · have hc := HC.out
      simp [results, Tryz.results30, go_sem, hc]
    · exact ⟨by rw [HR.out], HBf.out⟩
  | true =>
  have hvs := rec_vers hR4
  obtain ⟨vlt, c0, c1, c2, c3, c4, c5, c6, c7, c8⟩ := HVB.out.below HB4.out (by omega)
  go_wp2_with fail
  clear c0 c1 c2 c3 c4 c5 c6 c7 c8 vlt
  have hcall := names_walk v.x.fa v.x.ga v.x.ra v.x.ha v.x.fs.length v.x.fcap v.x.gcap v.x.rcap v.x.hs.length v.x.hcap v.lim v.gq v.rq v.vq v.pm v.x.gs v.x.rs w4 HV4.out.sub.g HV4.out.sub.r HV4.out.sub.rs HV4.out.wf.gs HV4.out.wf.rs HV4.out.big.rs hg hr hvs
  go_fit hcall
  clear hcall
  rintro e w5 ⟨rfl, hb5⟩
  have HB5 := hid (HB4.out.trans (hb5.mono (by have := HB4.out.size; omega)))
  have HV5 := hid (HV4.out.below hb5)
  have rb5 := (hb5.cell (p := ⟨w.heap.size + 1, 0, none⟩) (by have := HB4.out.size; dsimp only; omega)).trans rb4
  have rf5 := (hb5.frozen (p := ⟨w.heap.size + 1, 0, none⟩) (by have := HB4.out.size; dsimp only; omega)).trans rf4
  clear hb5 rb4 rf4
  cases hN : decide (envI (v.x.gs.map Gl.name) ((firsts v.x.rs).map toU) = 0) with
  | false =>
    have HR := hid (show mayB v.x th = false from by unfold mayB; rw [hA, hR4, hN]; rfl)
    have hc := World.cell?_setCell_same w5 ⟨w.heap.size + 1, 0, none⟩ (.bool false) rb5
    have HBf := hid ((HB2.out.trans (HB5.out.mono (by omega))).setCell (p := ⟨w.heap.size + 1, 0, none⟩) (show w.heap.size ≤ w.heap.size + 1 by omega) (.bool false))
    have HC := hid hc
    clear hc
    go_wp2_with fail
    refine ⟨.bool false, ?_, ?_⟩
    · have hc := HC.out
      simp [results, Tryz.results30, go_sem, hc]
    · exact ⟨by rw [HR.out], HBf.out⟩
  | true =>
  have hgl : v.x.gs.length ≤ 9223372036854775807 := by omega
  obtain ⟨vlt, c0, c1, c2, c3, c4, c5, c6, c7, c8⟩ := HVB.out.below HB5.out (by omega)
  go_wp2_with fail
  clear c0 c1 c2 c3 c4 c5 c6 c7 c8 vlt
  have hcall := containsGlob_any v th w.heap.size v.x.ga v.x.gs.length v.x.gcap v.x.gs w5 HV5.out (HVB.out.below HB5.out (by omega)) HV5.out.sub.g rfl hgl (fun y hy => HV5.out.wf.gs y hy)
  rw [any_not] at hcall
  go_fit hcall
  clear hcall
  rintro e w6 ⟨rfl, hb6⟩
  have HB6 := hid (HB5.out.trans (hb6.mono (by have := HB5.out.size; omega)))
  have HV6 := hid (HV5.out.below hb6)
  have rb6 := (hb6.cell (p := ⟨w.heap.size + 1, 0, none⟩) (by have := HB5.out.size; dsimp only; omega)).trans rb5
  have rf6 := (hb6.frozen (p := ⟨w.heap.size + 1, 0, none⟩) (by have := HB5.out.size; dsimp only; omega)).trans rf5
  clear hb6 rb5 rf5
  cases hG : v.x.gs.all (fun y => okV v.x.hs.length th y.w) with
  | false =>
    have HR := hid (show mayB v.x th = false from by unfold mayB; rw [hA, hR4, hN, hG]; rfl)
    have hc := World.cell?_setCell_same w6 ⟨w.heap.size + 1, 0, none⟩ (.bool false) rb6
    have HBf := hid ((HB2.out.trans (HB6.out.mono (by omega))).setCell (p := ⟨w.heap.size + 1, 0, none⟩) (show w.heap.size ≤ w.heap.size + 1 by omega) (.bool false))
    have HC := hid hc
    clear hc
    go_wp2_with fail
    refine ⟨.bool false, ?_, ?_⟩
    · have hc := HC.out
      simp [results, Tryz.results30, go_sem, hc]
    · exact ⟨by rw [HR.out], HBf.out⟩
  | true =>
  have HR := hid (show mayB v.x th = th.all (standB v.x v.x.hs) from by unfold mayB; rw [hA, hR4, hN, hG]; rfl)
  obtain ⟨vlt, c0, c1, c2, c3, c4, c5, c6, c7, c8⟩ := HVB.out.below HB6.out (by omega)
  go_wp2_with (go_at_call 46; refine (callsIn_wide.1 (things_in 5 _ _ _ _)).mono ?_; rintro e w' ⟨rfl, rfl⟩)
  clear c0 c1 c2 c3 c4 c5 c6 c7 c8 vlt
  obtain ⟨w7, hw7⟩ : ∃ w7, w7 = w6.alloc (.cells #[.slice v.x.ha v.x.hs.length v.x.hcap] 25) := ⟨_, rfl⟩
  have hz7 : w7.heap.size = w6.heap.size + 1 := by rw [hw7]; simp
  have hb67 : Below w6.heap.size w6 w7 := by rw [hw7]; exact (Below.refl _ _).alloc (Nat.le_refl _) _
  have bw : w7.cell? ⟨w6.heap.size, 0, none⟩ = some (.slice v.x.ha v.x.hs.length v.x.hcap) := by rw [hw7]; go_simp
  have hz6 := HB6.out.size
  rw [← hw7]
  clear hw7
  have HB7 := hid (HB6.out.trans (hb67.mono (by omega)))
  have HW7 := hid (HB2.out.trans (HB7.out.mono (by omega)))
  have HVB7 := hid (HVB.out.below HB7.out (by omega))
  have hroom := HV.out.room
  have RB7 := hid (show w7.cell? ⟨w.heap.size + 1, 0, none⟩ = some (.bool false) ∧ w7.frozen? ⟨w.heap.size + 1, 0, none⟩ = false from
    ⟨(hb67.cell (p := ⟨w.heap.size + 1, 0, none⟩) (by dsimp only; omega)).trans rb6, (hb67.frozen (p := ⟨w.heap.size + 1, 0, none⟩) (by dsimp only; omega)).trans rf6⟩)
  have HWd := hid (wds_row (Cs.below HV.out.sub.h HW7.out (Nat.le_refl _)))
  clear hb67 rb6 rf6
  refine (wpIn_wide (n := 5)).1 ?_
  refine wpIn_rangeFunc_ownH (F := Fence.wide) rfl (by omega) (gf := 66) (lb := #[.pointer (some ⟨w6.heap.size, 0, none⟩)]) rfl trivial (enters_of Tryz.func66 (by kernel_rfl) rfl)
    (things_stops 4 (by omega) w6.heap.size w7.heap.size w7.heap.size w.heap.size v.x.ha v.x.hcap v.x.hs th hch hroom (by omega) (by omega) (by omega) (by omega) w7 (Nat.le_refl _) bw HWd.out) KpM.trans (KpM.putObj (Nat.le_refl _)) (Below.refl _ _) (fun _ => rfl)
    (fun pre W => (thA pre).all (standB v.x v.x.hs) = true ∧ Below w7.heap.size w7 W)
    (fun c _ W => c = .ret ∧ th.all (standB v.x v.x.hs) = false ∧ W.cell? ⟨w.heap.size + 1, 0, none⟩ = some (.bool false) ∧ Below w.heap.size w W ∧ w7.heap.size ≤ W.heap.size)
    (fun s A A' row hs hg hr => ⟨hs.1, hs.2.grown hg hs.2.size (fun j hj => (hr j hj).1)⟩)
    (fun c s A A' row hs hg hr => by
      obtain ⟨h1, h2, h3, h4, h5⟩ := hs
      exact ⟨h1, h2, (World.cell?_of_block (w := A) (a := ⟨w.heap.size + 1, 0, none⟩) (hg.block _ (by dsimp only; omega) (fun e => by have := (hr _ e.symm).1; dsimp only at this; omega))).trans h3, h4.grown hg (by omega) (fun j hj => by have := (hr j hj).1; omega), Nat.le_trans h5 hg.size⟩)
    ⟨rfl, Below.refl _ _⟩
    (fun x a' _ => a' = { tmps := #[viewV v, .pointer (some ⟨w.heap.size, 0, none⟩), .pointer (some ⟨w.heap.size + 1, 0, none⟩), .func (.func 50) #[] #[.pointer (some ⟨w.heap.size, 0, none⟩)], .func (.func 52) #[] #[.pointer (some ⟨w.heap.size, 0, none⟩)], .func (.func 54) #[] #[.pointer (some ⟨w.heap.size, 0, none⟩)], .int .i64 (x.1.h : Int), .func (.func 50) #[] #[.pointer (some ⟨w.heap.size, 0, none⟩)], .func (.func 52) #[] #[.pointer (some ⟨w.heap.size, 0, none⟩)], .func (.func 54) #[] #[.pointer (some ⟨w.heap.size, 0, none⟩)], .pointer (some ⟨w.heap.size, 0, none⟩), .pointer (some ⟨w.heap.size, 0, none⟩), .slice v.x.fa v.x.fs.length v.x.fcap, .func (.func 50) #[] #[.pointer (some ⟨w.heap.size, 0, none⟩)], .bool false, .bool false, .pointer (some ⟨w.heap.size, 0, none⟩), .pointer (some ⟨w.heap.size, 2, none⟩), .slice v.x.ra v.x.rs.length v.x.rcap, .func (.func 52) #[] #[.pointer (some ⟨w.heap.size, 0, none⟩)], .bool false, .bool false, .bool false, .agg #[.slice v.x.fa v.x.fs.length v.x.fcap, .slice v.x.ga v.x.gs.length v.x.gcap, .slice v.x.ra v.x.rs.length v.x.rcap, .slice v.x.ha v.x.hs.length v.x.hcap, .int .i64 v.lim, finG v.gq, finR v.rq, valF v.vq, .map (some v.pm)], .bool true, .bool false, .bool false, .bool false, .pointer (some ⟨w.heap.size, 0, none⟩), .pointer (some ⟨w.heap.size, 1, none⟩), .slice v.x.ga v.x.gs.length v.x.gcap, .func (.func 54) #[] #[.pointer (some ⟨w.heap.size, 0, none⟩)], .bool false, .bool false, .pointer (some ⟨w.heap.size, 0, none⟩), .pointer (some ⟨w.heap.size, 3, none⟩), .pointer (some ⟨w.heap.size, 3, none⟩), .slice v.x.ha v.x.hs.length v.x.hcap, .func (.func 66) #[] #[.pointer (some ⟨w6.heap.size, 0, none⟩)], .int .i64 (x.1.h : Int), undef, undef, undef, undef, undef, undef, undef, undef], defers := [] })
    (fun x a' s A A' row hs hg hr => hs)
    ?assign ?body ?done ?stop
  case assign =>
    rintro ll pre x W K hi hK
    dsimp only [encA]
    gi_wp2
    exact hK _ _ ((KeepsOthers.refl _).from _) (KpM.refl _ _ _) hi rfl
  case body =>
    rintro ll pre x a' W hll ⟨r, hr⟩ ⟨hall, hbl⟩ rfl hlt
    have hW := HW7.out.trans (hbl.mono (by omega))
    have HVW := hid (HV.out.below hW)
    obtain ⟨vlt, c0, c1, c2, c3, c4, c5, c6, c7, c8⟩ := HVB7.out.below hbl (by omega)
    obtain ⟨i, hi, hxe⟩ := List.getElem_of_mem x.2
    have hti := thing_is ((chain_pos hch).2 i hi).1
    rw [hxe] at hti
    have HCa := hid (mayStand_any v th W HVW.out w.heap.size v.x.ha v.x.hs.length v.x.hcap v.x.hs x.1 (Wds.below HWd.out (hbl.mono (by omega))) hW.size rfl hroom hti)
    have HBl := hid hbl
    have HAll := hid hall
    have HWW := hid hW
    have rbW := (hbl.cell (p := ⟨w.heap.size + 1, 0, none⟩) (by dsimp only; omega)).trans RB7.out.1
    have rfW := (hbl.frozen (p := ⟨w.heap.size + 1, 0, none⟩) (by dsimp only; omega)).trans RB7.out.2
    have hz := hbl.size
    have HX := hid x.2
    clear hW hxe hti hbl hall
    cases hst : standB v.x v.x.hs x.1 with
    | false =>
      have HF := hid (show th.all (standB v.x v.x.hs) = false from by rw [List.all_eq_false]; exact ⟨x.1, HX.out, by rw [hst]; simp⟩)
      gi_wp2_with (refine ⟨trivial, ?_⟩; gi_at_call 59; refine (CallsIn.inRound ll (callsIn_wide.2 HCa.out)).mono ?_; rintro e W' ⟨rfl, hb⟩; rw [hst]; have rb' := (hb.cell (p := ⟨w.heap.size + 1, 0, none⟩) (by dsimp only; omega)).trans rbW; have rf' := (hb.frozen (p := ⟨w.heap.size + 1, 0, none⟩) (by dsimp only; omega)).trans rfW; have HBb := hid hb; clear hb)
      have k1 : KeepsOthers W W' := ⟨HBb.out.size, fun k o hk _ => (HBb.out.block k (Array.getElem?_eq_some_iff.1 hk).1).trans hk⟩
      exact ⟨(k1.trans (KeepsOthers.setCell W' ⟨w.heap.size + 1, 0, none⟩ (.bool false))).from _, rfl, HF.out, World.cell?_setCell_same _ _ _ rb', (HWW.out.trans (HBb.out.mono HWW.out.size)).setCell (p := ⟨w.heap.size + 1, 0, none⟩) (by dsimp only; omega) _, by have := HBb.out.size; simp; omega⟩
    | true =>
      have HF := hid (show (thA (pre ++ [x])).all (standB v.x v.x.hs) = true from by
        have h := HAll.out
        unfold thA at h ⊢
        rw [List.map_append, List.all_append, h]
        simp [hst])
      gi_wp2_with (refine ⟨trivial, ?_⟩; gi_at_call 59; refine (CallsIn.inRound ll (callsIn_wide.2 HCa.out)).mono ?_; rintro e W' ⟨rfl, hb⟩; rw [hst]; have rb' := (hb.cell (p := ⟨w.heap.size + 1, 0, none⟩) (by dsimp only; omega)).trans rbW; have rf' := (hb.frozen (p := ⟨w.heap.size + 1, 0, none⟩) (by dsimp only; omega)).trans rfW; have HBb := hid hb; clear hb)
      have k1 : KeepsOthers W W' := ⟨HBb.out.size, fun k o hk _ => (HBb.out.block k (Array.getElem?_eq_some_iff.1 hk).1).trans hk⟩
      exact ⟨k1.from _, KpM.of (HBb.out.mono hz), HF.out, HBl.out.trans (HBb.out.mono hz)⟩
  case done =>
    rintro D ys W hD hS ⟨hall, hbl⟩ hK
    rw [hS] at hall
    have hz := hbl.size
    have rbW := (hbl.cell (p := ⟨w.heap.size + 1, 0, none⟩) (by dsimp only; omega)).trans RB7.out.1
    have rfW := (hbl.frozen (p := ⟨w.heap.size + 1, 0, none⟩) (by dsimp only; omega)).trans RB7.out.2
    have hK' := (KeepsOthers.setCell W ⟨w.heap.size + 1, 0, none⟩ (.bool true)).same D _ hK rfl
    have hc5 := cell_kept (World.cell?_setCell_same' W ⟨w.heap.size + 1, 0, none⟩ (.bool true) (by rw [rbW]; rfl)) (grownBy_putObj' _ D (.deferred none)) (fun r e => by cases e; exact ⟨_, hK', rfl⟩)
    have HBf := hid (((HW7.out.trans (hbl.mono (by omega))).setCell (p := ⟨w.heap.size + 1, 0, none⟩) (show w.heap.size ≤ w.heap.size + 1 by omega) (.bool true)).grown (grownBy_putObj' (W.setCell ⟨w.heap.size + 1, 0, none⟩ (.bool true)) D (.deferred none)) (by simp; omega) (fun j e => by cases e; omega))
    have HR2 := hid (HR.out.trans hall)
    clear hall hbl
    go_wp2
    refine ⟨by simp, .inl ⟨_, _, rfl, run_takeDeferred hK', ?_⟩⟩
    refine ⟨.bool true, ?_, ?_⟩
    · simp [results, Tryz.results30, go_sem, hc5]
    · exact ⟨by rw [HR2.out], HBf.out⟩
  case stop =>
    rintro D c pre W hD hS ⟨rfl, hfalse, hc, hbl, hz⟩ hK
    have hc5 := cell_kept hc (grownBy_putObj' W D (.deferred none)) (fun r e => by cases e; exact ⟨_, hK, rfl⟩)
    have HBf := hid (hbl.grown (grownBy_putObj' W D (.deferred none)) (by omega) (fun j e => by cases e; omega))
    have HR2 := hid (HR.out.trans hfalse)
    clear hfalse hbl hc
    gi_wp2
    refine ⟨by simp, .inl ⟨_, _, rfl, run_takeDeferred hK, ?_⟩⟩
    refine ⟨.bool false, ?_, ?_⟩
    · simp [results, Tryz.results30, go_sem, hc5]
    · exact ⟨by rw [HR2.out], HBf.out⟩
end Go.Proofs.YtldmanfgmadbfaaGreatDoor
namespace Go.Proofs.YtldmanfgmadbfaaGreatDoor
set_option maxRecDepth 100000
open HH UU VV
open Go.RowKit Go.Maps Go.WideMaps
theorem makeMap_hint (x : Int) (w : World) : (Instr.makeMap 100 (some (.int .i64 x))).run Tryz.prog w = .ok (.map (some w.heap.size)) (w.alloc (.map #[] 0)) := by
  simp [Instr.makeMap, run_underlying Tryz.underlying100, asInt, asIntOf, Result.andThen]
theorem ownsN_made (w : World) : OwnsN (w.alloc (.map #[] 0)) w.heap.size [] := World.ownsMap_made _ _ _ _
theorem OwnsN.put {w : World} {b : Nat} {l : List ByteArray} (h : OwnsN w b l) (hn : l.length < 1000000000) {x : ByteArray} (hx : x.size ≤ maxLen) {k : Int} (hk : k = l.length) :
    ∃ w', (Instr.mapUpdate 100 (.map (some b)) (.string x) (.int .i64 k)).run Tryz.prog w = .ok () w' ∧ OwnsN w' b (l ++ [x]) ∧ w.grownBy w' (some b) := by
  subst hk
  obtain ⟨w', h1, h2, h3⟩ := World.ownsMap.update h lawK Tryz.underlying100 (by unfold maxLen; omega) (keyOf_string_mk Tryz.underlying9 hx) (plainElem_int Tryz.underlying3 (a := (l.length : Int)) (WalkArith.wf_i64 (by omega)))
  refine ⟨w', h1, ?_, h3⟩
  unfold OwnsN
  rw [plc_snoc, List.length_append]
  exact h2
/-- A finder, and what it stands on. -/
def FinR (f : Nat → Value) (l : List ByteArray) (w : World) (e : Ending) (w' : World) : Prop :=
  ∃ q m, e = .returned (f q) ∧ w.heap.size ≤ q ∧ q < w'.heap.size ∧ w'.cell? ⟨q, 0, none⟩ = some (.map (some m)) ∧ OwnsN w' m l ∧ Below w.heap.size w w'
set_option maxHeartbeats 1000000 in
theorem nameG_any (x : Gl) (w : World) :
    Calls Tryz.prog 25 #[.agg #[.string x.name, .int .i64 x.w.k, .int .i64 x.w.n, .string x.w.s]] w fun e w' => e = .returned (.string x.name) ∧ w' = w.alloc (.cells #[.string x.name, .int .i64 x.w.k, .int .i64 x.w.n, .string x.w.s] 53) := by
  go_enter Tryz.func25, Tryz.ntmps25
  go_wp2_with fail
  go_ret
  exact ⟨rfl, rfl⟩
set_option maxHeartbeats 4000000 in
theorem finderG_any (w : World) (B : Nat) (a : Option Addr) (n cap : Nat) (l : List Gl) (hC : Cs w (fun b => b < B) a (flatC glC l)) (hB : B ≤ w.heap.size) (hn : n = l.length) (hm : n ≤ 1000000) (hs : ∀ x, x ∈ l → x.name.size ≤ maxLen) :
    Calls Tryz.prog 24 #[.slice a n cap, .func (.func 25) #[] #[]] w fun e w' => FinR finG (l.map Gl.name) w e w' := by
  have hmh := makeMap_hint
  have HN := hid hn
  have HC := hid hC
  clear hC hn
  have hb2 : Hid (Below w.heap.size w ((w.alloc (.map #[] 0)).alloc (.cells #[.map (some w.heap.size)] 100))) := hid (below_2 _ _ _)
  have ho2 : Hid (OwnsN ((w.alloc (.map #[] 0)).alloc (.cells #[.map (some w.heap.size)] 100)) w.heap.size []) := hid ((ownsN_made w).alloc _)
  go_enter Tryz.func24, Tryz.ntmps24
  go_wp2_with fail
  obtain ⟨w2, hw2⟩ : ∃ w2, w2 = ((w.alloc (.map #[] 0)).alloc (.cells #[.map (some w.heap.size)] 100)) := ⟨_, rfl⟩
  have hz2 : w2.heap.size = w.heap.size + 2 := by rw [hw2]; simp
  have hq2 : w2.cell? ⟨w.heap.size + 1, 0, none⟩ = some (.map (some w.heap.size)) := by rw [hw2]; go_simp
  rw [← hw2] at hb2 ho2 ⊢
  clear hw2 hmh
  go_loopw [13] (fun i wr => ∃ k : Nat, k ≤ n ∧ i = .int .i64 k ∧ OwnsN wr w.heap.size ((l.map Gl.name).take k) ∧ wr.cell? ⟨w.heap.size + 1, 0, none⟩ = some (.map (some w.heap.size)) ∧ w.heap.size + 1 < wr.heap.size ∧ Below w.heap.size w wr) (fun i _ => n - (intOf i).toNat)
  case atStart => exact ⟨0, Nat.zero_le _, rfl, ho2.out, hq2, by omega, hb2.out⟩
  case round =>
    obtain ⟨k, hk, rfl, ho, hq, hz, hbr⟩ := hrel
    have HO := hid ho
    have HBr := hid hbr
    clear ho
    by_cases hlt : k < n
    · have hlt2 : (k : Int) < n := by omega
      have hkl : k < l.length := by rw [← HN.out]; exact hlt
      obtain ⟨b, o, rfl, hbB, i0, i1, i2, i3⟩ := gl_at (Cs.below HC.out (hbr.mono hB) (Nat.le_refl _)) hkl
      have hsx := hs _ (List.getElem_mem hkl)
      have HT := hid (show (l.map Gl.name).take (k + 1) = (l.map Gl.name).take k ++ [(l[k]'hkl).name] by
        rw [List.take_succ_eq_append_getElem (by simpa using hkl), List.getElem_map])
      clear hbr
      generalize l[k]'hkl = x at i0 i1 i2 i3 hsx HT
      have hb3 : Below wr.heap.size wr (((wr.alloc (.cells #[.string x.name, .int .i64 x.w.k, .int .i64 x.w.n, .string x.w.s] 53)).alloc (.cells #[.string x.name, .int .i64 x.w.k, .int .i64 x.w.n, .string x.w.s] 53)).drew) := (((Below.refl _ _).alloc (Nat.le_refl _) _).alloc (by simp) _).drew
      obtain ⟨w5, hrun5, hO5, hG5⟩ := OwnsN.put (owns_below HO.out hb3) (by simp; omega) hsx (k := k) (by simp; omega)
      have HB3 := hid hb3
      have HO5 := hid hO5
      have HG5 := hid hG5
      have hq3 := (hb3.cell (p := ⟨w.heap.size + 1, 0, none⟩) hz).trans hq
      clear hb3 hO5 hG5
      have hq5 : w5.cell? ⟨w.heap.size + 1, 0, none⟩ = some (.map (some w.heap.size)) := (HG5.out.cell_far ⟨w.heap.size + 1, 0, none⟩ (by simp; omega) (fun e => by injection e with e; dsimp only at e; omega)).trans hq3
      have hz5 := Nat.lt_of_lt_of_le hz (Nat.le_trans HB3.out.size HG5.out.size)
      have HB5 := hid ((HBr.out.trans (HB3.out.mono (by omega))).grown HG5.out (by have := HBr.out.size; simp; omega) (fun j e => by cases e; exact Nat.le_refl _))
      have HQ5 := hid hq5
      have HZ5 := hid hz5
      clear hq5 hz5
      go_wp2_with fail
      go_region_with (go_at_call 25; refine (nameG_any x _).mono ?_; rintro e w' ⟨rfl, rfl⟩)
      all_goals
        go_wp2
        go_roundw
        case rel => exact ⟨k + 1, by omega, by go_num, by rw [HT.out]; exact HO5.out, HQ5.out, HZ5.out, HB5.out⟩
        case measure => simp [intOf]; omega
    · have hlt2 : ¬ (k : Int) < n := by omega
      have hkl : k = l.length := by rw [← HN.out]; omega
      have HR := hid (show FinR finG (l.map Gl.name) w (.returned (finG (w.heap.size + 1))) wr from
        ⟨w.heap.size + 1, w.heap.size, rfl, by omega, hz, hq, by have := HO.out; rw [hkl, List.take_of_length_le (by simp)] at this; exact this, HBr.out⟩)
      clear hbr hkl
      go_wp2_with fail
      go_ret
      exact HR.out
set_option maxHeartbeats 1000000 in
theorem nameR_any (x : Rc) (w : World) :
    Calls Tryz.prog 27 #[.agg #[.string x.name, .slice x.va x.vs.length x.vcap, .slice x.ma x.ms.length x.mcap]] w fun e w' => e = .returned (.string x.name) ∧ w' = w.alloc (.cells #[.string x.name, .slice x.va x.vs.length x.vcap, .slice x.ma x.ms.length x.mcap] 58) := by
  go_enter Tryz.func27, Tryz.ntmps27
  go_wp2_with fail
  go_ret
  exact ⟨rfl, rfl⟩
set_option maxHeartbeats 4000000 in
theorem finderR_any (w : World) (B : Nat) (a : Option Addr) (n cap : Nat) (l : List Rc) (hC : Cs w (fun b => b < B) a (flatC rcC l)) (hB : B ≤ w.heap.size) (hn : n = l.length) (hm : n ≤ 1000000) (hs : ∀ x, x ∈ l → x.name.size ≤ maxLen) :
    Calls Tryz.prog 26 #[.slice a n cap, .func (.func 27) #[] #[]] w fun e w' => FinR finR (l.map Rc.name) w e w' := by
  have hmh := makeMap_hint
  have HN := hid hn
  have HC := hid hC
  clear hC hn
  have hb2 : Hid (Below w.heap.size w ((w.alloc (.map #[] 0)).alloc (.cells #[.map (some w.heap.size)] 100))) := hid (below_2 _ _ _)
  have ho2 : Hid (OwnsN ((w.alloc (.map #[] 0)).alloc (.cells #[.map (some w.heap.size)] 100)) w.heap.size []) := hid ((ownsN_made w).alloc _)
  go_enter Tryz.func26, Tryz.ntmps26
  go_wp2_with fail
  obtain ⟨w2, hw2⟩ : ∃ w2, w2 = ((w.alloc (.map #[] 0)).alloc (.cells #[.map (some w.heap.size)] 100)) := ⟨_, rfl⟩
  have hz2 : w2.heap.size = w.heap.size + 2 := by rw [hw2]; simp
  have hq2 : w2.cell? ⟨w.heap.size + 1, 0, none⟩ = some (.map (some w.heap.size)) := by rw [hw2]; go_simp
  rw [← hw2] at hb2 ho2 ⊢
  clear hw2 hmh
  go_loopw [13] (fun i wr => ∃ k : Nat, k ≤ n ∧ i = .int .i64 k ∧ OwnsN wr w.heap.size ((l.map Rc.name).take k) ∧ wr.cell? ⟨w.heap.size + 1, 0, none⟩ = some (.map (some w.heap.size)) ∧ w.heap.size + 1 < wr.heap.size ∧ Below w.heap.size w wr) (fun i _ => n - (intOf i).toNat)
  case atStart => exact ⟨0, Nat.zero_le _, rfl, ho2.out, hq2, by omega, hb2.out⟩
  case round =>
    obtain ⟨k, hk, rfl, ho, hq, hz, hbr⟩ := hrel
    have HO := hid ho
    have HBr := hid hbr
    clear ho
    by_cases hlt : k < n
    · have hlt2 : (k : Int) < n := by omega
      have hkl : k < l.length := by rw [← HN.out]; exact hlt
      obtain ⟨b, o, rfl, hbB, i0, i1, i2⟩ := rc_at (Cs.below HC.out (hbr.mono hB) (Nat.le_refl _)) hkl
      have hsx := hs _ (List.getElem_mem hkl)
      have HT := hid (show (l.map Rc.name).take (k + 1) = (l.map Rc.name).take k ++ [(l[k]'hkl).name] by
        rw [List.take_succ_eq_append_getElem (by simpa using hkl), List.getElem_map])
      clear hbr
      generalize l[k]'hkl = x at i0 i1 i2 hsx HT
      have hb3 : Below wr.heap.size wr (((wr.alloc (.cells #[.string x.name, .slice x.va x.vs.length x.vcap, .slice x.ma x.ms.length x.mcap] 58)).alloc (.cells #[.string x.name, .slice x.va x.vs.length x.vcap, .slice x.ma x.ms.length x.mcap] 58)).drew) := (((Below.refl _ _).alloc (Nat.le_refl _) _).alloc (by simp) _).drew
      obtain ⟨w5, hrun5, hO5, hG5⟩ := OwnsN.put (owns_below HO.out hb3) (by simp; omega) hsx (k := k) (by simp; omega)
      have HB3 := hid hb3
      have HO5 := hid hO5
      have HG5 := hid hG5
      have hq3 := (hb3.cell (p := ⟨w.heap.size + 1, 0, none⟩) hz).trans hq
      clear hb3 hO5 hG5
      have hq5 : w5.cell? ⟨w.heap.size + 1, 0, none⟩ = some (.map (some w.heap.size)) := (HG5.out.cell_far ⟨w.heap.size + 1, 0, none⟩ (by simp; omega) (fun e => by injection e with e; dsimp only at e; omega)).trans hq3
      have hz5 := Nat.lt_of_lt_of_le hz (Nat.le_trans HB3.out.size HG5.out.size)
      have HB5 := hid ((HBr.out.trans (HB3.out.mono (by omega))).grown HG5.out (by have := HBr.out.size; simp; omega) (fun j e => by cases e; exact Nat.le_refl _))
      have HQ5 := hid hq5
      have HZ5 := hid hz5
      clear hq5 hz5
      go_wp2_with fail
      go_region_with (go_at_call 27; refine (nameR_any x _).mono ?_; rintro e w' ⟨rfl, rfl⟩)
      all_goals
        go_wp2
        go_roundw
        case rel => exact ⟨k + 1, by omega, by go_num, by rw [HT.out]; exact HO5.out, HQ5.out, HZ5.out, HB5.out⟩
        case measure => simp [intOf]; omega
    · have hlt2 : ¬ (k : Int) < n := by omega
      have hkl : k = l.length := by rw [← HN.out]; omega
      have HR := hid (show FinR finR (l.map Rc.name) w (.returned (finR (w.heap.size + 1))) wr from
        ⟨w.heap.size + 1, w.heap.size, rfl, by omega, hz, hq, by have := HO.out; rw [hkl, List.take_of_length_le (by simp)] at this; exact this, HBr.out⟩)
      clear hbr hkl
      go_wp2_with fail
      go_ret
      exact HR.out
end Go.Proofs.YtldmanfgmadbfaaGreatDoor
namespace Go.Proofs.YtldmanfgmadbfaaGreatDoor
set_option maxRecDepth 100000
open HH UU VV
open Go.RowKit Go.Maps Go.WideMaps
/-- A map of the call's own is being filled. -/
structure FillP (w0 w : World) (b : Nat) (l : List (List UInt8 × (Int × Int))) : Prop where
  bel : Below w0.heap.size w0 w
  own : OwnsP w b l
  new : w0.heap.size ≤ b
theorem insP_own {w : World} {b : Nat} {l : List (List UInt8 × (Int × Int))} (h : OwnsP w b l) (hn : l.length < maxLen) {s : ByteArray} {i j : Int} (hs : s.size ≤ maxLen) :
    ∃ w', (Instr.mapUpdate 43 (.map (some b)) (.string s) (.agg #[.int .i64 i, .int .i64 j])).run Tryz.prog w = .ok () w' ∧ OwnsP w' b ((s.data.toList, (i, j)) :: l) ∧ w.grownBy w' (some b) :=
  World.ownsMap.update h lawK Tryz.underlying43 hn (keyOf_string_mk Tryz.underlying9 hs) (d := dprim (i, j)) (ps := []) rfl
theorem FillP.ins {w0 w w' : World} {b : Nat} {l l' : List (List UInt8 × (Int × Int))} (h : FillP w0 w b l) (ho : OwnsP w' b l') (hg : w.grownBy w' (some b)) : FillP w0 w' b l' :=
  ⟨h.bel.grown hg h.bel.size (fun j hj => by cases hj; exact h.new), ho, h.new⟩
theorem insP {w0 w : World} {ops : Array Oper} {rest : List Oper} {o : Oper} {a : Act} {Q : Exit → Act → World → Prop}
    (hg : o.guard = none) (m x v : Operand) (hop : o.op = Op.insert 43 m x v) (b : Nat) (l : List (List UInt8 × (Int × Int))) (s : ByteArray) (i j : Int)
    (hm : a.eval m = .map (some b)) (hx : a.eval x = .string s) (hv : a.eval v = .agg #[.int .i64 i, .int .i64 j]) (hF : FillP w0 w b l) (hn : l.length < maxLen) (hs : s.size ≤ maxLen)
    (hK : ∀ w', FillP w0 w' b ((s.data.toList, (i, j)) :: l) → wpList Tryz.prog ops Q rest (a.put o.dst undef) w') :
    wpList Tryz.prog ops Q (o :: rest) a w := by
  refine wpList_plain hg fun K' hK' => ?_
  obtain ⟨w', hrun, r1, r2⟩ := insP_own (i := i) (j := j) hF.own hn hs
  unfold Oper.wp
  simp [execOp, hop, hm, hx, hv, hrun, Result.andThen]
  exact hK' _ _ (hK w' (hF.ins r1 r2))
set_option maxHeartbeats 4000000 in
theorem newPrimitives_any (w : World) :
    Calls Tryz.prog 29 #[] w fun e w' => ∃ p, e = .returned (.map (some p)) ∧ OwnsP w' p primL ∧ Below w.heap.size w w' := by
  have hmm := @run_makeMap Tryz.prog
  have h0 : Hid (FillP w (w.alloc (.map #[] 0)) w.heap.size []) := hid ⟨(Below.refl _ _).alloc (Nat.le_refl _) _, World.ownsMap_made _ _ _ _, Nat.le_refl _⟩
  go_enter Tryz.func29, Tryz.ntmps29
  go_wp2_with (refine insP (w0 := w) rfl _ _ _ rfl _ _ _ _ _ rfl rfl rfl (by first | exact h0.out | assumption) (by unfold maxLen; simp) (by decide) ?_; intro w1 hF)
  go_ret
  exact ⟨_, rfl, hF.own, hF.bel⟩
end Go.Proofs.YtldmanfgmadbfaaGreatDoor

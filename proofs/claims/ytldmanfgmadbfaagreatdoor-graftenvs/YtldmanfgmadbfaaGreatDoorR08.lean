/- A world's environment: the document's EnvOf. (Written by wip/tools/mkenv.py.) · GraftEnvs: both answer the same. · GraftEnvs' row. -/
import Derived.Test.YtldmanfgmadbfaaGreatDoorR02
import Derived.Test.YtldmanfgmadbfaaGreatDoorR07
import Derived.Test.YtldmanfgmadbfaaGreatDoorR01
import Derived.Test.YtldmanfgmadbfaaGreatDoorQ04
import Derived.Test.YtldmanfgmadbfaaGreatDoorRows
import Derived.SizedLaws
import Derived.LaidMore
import Derived.Stop.LaidErr
import Derived.Lib.LaidTab
import Derived.ProofKit
import Derived.OpenShut
import Derived.Stop.Joined
import Derived.SevenTiedAt
import Derived.Test.YtldmanfgmadbfaaGreatDoorRShort
namespace Go.Proofs.YtldmanfgmadbfaaGreatDoor
set_option maxRecDepth 100000
open HH UU VV
open Go.RowKit Go.Maps Go.WideMaps
def OfR (x : Wv) (lim : Int) (e : Ending) (w : World) : Prop := (∃ v, e = .returned (.tuple #[v, .int .i64 0]) ∧ DocR x lim (.returned (.bool true)) ∧ EnvV x.gs x.rs w v) ∨ (e = .returned (.tuple #[.agg #[.slice none 0 0, .slice none 0 0], .int .i64 9]) ∧ DocR x lim (.returned (.bool false)))
theorem vers_doc {x : Wv} {th : List Th} (h : docB x th = true) : ∀ r, r ∈ x.rs → 1 ≤ r.vs.length ∧ r.vs.length ≤ 20 := by
 intro r hr
 unfold docB at h
 simp only [Bool.and_eq_true] at h
 obtain ⟨i, hi, rfl⟩ := List.mem_iff_getElem.1 hr
 have h2 := List.all_eq_true.1 h.2.1 i (List.mem_range.2 hi)
 unfold atD at h2
 rw [List.getElem?_eq_getElem hi] at h2
 simp only [Bool.and_eq_true] at h2
 have h3 := h2.2
 unfold recD inB at h3
 simp only [Bool.and_eq_true, decide_eq_true_eq] at h3
 omega
/-- A shape's new box. -/
def NewS (N : Nat) (v : Value) (w : World) : Prop := ∃ g, v = .pointer (some ⟨g, 0, none⟩) ∧ N ≤ g ∧ w.heap[g]? = some (.cells #[.string ⟨#[]⟩, .slice none 0 0] 65)
theorem NewS.below {N : Nat} {v : Value} {w w' : World} (h : NewS N v w) (hb : Below w.heap.size w w') : NewS N v w' := by
 obtain ⟨b, h1, h2, h3⟩ := h
 exact ⟨b, h1, h2, (hb.block b (Array.getElem?_eq_some_iff.1 h3).1).trans h3⟩
set_option maxRecDepth 1000000 in
set_option maxHeartbeats 8000000 in
theorem envOf_aux (fa ga ra ha : Option Addr) (fcap gcap rcap hcap : Nat) (fs : List VV.Fn) (gs : List Gl) (rs : List Rc) (hs : List Wd) (lim : Int) (w : World)
  (hS : subW w (fun b => b < w.heap.size) (⟨fa, fcap, fs, ga, gcap, gs, ra, rcap, rs, ha, hcap, hs⟩ : Wv)) (hb : bigW (⟨fa, fcap, fs, ga, gcap, gs, ra, rcap, rs, ha, hcap, hs⟩ : Wv)) (hw : wfW (⟨fa, fcap, fs, ga, gcap, gs, ra, rcap, rs, ha, hcap, hs⟩ : Wv)) :
  Calls Tryz.prog 8 #[.agg #[.slice fa fs.length fcap, .slice ga gs.length gcap, .slice ra rs.length rcap, .slice ha hs.length hcap, .int .i64 lim]] w fun e w' => OfR (⟨fa, fcap, fs, ga, gcap, gs, ra, rcap, rs, ha, hcap, hs⟩ : Wv) lim e w' ∧ Below w.heap.size w w' := by
 obtain ⟨j0, hj, jz0, jz1, jz2⟩ := info_parts infoSh
 have HJ := hid hj
 have HY0 := hid jz0
 have HY1 := hid jz1
 have HY2 := hid jz2
 clear hj jz0 jz1 jz2
 obtain ⟨i0, hi, iz0, iz1, iz2⟩ := info_parts infoStr
 have HI := hid hi
 have HZ0 := hid iz0
 have HZ1 := hid iz1
 have HZ2 := hid iz2
 clear hi iz0 iz1 iz2
 obtain ⟨w2, hw2⟩ : ∃ w2, w2 = (w.alloc (.cells #[.slice fa fs.length fcap, .slice ga gs.length gcap, .slice ra rs.length rcap, .slice ha hs.length hcap, .int .i64 lim] 29)).alloc (.cells #[.slice none 0 0, .slice none 0 0] 36) := ⟨_, rfl⟩
 have HB2 := hid (show Below w.heap.size w w2 by rw [hw2]; exact below_2 _ _ _)
 have hz2 : w2.heap.size = w.heap.size + 2 := by rw [hw2]; simp
 have kk : w2.cell? ⟨w.heap.size, 1, none⟩ = some (.slice ga gs.length gcap) ∧ w2.cell? ⟨w.heap.size, 2, none⟩ = some (.slice ra rs.length rcap) ∧ w2.cell? ⟨w.heap.size + 1, 0, none⟩ = some (.slice none 0 0) ∧ w2.cell? ⟨w.heap.size + 1, 1, none⟩ = some (.slice none 0 0) ∧ w2.frozen? ⟨w.heap.size + 1, 0, none⟩ = false ∧ w2.frozen? ⟨w.heap.size + 1, 1, none⟩ = false := by
  rw [hw2]; refine ⟨?_, ?_, ?_, ?_, ?_, ?_⟩ <;> go_simp
 have KK := hid kk
 have HS := hid hS
 have HBg := hid hb
 have HWf := hid hw
 have H2 := hid hw2
 have hS2 := subW_keep hS (fun b hb' => HB2.out.block b hb') (fun _ hb' => Nat.lt_of_lt_of_le hb' HB2.out.size)
 have hcall := worldMay_any (⟨fa, fcap, fs, ga, gcap, gs, ra, rcap, rs, ha, hcap, hs⟩ : Wv) lim w2 hS2 hb hw
 clear hw2 kk hS hb hw hS2
 go_enter Tryz.func8, Tryz.ntmps8
 go_wp2_with fail
 rw [← H2.out]
 go_fit hcall
 clear hcall
 rintro e w3 ⟨hc, hb3⟩
 have HB3 := hid (HB2.out.trans (hb3.mono HB2.out.size))
 have hz3 := hb3.size
 obtain ⟨k1, k2, r0, r1, g0, g1⟩ := KK.out
 have k1 := (hb3.cell (p := ⟨w.heap.size, 1, none⟩) (by dsimp only; omega)).trans k1
 have k2 := (hb3.cell (p := ⟨w.heap.size, 2, none⟩) (by dsimp only; omega)).trans k2
 have r0 := (hb3.cell (p := ⟨w.heap.size + 1, 0, none⟩) (by dsimp only; omega)).trans r0
 have r1 := (hb3.cell (p := ⟨w.heap.size + 1, 1, none⟩) (by dsimp only; omega)).trans r1
 have g0 := (hb3.frozen (p := ⟨w.heap.size + 1, 0, none⟩) (by dsimp only; omega)).trans g0
 have g1 := (hb3.frozen (p := ⟨w.heap.size + 1, 1, none⟩) (by dsimp only; omega)).trans g1
 obtain ⟨bb, he⟩ : ∃ bb, e = .returned (.bool bb) := by rcases hc with ⟨rfl, _⟩ | ⟨rfl, _⟩ <;> exact ⟨_, rfl⟩
 subst he
 cases bb
 case false =>
  have HC := hid (show DocR (⟨fa, fcap, fs, ga, gcap, gs, ra, rcap, rs, ha, hcap, hs⟩ : Wv) lim (.returned (.bool false)) from hc)
  clear hc
  obtain ⟨wz, hwz⟩ : ∃ wz, wz = (w3.setCell ⟨w.heap.size + 1, 0, none⟩ (.slice none 0 0)).setCell ⟨w.heap.size + 1, 1, none⟩ (.slice none 0 0) := ⟨_, rfl⟩
  have HBz := hid (show Below w.heap.size w wz from by rw [hwz]; exact (HB3.out.setCell (p := ⟨w.heap.size + 1, 0, none⟩) (by dsimp only; omega) _).setCell (p := ⟨w.heap.size + 1, 1, none⟩) (by dsimp only; omega) _)
  have Hz := hid hwz
  clear hwz hb3
  go_wp2_with fail
  refine bodyPost_ret (v := .tuple #[.agg #[.slice none 0 0, .slice none 0 0], .int .i64 9]) (by simp [results, Tryz.results8, go_sem, r0, r1]) rfl ?_
  rw [← Hz.out]
  exact ⟨Or.inr ⟨rfl, HC.out⟩, HBz.out⟩
 have HC := hid (show DocR (⟨fa, fcap, fs, ga, gcap, gs, ra, rcap, rs, ha, hcap, hs⟩ : Wv) lim (.returned (.bool true)) from hc)
 obtain ⟨hfs, hg0, hr0, th, hdb⟩ : fs.length ≤ 2000 ∧ gs.length ≤ 40 ∧ rs.length ≤ 8 ∧ ∃ th, docB (⟨fa, fcap, fs, ga, gcap, gs, ra, rcap, rs, ha, hcap, hs⟩ : Wv) th = true := by
  rcases hc with ⟨_, _, h1, h2, h3, th, _, h4⟩ | ⟨h, _⟩
  ·
   exact ⟨h1, h2, h3, th, h4⟩
  ·
   cases h
 have HVs := hid (vers_doc hdb)
 have hg40 : gs.length ≤ 1000 := by omega
 have hr40 : rs.length ≤ 1000 := by omega
 obtain ⟨w4, hw4⟩ : ∃ w4, w4 = w3.alloc (.cells #[.slice none 0 0, .slice none 0 0] 36) := ⟨_, rfl⟩
 have hb4 : Below w3.heap.size w3 w4 := by rw [hw4]; exact (Below.refl _ _).alloc (Nat.le_refl _) _
 have hz4 : w4.heap.size = w3.heap.size + 1 := by rw [hw4]; simp
 have vv : w4.cell? ⟨w3.heap.size, 0, none⟩ = some (.slice none 0 0) ∧ w4.cell? ⟨w3.heap.size, 1, none⟩ = some (.slice none 0 0) ∧ w4.frozen? ⟨w3.heap.size, 0, none⟩ = false ∧ w4.frozen? ⟨w3.heap.size, 1, none⟩ = false := by
  rw [hw4]; refine ⟨?_, ?_, ?_, ?_⟩ <;> go_simp
 have HV := hid vv
 have HK1 := hid ((hb4.cell (p := ⟨w.heap.size, 1, none⟩) (by dsimp only; omega)).trans k1)
 have HK2 := hid ((hb4.cell (p := ⟨w.heap.size, 2, none⟩) (by dsimp only; omega)).trans k2)
 have HR0 := hid (And.intro ((hb4.cell (p := ⟨w.heap.size + 1, 0, none⟩) (by dsimp only; omega)).trans r0) (And.intro ((hb4.cell (p := ⟨w.heap.size + 1, 1, none⟩) (by dsimp only; omega)).trans r1) (And.intro ((hb4.frozen (p := ⟨w.heap.size + 1, 0, none⟩) (by dsimp only; omega)).trans g0) ((hb4.frozen (p := ⟨w.heap.size + 1, 1, none⟩) (by dsimp only; omega)).trans g1))))
 have HW4 := hid (HB3.out.trans (hb4.mono HB3.out.size))
 have H4 := hid hw4
 clear hw4 hb4 vv r0 r1 g0 g1 hb3 hc hdb
 have hz03 : w.heap.size < w3.heap.size := by omega
 have hz13 : w.heap.size + 1 < w3.heap.size := by omega
 go_wp2_with fail
 rw [← H4.out]
 go_loopw [5] (fun i wr => GInv gs w3.heap.size w4 i wr) (fun i _ => gs.length - (intOf i).toNat)
 case atStart => exact GInv.mk 0 (.slice none 0 0) (Nat.zero_le _) rfl (by simpa using RowC.nil w4 w4.heap.size) HV.out.1 HV.out.2.1 HV.out.2.2.1 HV.out.2.2.2 (KpB.refl _ _ _)
 case round =>
  obtain ⟨k, gv, hk, rfl, hrow, q0, q1, f0, f1, hkp⟩ := hrel
  have HRow := hid hrow
  have HKp := hid hkp
  have HWr := hid (HW4.out.trans (hkp.below (B := w.heap.size) (by omega) (by omega)))
  have hzr := hkp.size
  have k1 := (hkp.cell (b := w.heap.size) (o := 1) (by omega) (by omega)).trans HK1.out
  clear hrow hkp
  by_cases hlt : k < gs.length
  ·
   have hlt2 : (k : Int) < gs.length := by omega
   obtain ⟨b, o, rfl, hbB, i0', i1, i2, i3⟩ := gl_at (Cs.below HS.out.g HWr.out (Nat.le_refl _)) hlt
   have HT := hid (show (gs.map Gl.name).take (k + 1) = (gs.map Gl.name).take k ++ [(gs[k]'hlt).name] by
    rw [List.take_succ_eq_append_getElem (by simpa using hlt), List.getElem_map])
   generalize gs[k]'hlt = y at i0' i1 i2 i3 HT
   have hba : Below wr.heap.size wr ((wr.alloc (.cells #[.string y.name] 9)).drew) := ((Below.refl _ _).alloc (Nat.le_refl _) _).drew
   have hln : ((gs.map Gl.name).take k).length = k := by simp; omega
   obtain ⟨gA, gC, rfl, _, hown⟩ := HRow.out.own hln
   have HR := hid (own_below hown hba)
   have HOn := hid (fun g (e : (Value.slice gA k gC).ownBlock = some g) => own_lt hown e)
   have HX := hid (fun v' w' (h : World.ownsRow w' w4.heap.size 9 1 v' (k + 1) (flatC strC ((gs.map Gl.name).take k) ++ strC y.name)) => (by rw [HT.out]; exact RowC.of hln.symm h : RowC strC 9 1 w' w4.heap.size v' ((gs.map Gl.name).take (k + 1))))
   have HBa := hid hba
   have hkz : w3.heap.size < wr.heap.size := by omega
   have Hr0 := hid ((hba.cell (p := ⟨w3.heap.size, 0, none⟩) hkz).trans q0)
   have Hrf := hid ((hba.frozen (p := ⟨w3.heap.size, 0, none⟩) hkz).trans f0)
   clear hba hown hln
   go_wp2_with fail
   go_region_law (refine step_append_lies _ rfl (.tmp 21) (.tmp 28) 33 rfl w4.heap.size 9 i0 (.string ⟨#[]⟩) 1 16 Tryz.underlying33 HI.out HZ0.out HZ1.out HZ2.out rfl (by decide) (.slice gA k gC) k _ (by simp [Act.eval]) HR.out ⟨wr.heap.size, 0, none⟩ 1 1 [.string y.name] (by simp [Act.eval]) rfl (by have := cells_new wr (.string y.name) 9; simpa using this) (by simp [Value.oneCell']) (by decide) (by unfold maxLen; omega) (by omega) (by simp; omega) _ rfl ?_; intro g3 cap3 w6 hown3 hgrow3 hat3 hlt3; have u0 := (hgrow3.cell_far ⟨w3.heap.size, 0, none⟩ (by simp; omega) (fun e => by have := (HOn.out _ e.symm).1; dsimp only at this; omega)).trans Hr0.out; have uf0 := (hgrow3.frozen_far ⟨w3.heap.size, 0, none⟩ (by simp; omega) (fun e => by have := (HOn.out _ e.symm).1; dsimp only at this; omega)).trans Hrf.out)
   all_goals
    have u1 := (hgrow3.cell_far ⟨w3.heap.size, 1, none⟩ (by simp; omega) (fun e => by have := (HOn.out _ e.symm).1; dsimp only at this; omega)).trans ((HBa.out.cell (p := ⟨w3.heap.size, 1, none⟩) hkz).trans q1)
    have uf1 := (hgrow3.frozen_far ⟨w3.heap.size, 1, none⟩ (by simp; omega) (fun e => by have := (HOn.out _ e.symm).1; dsimp only at this; omega)).trans ((HBa.out.frozen (p := ⟨w3.heap.size, 1, none⟩) hkz).trans f1)
    have hg3 : ¬ g3 = w3.heap.size := by have h3 : w4.heap.size ≤ g3 := (own_lt hown3 rfl).1; omega
    have HRw := hid (RowC.keep (w' := w6.setCell ⟨w3.heap.size, 0, none⟩ (.slice (some ⟨g3, 0, none⟩) (k + 1) cap3)) (HX.out _ _ hown3) (fun b e => by injection e with e; subst e; exact Below.heap_setCell _ _ _ _ hg3))
    have HKw := hid (((HKp.out.trans (KpB.of HBa.out hzr)).trans (KpB.grown hgrow3 (Nat.le_trans hzr HBa.out.size) (fun j e => (HOn.out j e).1))).trans (KpB.set w4.heap.size w3.heap.size 0 w6 (.slice (some ⟨g3, 0, none⟩) (k + 1) cap3)))
    have U0 := hid (World.cell?_setCell_same w6 ⟨w3.heap.size, 0, none⟩ (.slice (some ⟨g3, 0, none⟩) (k + 1) cap3) u0)
    have U1 := hid ((World.cell?_setCell_other w6 ⟨w3.heap.size, 0, none⟩ ⟨w3.heap.size, 1, none⟩ (.slice (some ⟨g3, 0, none⟩) (k + 1) cap3) (by intro e; injection e with _ e; omega)).trans u1)
    clear hown3 hgrow3 hat3
    go_wp2_with fail
    go_roundw
    case rel => exact GInv.mk (k + 1) _ (by omega) (by go_num) HRw.out U0.out U1.out (by rw [World.frozen?_setCell]; exact uf0) (by rw [World.frozen?_setCell]; exact uf1) HKw.out
    case measure => simp [intOf]; omega
  ·
   have hlt2 : ¬ (k : Int) < gs.length := by omega
   obtain rfl : k = gs.length := by omega
   have hln : ((gs.map Gl.name).take gs.length) = gs.map Gl.name := List.take_of_length_le (by simp)
   rw [hln] at HRow
   have k2 := (HKp.out.cell (b := w.heap.size) (o := 2) (by omega) (by omega)).trans HK2.out
   have r0 := (HKp.out.cell (b := w.heap.size + 1) (o := 0) (by omega) (by omega)).trans HR0.out.1
   obtain ⟨gA, gC, rfl, hgc, hown⟩ := HRow.out.own (n := gs.length) (by simp)
   have HOwG := hid hown
   clear hln hown
   obtain ⟨w5, hw5⟩ : ∃ w5, w5 = wr := ⟨_, rfl⟩
   subst hw5
   have HK5 := hid HKp.out
   have HW5 := hid HWr.out
   have h05 : w.heap.size ≤ w5.heap.size := HW5.out.size
   have hb5 : w3.heap.size < w5.heap.size := by omega
   have hw45 : w4.heap.size ≤ w5.heap.size := hzr
   obtain ⟨gv, hgv⟩ : ∃ gv, gv = Value.slice gA gs.length gC := ⟨_, rfl⟩
   rw [← hgv] at q0
   have HGv := hid hgv
   clear hgv
   obtain ⟨rs0, hrs0⟩ : ∃ rs0, rs0 = rs := ⟨_, rfl⟩
   have HRs0 := hid hrs0
   clear hrs0 r0
   go_wp2_with fail
   go_loopw [6] (fun i wr => ∃ (k : Nat) (sv : Value) (l : List UU.Sh), k ≤ rs.length ∧ i = .int .i64 k ∧ l.length = k ∧ l.map pairOf = (envP rs0).take k ∧ ShL wr w5.heap.size sv l ∧ wr.cell? ⟨w3.heap.size, 0, none⟩ = some gv ∧ wr.cell? ⟨w3.heap.size, 1, none⟩ = some sv ∧ wr.frozen? ⟨w3.heap.size, 1, none⟩ = false ∧ KpB w5.heap.size w3.heap.size w5 wr) (fun i _ => rs.length - (intOf i).toNat)
   case atStart => exact ⟨0, .slice none 0 0, [], Nat.zero_le _, rfl, rfl, rfl, ShL.nil _ _, q0, q1, f1, KpB.refl _ _ _⟩
   case round =>
    clear q0 q1 f0 f1 k1 k2 HRow HKp HWr hlt
    obtain ⟨k, sv, l, hk, rfl, hll, hpl, hsl, q0, q1, qf, hkp⟩ := hrel
    have HPl := hid hpl
    have HKp := hid hkp
    have HWr := hid (HW5.out.trans (hkp.below (B := w.heap.size) (by omega) (by omega)))
    have hzr2 := hkp.size
    have k2 := (hkp.cell (b := w.heap.size) (o := 2) (by omega) (by omega)).trans ((HK5.out.cell (b := w.heap.size) (o := 2) (by omega) (by omega)).trans HK2.out)
    have HSr := hid hsl
    clear hpl hkp hsl
    by_cases hlt : k < rs.length
    ·
     have hlt2 : (k : Int) < rs.length := by omega
     obtain ⟨b, o, rfl, hbB, i0', i1, i2⟩ := rc_at (Cs.below HS.out.r HWr.out (Nat.le_refl _)) hlt
     have hv1 := HVs.out _ (List.getElem_mem hlt)
     have HSub := hid (HS.out.rs _ (List.getElem_mem hlt))
     have hrw := HWf.out.rs _ (List.getElem_mem hlt)
     have hrb := HBg.out.rs _ (List.getElem_mem hlt)
     have HT := hid (show (envP rs0).take (k + 1) = (envP rs0).take k ++ [pairS (lastS (rs[k]'hlt))] from by rw [HRs0.out]; exact envP_take hlt)
     generalize rs[k]'hlt = y at i0' i1 i2 HT HSub hv1 hrw hrb
     obtain ⟨rn, va, vcap, vs, ma, mcap, ms⟩ := y
     dsimp only at i0' i1 i2 hv1
     have hlm : lastS ⟨rn, va, vcap, vs, ma, mcap, ms⟩ ∈ vs := lastS_mem hv1.1
     have hsw := hrw.vs _ hlm
     have hsb : (lastS ⟨rn, va, vcap, vs, ma, mcap, ms⟩).fs.length * 16 ≤ 140737488355328 := hrb.vs _ hlm
     have HSs := hid (HSub.out.vs _ hlm)
     obtain ⟨mv, hmv⟩ : ∃ mv, vs.length = mv + 1 := ⟨vs.length - 1, by omega⟩
     have hlv : mv < vs.length := by omega
     obtain ⟨vb, vo, rfl, hvb, t0, t1⟩ := sh_at (Cs.below HSub.out.v HWr.out (Nat.le_refl _)) hlv
     have hvb : vb < w.heap.size := hvb
     have hls : lastS ⟨rn, some ⟨vb, vo, none⟩, vcap, vs, ma, mcap, ms⟩ = vs[mv]'hlv := by
      unfold lastS
      dsimp only
      rw [List.getD_eq_getElem?_getD, hmv, Nat.add_sub_cancel, List.getElem?_eq_getElem hlv]; rfl
     rw [hls] at HT hsw hsb HSs
     clear hls
     generalize (vs[mv]'hlv) = s at HT hsw hsb HSs t0 t1
     obtain ⟨sn, sa, sc, sf⟩ := s
     dsimp only at hsb t0 t1
     have hsn : sn.size ≤ maxLen := hsw.name
     have HCp := hid (show ∀ w', Below w.heap.size w w' → Strs w' w.heap.size sa sf from fun w' hb => strs_row (Cs.below HSs.out hb (Nat.le_refl _)) hsw.fs)
     obtain ⟨nv, hnv⟩ : ∃ nv, nv = vs.length := ⟨_, rfl⟩
     rw [← hnv] at i1 hmv hlv
     have hw1 : IntKind.i64.wrap ((nv : Int) - 1) = (mv : Int) := by rw [wrap_small (by omega) (by omega)]; omega
     have hmn : (mv : Int) < nv := by omega
     clear hnv hmv
     clear hlm hrw hrb
     have hbl : b < wr.heap.size := Nat.lt_of_lt_of_le hbB HWr.out.size
     have hvl : vb < wr.heap.size := Nat.lt_of_lt_of_le hvb HWr.out.size
     go_wp2_with fail
     refine wp_region_invL 17 (fun _ w' => Below wr.heap.size wr w') (fun _ w' w'' => Below w'.heap.size w' w'') (fun i vv w' => match i with
      | 0 => vv = .pointer (some ⟨w.heap.size, 2, none⟩)
      | 1 => vv = .slice (some ⟨b, o, none⟩) rs.length rcap
      | 2 => vv = .int .i64 (k : Int)
      | 3 => vv = .pointer (some ⟨b, o + k * 3, none⟩)
      | 4 => vv = .pointer (some ⟨b, o + k * 3 + 1, none⟩)
      | 5 => vv = .slice (some ⟨vb, vo, none⟩) nv vcap
      | 6 => vv = .pointer (some ⟨w.heap.size, 2, none⟩)
      | 7 => vv = .slice (some ⟨b, o, none⟩) rs.length rcap
      | 8 => vv = .int .i64 (k : Int)
      | 9 => vv = .pointer (some ⟨b, o + k * 3, none⟩)
      | 10 => vv = .pointer (some ⟨b, o + k * 3 + 1, none⟩)
      | 11 => vv = .slice (some ⟨vb, vo, none⟩) nv vcap
      | 12 => vv = .int .i64 (nv : Int)
      | 13 => vv = .int .i64 (mv : Int)
      | 14 => vv = .pointer (some ⟨vb, vo + mv * 2, none⟩)
      | 15 => vv = .agg #[.string sn, .slice sa sf.length sc]
      | 16 => NewS wr.heap.size vv w'
      | _ => True) (by kernel_rfl) (by kernel_rfl) (by kernel_rfl) (Below.refl _ _).drew ?hmono ⟨?o0, ?o1, ?o2, ?o3, ?o4, ?o5, ?o6, ?o7, ?o8, ?o9, ?o10, ?o11, ?o12, ?o13, ?o14, ?o15, ?o16, trivial⟩ ?hend
     case o0 =>
      intro dn a w' _ hS hF K hK
      have h1 := hF.out 1 (by kernel_rfl) rfl
      rw [if_pos (by kernel_rfl)]
      go_simp
      exact hK _ _ _ rfl hS (Below.refl _ _) rfl
     case o1 =>
      intro dn a w' _ hS hF K hK
      obtain ⟨v38, h38, rfl⟩ := hF.va 0 38
      have k2' := cx hS k2
      have i1' := cx hS i1
      have t0' := cx hS t0
      have t1' := cx hS t1
      rw [if_pos (by kernel_rfl)]
      go_simp
      exact hK _ _ _ rfl hS (Below.refl _ _) rfl
     case o2 =>
      intro dn a w' _ hS hF K hK
      have h6 := hF.out 6 (by kernel_rfl) rfl
      rw [if_pos (by kernel_rfl)]
      go_simp
      exact hK _ _ _ rfl hS (Below.refl _ _) rfl
     case o3 =>
      intro dn a w' _ hS hF K hK
      obtain ⟨v39, h39, rfl⟩ := hF.va 1 39
      obtain ⟨v40, h40, rfl⟩ := hF.va 2 40
      rw [if_pos (by kernel_rfl)]
      go_simp
      exact hK _ _ _ rfl hS (Below.refl _ _) rfl
     case o4 =>
      intro dn a w' _ hS hF K hK
      obtain ⟨v41, h41, rfl⟩ := hF.va 3 41
      rw [if_pos (by kernel_rfl)]
      go_simp
      exact hK _ _ _ rfl hS (Below.refl _ _) rfl
     case o5 =>
      intro dn a w' _ hS hF K hK
      obtain ⟨v42, h42, rfl⟩ := hF.va 4 42
      have k2' := cx hS k2
      have i1' := cx hS i1
      have t0' := cx hS t0
      have t1' := cx hS t1
      rw [if_pos (by kernel_rfl)]
      go_simp
      exact hK _ _ _ rfl hS (Below.refl _ _) rfl
     case o6 =>
      intro dn a w' _ hS hF K hK
      have h1 := hF.out 1 (by kernel_rfl) rfl
      rw [if_pos (by kernel_rfl)]
      go_simp
      exact hK _ _ _ rfl hS (Below.refl _ _) rfl
     case o7 =>
      intro dn a w' _ hS hF K hK
      obtain ⟨v44, h44, rfl⟩ := hF.va 6 44
      have k2' := cx hS k2
      have i1' := cx hS i1
      have t0' := cx hS t0
      have t1' := cx hS t1
      rw [if_pos (by kernel_rfl)]
      go_simp
      exact hK _ _ _ rfl hS (Below.refl _ _) rfl
     case o8 =>
      intro dn a w' _ hS hF K hK
      have h6 := hF.out 6 (by kernel_rfl) rfl
      rw [if_pos (by kernel_rfl)]
      go_simp
      exact hK _ _ _ rfl hS (Below.refl _ _) rfl
     case o9 =>
      intro dn a w' _ hS hF K hK
      obtain ⟨v45, h45, rfl⟩ := hF.va 7 45
      obtain ⟨v46, h46, rfl⟩ := hF.va 8 46
      rw [if_pos (by kernel_rfl)]
      go_simp
      exact hK _ _ _ rfl hS (Below.refl _ _) rfl
     case o10 =>
      intro dn a w' _ hS hF K hK
      obtain ⟨v47, h47, rfl⟩ := hF.va 9 47
      rw [if_pos (by kernel_rfl)]
      go_simp
      exact hK _ _ _ rfl hS (Below.refl _ _) rfl
     case o11 =>
      intro dn a w' _ hS hF K hK
      obtain ⟨v48, h48, rfl⟩ := hF.va 10 48
      have k2' := cx hS k2
      have i1' := cx hS i1
      have t0' := cx hS t0
      have t1' := cx hS t1
      rw [if_pos (by kernel_rfl)]
      go_simp
      exact hK _ _ _ rfl hS (Below.refl _ _) rfl
     case o12 =>
      intro dn a w' _ hS hF K hK
      obtain ⟨v49, h49, rfl⟩ := hF.va 11 49
      rw [if_pos (by kernel_rfl)]
      go_simp
      exact hK _ _ _ rfl hS (Below.refl _ _) rfl
     case o13 =>
      intro dn a w' _ hS hF K hK
      obtain ⟨v50, h50, rfl⟩ := hF.va 12 50
      rw [if_pos (by kernel_rfl)]
      go_simp
      exact hK _ _ _ rfl hS (Below.refl _ _) rfl
     case o14 =>
      intro dn a w' _ hS hF K hK
      obtain ⟨v43, h43, rfl⟩ := hF.va 5 43
      obtain ⟨v51, h51, rfl⟩ := hF.va 13 51
      rw [if_pos (by kernel_rfl)]
      go_simp
      exact hK _ _ _ rfl hS (Below.refl _ _) rfl
     case o15 =>
      intro dn a w' _ hS hF K hK
      obtain ⟨v52, h52, rfl⟩ := hF.va 14 52
      have k2' := cx hS k2
      have i1' := cx hS i1
      have t0' := cx hS t0
      have t1' := cx hS t1
      rw [if_pos (by kernel_rfl)]
      go_simp
      exact hK _ _ _ rfl hS (Below.refl _ _) rfl
     case o16 =>
      intro dn a w' _ hS hF K hK
      rw [if_pos (by kernel_rfl)]
      go_simp
      exact hK _ _ _ rfl (hS.alloc hS.size _) ((Below.refl _ _).alloc (Nat.le_refl _) _) ⟨_, rfl, hS.size, heap_alloc_new w' _⟩
     case hmono =>
      intro i j v w1 w2 _ _ hne hwt _ hv hR
      rcases i with _ | _ | _ | _ | _ | _ | _ | _ | _ | _ | _ | _ | _ | _ | _ | _ | _ | i
      all_goals first | exact hv | exact NewS.below hv hR
     case hend =>
      intro dn w7 vs_ _ hS hv
      have hP15 : vs_ 15 = .agg #[.string sn, .slice sa sf.length sc] := hv 15 (by decide)
      have hP16 : NewS wr.heap.size (vs_ 16) w7 := hv 16 (by decide)
      clear hv
      simp only [putsL, List.take_succ_cons, List.take_zero, Nat.reduceAdd, Act.put, List.setIfInBounds_toArray, List.set_cons_zero, List.set_cons_succ]
      generalize vs_ 15 = vC at hP15 ⊢
      generalize vs_ 16 = vD at hP16 ⊢
      change wpOps _ _ _ [17] _ _
      subst hP15
      obtain ⟨g7, rfl, hg7, hgb⟩ := hP16
      have hbq := hS
      have y0 : w7.cell? ⟨g7, 0, none⟩ = some (.string ⟨#[]⟩) := by simp [World.cell?, hgb]
      have y1 : w7.cell? ⟨g7, 1, none⟩ = some (.slice none 0 0) := by simp [World.cell?, hgb]
      have z0 : w7.frozen? ⟨g7, 0, none⟩ = false := by simp [World.frozen?, hgb]
      have z1 : w7.frozen? ⟨g7, 1, none⟩ = false := by simp [World.frozen?, hgb]
      have hgg := Nat.le_trans hbq.size (Nat.le_refl w7.heap.size)
      obtain ⟨wg, hwg⟩ : ∃ wg, wg = (w7.setCell ⟨g7, 0, none⟩ (.string sn)).setCell ⟨g7, 1, none⟩ (.slice sa sf.length sc) := ⟨_, rfl⟩
      have hbg : Below wr.heap.size wr wg := by rw [hwg]; exact (hbq.setCell (p := ⟨g7, 0, none⟩) hg7 _).setCell (p := ⟨g7, 1, none⟩) hg7 _
      have hg7l : g7 < wg.heap.size := by rw [hwg]; simp; exact (Array.getElem?_eq_some_iff.1 hgb).1
      have hxx : wg.cell? ⟨g7, 0, none⟩ = some (.string sn) ∧ wg.cell? ⟨g7, 1, none⟩ = some (.slice sa sf.length sc) := by
       rw [hwg]
       exact ⟨(World.cell?_setCell_other _ _ _ _ (by intro x; injection x with _ x; omega)).trans (World.cell?_setCell_same _ _ _ y0), World.cell?_setCell_same _ _ _ ((World.cell?_setCell_other _ _ _ _ (by intro x; injection x with _ x; omega)).trans y1)⟩
      obtain ⟨x0, x1⟩ := hxx
      have q0 := (hbg.cell (p := ⟨w3.heap.size, 0, none⟩) (by dsimp only; omega)).trans q0
      have q1 := (hbg.cell (p := ⟨w3.heap.size, 1, none⟩) (by dsimp only; omega)).trans q1
      have qf := (hbg.frozen (p := ⟨w3.heap.size, 1, none⟩) (by dsimp only; omega)).trans qf
      have HOw := hid (show ∀ g, sv.ownBlock = some g → w5.heap.size ≤ g ∧ g < wg.heap.size from fun g e => ⟨(HSr.out.own_lt e).1, Nat.lt_of_lt_of_le (HSr.out.own_lt e).2 hbg.size⟩)
      have HNe := hid (show ∀ c, (c < w5.heap.size ∨ wr.heap.size ≤ c) → some c ≠ sv.ownBlock from fun c hc e => by have h1 := HSr.out.own_lt e.symm; omega)
      have HSl := hid (HSr.out.keep hbg.size (fun b _ hb => hbg.block b hb))
      have hzw : wr.heap.size ≤ wg.heap.size := hbg.size
      have hzg : w5.heap.size ≤ wg.heap.size := Nat.le_trans hzr2 hzw
      have HKg := hid (HKp.out.trans (KpB.of hbg hzr2))
      have HWg := hid (HWr.out.trans (hbg.mono HWr.out.size))
      have Hg := hid hwg
      clear hwg hbg hbq hgb i0' i1 i2 t0 t1
      refine wpOps_step rfl rfl (fun K hK => ?_)
      go_simp
      refine hK _ _ ?_
      clear hK
      simp only [wpOps]
      rw [← Hg.out]
      clear y0 y1 z0 z1
      go_wp2_with fail
      refine wp_region_invL 12 (fun dn w' => wg.grownBy w' sv.ownBlock ∧ (dn 10 = false → Below wg.heap.size wg w')) (fun i w' w'' => match i with | 10 => w'.grownBy w'' sv.ownBlock | _ => Below w'.heap.size w' w'') (fun i vv w' => match i with
       | 0 => vv = .pointer (some ⟨w3.heap.size, 1, none⟩)
       | 1 => vv = sv
       | 2 => vv = .pointer (some ⟨g7, 0, none⟩)
       | 3 => vv = .string sn
       | 4 => vv = .pointer (some ⟨g7, 1, none⟩)
       | 5 => vv = .slice sa sf.length sc
       | 6 => ∃ b, vv = .slice (some ⟨b, 0, none⟩) 1 1 ∧ wg.heap.size ≤ b ∧ w'.heap[b]? = some (.cells #[.slice sa sf.length sc] 33 (0, 0))
       | 7 => ∃ a' c', vv = .slice a' sf.length c' ∧ (sf.length ≤ c' ∧ sf.length ≤ maxLen) ∧ StrsS w' (fun b => wg.heap.size ≤ b ∧ b < w'.heap.size) a' sf
       | 8 => ∃ a' c', vv = .agg #[.string sn, .slice a' sf.length c'] ∧ (sf.length ≤ c' ∧ sf.length ≤ maxLen) ∧ StrsS w' (fun b => wg.heap.size ≤ b ∧ b < w'.heap.size) a' sf
       | 9 => ∃ b a' c', vv = .slice (some ⟨b, 0, none⟩) 1 1 ∧ wg.heap.size ≤ b ∧ w'.heap[b]? = some (.cells #[.string sn, .slice a' sf.length c'] 65 (0, 0)) ∧ (sf.length ≤ c' ∧ sf.length ≤ maxLen) ∧ StrsS w' (fun b => wg.heap.size ≤ b ∧ b < w'.heap.size) a' sf
       | 10 => ∃ g c2 s2, vv = .slice (some ⟨g, 0, none⟩) (l.length + 1) c2 ∧ ShL w' w5.heap.size vv (l ++ [s2]) ∧ pairOf s2 = (sn, sf)
       | 11 => vv = .pointer (some ⟨w3.heap.size, 1, none⟩)
       | _ => True) (by kernel_rfl) (by kernel_rfl) (by kernel_rfl) ⟨⟨rfl, rfl, rfl, Nat.le_refl _, fun _ _ _ => rfl⟩, fun _ => (Below.refl _ _).drew⟩ ?hmono ⟨?o0, ?o1, ?o2, ?o3, ?o4, ?o5, ?o6, ?o7, ?o8, ?o9, ?o10, ?o11, trivial⟩ ?hend
      case o0 =>
       intro dn a w' hdn hS hF K hK
       have h4 := hF.out 4 (by kernel_rfl) rfl
       rw [if_pos (by kernel_rfl)]
       go_simp
       exact hK _ _ _ rfl ⟨hS.1, fun h => hS.2 (by simpa [upd] using h)⟩ (Below.refl _ _) rfl
      case o1 =>
       intro dn a w' hdn hS hF K hK
       obtain ⟨v54, h54, rfl⟩ := hF.va 0 54
       have q0' := hS.1.cell q0 (HNe.out _ (by dsimp only; omega))
       have q1' := hS.1.cell q1 (HNe.out _ (by dsimp only; omega))
       have x0' := hS.1.cell x0 (HNe.out _ (by dsimp only; omega))
       have x1' := hS.1.cell x1 (HNe.out _ (by dsimp only; omega))
       rw [if_pos (by kernel_rfl)]
       go_simp
       exact hK _ _ _ rfl ⟨hS.1, fun h => hS.2 (by simpa [upd] using h)⟩ (Below.refl _ _) rfl
      case o2 =>
       intro dn a w' hdn hS hF K hK
       have h7 := hF.out 7 (by kernel_rfl) rfl
       rw [if_pos (by kernel_rfl)]
       go_simp
       exact hK _ _ _ rfl ⟨hS.1, fun h => hS.2 (by simpa [upd] using h)⟩ (Below.refl _ _) rfl
      case o3 =>
       intro dn a w' hdn hS hF K hK
       obtain ⟨v56, h56, rfl⟩ := hF.va 2 56
       have q0' := hS.1.cell q0 (HNe.out _ (by dsimp only; omega))
       have q1' := hS.1.cell q1 (HNe.out _ (by dsimp only; omega))
       have x0' := hS.1.cell x0 (HNe.out _ (by dsimp only; omega))
       have x1' := hS.1.cell x1 (HNe.out _ (by dsimp only; omega))
       rw [if_pos (by kernel_rfl)]
       go_simp
       exact hK _ _ _ rfl ⟨hS.1, fun h => hS.2 (by simpa [upd] using h)⟩ (Below.refl _ _) rfl
      case o4 =>
       intro dn a w' hdn hS hF K hK
       have h7 := hF.out 7 (by kernel_rfl) rfl
       rw [if_pos (by kernel_rfl)]
       go_simp
       exact hK _ _ _ rfl ⟨hS.1, fun h => hS.2 (by simpa [upd] using h)⟩ (Below.refl _ _) rfl
      case o5 =>
       intro dn a w' hdn hS hF K hK
       obtain ⟨v58, h58, rfl⟩ := hF.va 4 58
       have q0' := hS.1.cell q0 (HNe.out _ (by dsimp only; omega))
       have q1' := hS.1.cell q1 (HNe.out _ (by dsimp only; omega))
       have x0' := hS.1.cell x0 (HNe.out _ (by dsimp only; omega))
       have x1' := hS.1.cell x1 (HNe.out _ (by dsimp only; omega))
       rw [if_pos (by kernel_rfl)]
       go_simp
       exact hK _ _ _ rfl ⟨hS.1, fun h => hS.2 (by simpa [upd] using h)⟩ (Below.refl _ _) rfl
      case o6 =>
       intro dn a w' hdn hS hF K hK
       obtain ⟨v59, h59, rfl⟩ := hF.va 5 59
       rw [if_pos (by kernel_rfl)]
       have hb := (Below.refl w'.heap.size w').alloc (Nat.le_refl _) (.cells #[.slice sa sf.length sc] 33)
       have hzz := hS.1.size
       have hnw := heap_alloc_new w' (.cells #[.slice sa sf.length sc] 33)
       go_simp
       exact hK _ _ _ rfl ⟨gb_trans hS.1 (gb_below hb), fun h => (hS.2 (by simpa [upd] using h)).trans (hb.mono hS.1.size)⟩ hb ⟨_, rfl, hzz, hnw⟩
      case o7 =>
       intro dn a w' hdn hS hF K hK
       obtain ⟨v60, h60, hv60⟩ := hF.va 6 60
       rw [if_pos (by kernel_rfl)]
       obtain ⟨b6, rfl, hb1, hb2⟩ := hv60
       have hb3 : w'.cell? ⟨b6, 0, none⟩ = some (.slice sa sf.length sc) := by simp [World.cell?, hb2]
       have hb4 := (Array.getElem?_eq_some_iff.1 hb2).1
       go_simp
       have hbw := HWg.out.grown hS.1 HWg.out.size (fun k e => Nat.le_trans h05 (HOw.out k e).1)
       refine (texts_any w.heap.size sa sf sf.length sc b6 w' (HCp.out w' hbw) hbw.size rfl hsb hb4 hb3).mono ?_
       rintro e w'' ⟨a', c', rfl, h1, h2, h3, hb⟩
       exact hK _ _ _ rfl ⟨gb_trans hS.1 (gb_below hb), fun h => (hS.2 (by simpa [upd] using h)).trans (hb.mono hS.1.size)⟩ hb ⟨a', c', rfl, ⟨h1, h2⟩, h3.keep fun b hb' => ⟨rfl, Nat.le_trans hS.1.size hb'.1, hb'.2⟩⟩
      case o8 =>
       intro dn a w' hdn hS hF K hK
       obtain ⟨v57, h57, rfl⟩ := hF.va 3 57
       obtain ⟨v61, h61, hv61⟩ := hF.va 7 61
       rw [if_pos (by kernel_rfl)]
       obtain ⟨a', c', rfl, h1, h2⟩ := hv61
       go_simp
       exact hK _ _ _ rfl ⟨hS.1, fun h => hS.2 (by simpa [upd] using h)⟩ (Below.refl _ _) ⟨a', c', rfl, h1, h2⟩
      case o9 =>
       intro dn a w' hdn hS hF K hK
       obtain ⟨v62, h62, hv62⟩ := hF.va 8 62
       rw [if_pos (by kernel_rfl)]
       obtain ⟨a', c', rfl, hc, hst⟩ := hv62
       have hb := (Below.refl w'.heap.size w').alloc (Nat.le_refl _) (.cells #[.string sn, .slice a' sf.length c'] 65)
       have hzz := hS.1.size
       have hnw := heap_alloc_new w' (.cells #[.string sn, .slice a' sf.length c'] 65)
       go_simp
       exact hK _ _ _ rfl ⟨gb_trans hS.1 (gb_below hb), fun h => (hS.2 (by simpa [upd] using h)).trans (hb.mono hS.1.size)⟩ hb ⟨_, a', c', rfl, hzz, hnw, hc, strsS_gb hst (r := none) (gb_below hb) (fun g e => by cases e)⟩
      case o10 =>
       intro dn a w' hdn hS hF K hK
       obtain ⟨v55, h55, e55⟩ := hF.va 1 55
       rw [e55] at h55
       obtain ⟨v63, h63, hv63⟩ := hF.va 9 63
       rw [if_pos (by kernel_rfl)]
       obtain ⟨b, a', c', rfl, hb1, hb2, ⟨hc1, hc2⟩, hst⟩ := hv63
       obtain ⟨cells, ho, hi⟩ := HSl.out.keep (w' := w') hS.1.size (fun b _ hb => (hS.2 (hdn _ (Or.inl rfl))).block b hb)
       have hzz := hS.1.size
       have hln := hll
       refine wp_append_lies (P := Tryz.prog) w' (.tmp 55) (.tmp 63) 34 rfl w5.heap.size 65 j0 (.agg #[.string ⟨#[]⟩, .slice none 0 0]) 2 40 Tryz.underlying34 HJ.out HY0.out HY1.out HY2.out rfl (by decide) sv l.length cells (by simp [Act.eval, h55]) ho ⟨b, 0, none⟩ 1 1 [.string sn, .slice a' sf.length c'] (by simp [Act.eval, h63]) rfl (World.news_of_block hb2) (by simp [Value.oneCell']) (by decide) (by unfold maxLen; omega) (by omega) (by omega) _ rfl ?_
       intro g c2 w'' hr hg ha _
       exact hK _ _ _ rfl ⟨gb_trans hS.1 hg, fun h => by simp [upd] at h⟩ hg ⟨g, c2, ⟨sn, a', sf, c'⟩, rfl, ShL.append hi ho.1 ⟨hsn, hc1, hc2⟩ hst (by omega) (fun k e => (HOw.out k e).2) hr hg ha rfl, rfl⟩
      case o11 =>
       intro dn a w' hdn hS hF K hK
       have h4 := hF.out 4 (by kernel_rfl) rfl
       rw [if_pos (by kernel_rfl)]
       go_simp
       exact hK _ _ _ rfl ⟨hS.1, fun h => hS.2 (by simpa [upd] using h)⟩ (Below.refl _ _) rfl
      case hmono =>
       intro i j v w1 w2 hi hj hne hwt hS hv hR
       have hg : w1.grownBy w2 sv.ownBlock := by
        rcases j with _ | _ | _ | _ | _ | _ | _ | _ | _ | _ | _ | _ | j
        all_goals first | exact gb_below hR | exact hR
       rcases i with _ | _ | _ | _ | _ | _ | _ | _ | _ | _ | _ | _ | i
       ·
        exact hv
       ·
        exact hv
       ·
        exact hv
       ·
        exact hv
       ·
        exact hv
       ·
        exact hv
       ·
        obtain ⟨b, e, h1, h2⟩ := hv
        exact ⟨b, e, h1, (hg.block b (Array.getElem?_eq_some_iff.1 h2).1 (HNe.out _ (Or.inr (by omega)))).trans h2⟩
       ·
        obtain ⟨a', c', e, h1, h2⟩ := hv
        exact ⟨a', c', e, h1, strsS_gb h2 hg (fun g e => (HOw.out g e).2)⟩
       ·
        obtain ⟨a', c', e, h1, h2⟩ := hv
        exact ⟨a', c', e, h1, strsS_gb h2 hg (fun g e => (HOw.out g e).2)⟩
       ·
        obtain ⟨b, a', c', e, h1, h2, h3, h4⟩ := hv
        exact ⟨b, a', c', e, h1, (hg.block b (Array.getElem?_eq_some_iff.1 h2).1 (HNe.out _ (Or.inr (by omega)))).trans h2, h3, strsS_gb h4 hg (fun g e => (HOw.out g e).2)⟩
       ·
        rcases j with _ | _ | _ | _ | _ | _ | _ | _ | _ | _ | _ | _ | j
        all_goals first
         | exact absurd rfl hne
         | (obtain ⟨g, c2, s2, e, h1, h2⟩ := hv; exact ⟨g, c2, s2, e, h1.keep hR.size (fun b _ hb => hR.block b hb), h2⟩)
       ·
        exact hv
       ·
        omega
      case hend =>
       intro dn wp vs_ hdn hS hv
       have e0 : vs_ 11 = .pointer (some ⟨w3.heap.size, 1, none⟩) := hv 11 (by decide)
       obtain ⟨g, c2, s2, eA, hrow, hps⟩ := hv 10 (by decide)
       clear hv
       rw [eA] at hrow
       rw [hll] at eA hrow
       have u0 := hS.1.cell q0 (HNe.out _ (Or.inl (by dsimp only; omega)))
       have u1 := hS.1.cell q1 (HNe.out _ (Or.inl (by dsimp only; omega)))
       have uf := (World.frozen?_of_block (a := ⟨w3.heap.size, 1, none⟩) (hS.1.block w3.heap.size (by omega) (HNe.out _ (Or.inl (by omega))))).trans qf
       obtain ⟨wz, hwz⟩ : ∃ wz, wz = wp.setCell ⟨w3.heap.size, 1, none⟩ (.slice (some ⟨g, 0, none⟩) (k + 1) c2) := ⟨_, rfl⟩
       have HKz := hid (show KpB w5.heap.size w3.heap.size w5 wz from by rw [hwz]; exact ((HKg.out.trans (KpB.grown hS.1 hzg (fun k e => (HOw.out k e).1))).trans (KpB.set _ _ _ _ _)))
       have HLz := hid (show ShL wz w5.heap.size (.slice (some ⟨g, 0, none⟩) (k + 1) c2) (l ++ [s2]) from by rw [hwz]; exact hrow.keep (by simp) (fun b hb _ => Below.heap_setCell _ _ _ _ (by dsimp only; omega)))
       have U1 := hid (show wz.cell? ⟨w3.heap.size, 1, none⟩ = some (.slice (some ⟨g, 0, none⟩) (k + 1) c2) from by rw [hwz]; exact World.cell?_setCell_same _ _ _ u1)
       have U0 := hid (show wz.cell? ⟨w3.heap.size, 0, none⟩ = some gv from by rw [hwz]; exact (World.cell?_setCell_other _ _ _ _ (by intro x; injection x with _ x; omega)).trans u0)
       have UF := hid (show wz.frozen? ⟨w3.heap.size, 1, none⟩ = false from by rw [hwz, World.frozen?_setCell]; exact uf)
       have HP := hid (show (l ++ [s2]).map pairOf = (envP rs0).take (k + 1) from by simp only [List.map_append, List.map_cons, List.map_nil]; rw [HT.out, hps, HPl.out]; rfl)
       have Hz := hid hwz
       clear hwz hrow hps
       simp only [putsL, List.take_succ_cons, List.take_zero, Nat.reduceAdd, Act.put, List.setIfInBounds_toArray, List.set_cons_zero, List.set_cons_succ, e0, eA]
       change wpOps _ _ _ [12] _ _
       refine wpOps_step rfl rfl (fun K hK => ?_)
       go_simp
       refine hK _ _ ?_
       clear hK
       simp only [wpOps]
       rw [← Hz.out]
       go_wp2_with fail
       go_roundw
       case rel => exact ⟨k + 1, _, l ++ [s2], by omega, by go_num, by simp [hll], HP.out, HLz.out, U0.out, U1.out, UF.out, HKz.out⟩
       case measure => simp [intOf]; omega
    ·
     have hlt2 : ¬ (k : Int) < rs.length := by omega
     obtain rfl : k = rs.length := by omega
     have HP := hid (show l.map pairOf = envP rs from by rw [HPl.out, HRs0.out]; exact List.take_of_length_le (by rw [envP_len]; exact Nat.le_refl _))
     obtain ⟨sA, sC, rfl, _, _, _⟩ := HSr.out.shs
     rw [hll] at q1
     have HGr : Hid (RowC strC 9 1 wr w4.heap.size (.slice gA gs.length gC) (gs.map Gl.name)) := hid (by
      refine (show RowC strC 9 1 w5 w4.heap.size (.slice gA gs.length gC) (gs.map Gl.name) from ?_).keep (fun b e => HKp.out.block b (own_lt HOwG.out e).2 (by have := (own_lt HOwG.out e).1; omega))
      have h := HOwG.out
      unfold RowC
      rw [show (gs.map Gl.name).length = gs.length by simp]
      exact h)
     have r0 := (HKp.out.cell (b := w.heap.size + 1) (o := 0) (by omega) (by omega)).trans ((HK5.out.cell (b := w.heap.size + 1) (o := 0) (by omega) (by omega)).trans HR0.out.1)
     have r1 := (HKp.out.cell (b := w.heap.size + 1) (o := 1) (by omega) (by omega)).trans ((HK5.out.cell (b := w.heap.size + 1) (o := 1) (by omega) (by omega)).trans HR0.out.2.1)
     have g0 := (World.frozen?_of_block (a := ⟨w.heap.size + 1, 0, none⟩) ((HKp.out.block (w.heap.size + 1) (by omega) (by omega)).trans (HK5.out.block (w.heap.size + 1) (by omega) (by omega)))).trans HR0.out.2.2.1
     have g1 := (World.frozen?_of_block (a := ⟨w.heap.size + 1, 1, none⟩) ((HKp.out.block (w.heap.size + 1) (by omega) (by omega)).trans (HK5.out.block (w.heap.size + 1) (by omega) (by omega)))).trans HR0.out.2.2.2
     rw [HGv.out] at q0
     obtain ⟨wz, hwz⟩ : ∃ wz, wz = (wr.setCell ⟨w.heap.size + 1, 0, none⟩ (.slice gA gs.length gC)).setCell ⟨w.heap.size + 1, 1, none⟩ (.slice sA rs.length sC) := ⟨_, rfl⟩
     have hzs : wz.heap.size = wr.heap.size := by rw [hwz]; simp
     have HBz := hid (show Below w.heap.size w wz from by rw [hwz]; exact (HWr.out.setCell (p := ⟨w.heap.size + 1, 0, none⟩) (by dsimp only; omega) _).setCell (p := ⟨w.heap.size + 1, 1, none⟩) (by dsimp only; omega) _)
     have hzb : ∀ b, ¬ b = w.heap.size + 1 → wz.heap[b]? = wr.heap[b]? := fun b hb => by rw [hwz, Below.heap_setCell _ _ _ _ hb, Below.heap_setCell _ _ _ _ hb]
     have hst := strs_row ((HGr.out.keep (w' := wz) (fun b e => hzb b (by have := (HGr.out.lt e).1; omega))).cs strC_len) (fun s hs => by obtain ⟨y, hy, rfl⟩ := List.mem_map.1 hs; exact (HWf.out.gs y hy).name)
     obtain ⟨sA2, sC2, esv, _, _, hshs⟩ := (HSr.out.keep (w' := wz) (by omega) (fun b hb _ => hzb b (by omega))).shs
     injection esv with e1 e2 e3
     subst e1 e3
     have HEv := hid (show EnvV gs rs wz (.agg #[.slice gA gs.length gC, .slice sA rs.length sC]) from ⟨gA, gC, sA, sC, l, rfl, hst, hll, HP.out, hshs⟩)
     have Hz := hid hwz
     clear hwz hzs hzb hshs hst hlt
     go_wp2_with fail
     refine bodyPost_ret (v := .tuple #[.agg #[.slice gA gs.length gC, .slice sA rs.length sC], .int .i64 0]) (by simp [results, Tryz.results8, go_sem, r0, r1]) rfl ?_
     rw [← Hz.out]
     exact ⟨Or.inl ⟨_, rfl, HC.out, HEv.out⟩, HBz.out⟩
/-- A world's environment: the document's EnvOf. -/
theorem envOf_any (x : Wv) (lim : Int) (w : World) (hS : subW w (fun b => b < w.heap.size) x) (hb : bigW x) (hw : wfW x) :
  Calls Tryz.prog 8 #[.agg #[.slice x.fa x.fs.length x.fcap, .slice x.ga x.gs.length x.gcap, .slice x.ra x.rs.length x.rcap, .slice x.ha x.hs.length x.hcap, .int .i64 lim]] w fun e w' => OfR x lim e w' ∧ Below w.heap.size w w' := by
 obtain ⟨fa, fcap, fs, ga, gcap, gs, ra, rcap, rs, ha, hcap, hs⟩ := x
 exact envOf_aux fa ga ra ha fcap gcap rcap hcap fs gs rs hs lim w hS hb hw
end Go.Proofs.YtldmanfgmadbfaaGreatDoor
namespace Go.Proofs.YtldmanfgmadbfaaGreatDoor
set_option maxRecDepth 100000
open HH UU VV
open Go.RowKit Go.Maps Go.WideMaps
/-- An environment's parts. -/
structure Parts (w : World) (v : Value) (a1 a2 : Option Addr) (n1 c1 n2 c2 : Nat) (ss : List ByteArray) (l : List UU.Sh) : Prop where
  eq : v = .agg #[.slice a1 n1 c1, .slice a2 n2 c2]
  hs : Strs w w.heap.size a1 ss
  len1 : n1 = ss.length
  hl : Shs w w.heap.size a2 l
  len2 : n2 = l.length
  max1 : n1 ≤ 9223372036854775807
  max2 : n2 ≤ 9223372036854775807
theorem parts_nil (w : World) : Parts w (.agg #[.slice none 0 0, .slice none 0 0]) none none 0 0 0 0 [] [] := ⟨rfl, fun i h => absurd h (by simp), rfl, fun i h => absurd h (by simp), rfl, by decide, by decide⟩
theorem parts_env {gs : List Gl} {rs : List Rc} {w : World} {v : Value} (h : EnvV gs rs w v) (hg : gs.length ≤ 9223372036854775807) (hr : rs.length ≤ 9223372036854775807) :
    ∃ a1 a2 c1 c2 l, Parts w v a1 a2 gs.length c1 rs.length c2 (gs.map Gl.name) l ∧ l.map pairOf = envP rs := by
  obtain ⟨a1, c1, a2, c2, l, h1, h2, h3, h4, h5⟩ := h
  exact ⟨a1, a2, c1, c2, l, ⟨h1, h2, by simp, h5, h3.symm, hg, hr⟩, h4⟩
theorem both_same {x : Wv} {lim : Int} {e e' : Ending} {w w' : World} (h : EnvR x lim e w) (h' : OfR x lim e' w') (hg : x.gs.length ≤ 9223372036854775807) (hr : x.rs.length ≤ 9223372036854775807) :
    ∃ c v v' a1 a2 n1 c1 n2 c2 ss l b1 b2 d1 d2 l', e = .returned (.tuple #[v, .int .i64 c]) ∧ e' = .returned (.tuple #[v', .int .i64 c]) ∧ Parts w v a1 a2 n1 c1 n2 c2 ss l ∧ Parts w' v' b1 b2 n1 d1 n2 d2 ss l' ∧ l.map pairOf = l'.map pairOf := by
  rcases h with ⟨v, rfl, hc, hv⟩ | ⟨rfl, hc⟩
  · rcases h' with ⟨v', rfl, hd, hv'⟩ | ⟨rfl, hd⟩
    · obtain ⟨a1, a2, c1, c2, l, hp, e1⟩ := parts_env hv hg hr
      obtain ⟨b1, b2, d1, d2, l', hp', e2⟩ := parts_env hv' hg hr
      exact ⟨0, v, v', a1, a2, _, c1, _, c2, _, l, b1, b2, d1, d2, l', rfl, rfl, hp, hp', e1.trans e2.symm⟩
    · rcases agree hc hd with ⟨_, q⟩ | ⟨q, _⟩
      · injection q with q; injection q with q; cases q
      · injection q with q; injection q with _ q; cases q
  · rcases h' with ⟨v', rfl, hd, hv'⟩ | ⟨rfl, hd⟩
    · rcases agree hc hd with ⟨q, _⟩ | ⟨_, q⟩
      · injection q with q; injection q with _ q; cases q
      · injection q with q; injection q with q; cases q
    · exact ⟨9, _, _, none, none, 0, 0, 0, 0, [], [], none, none, 0, 0, [], rfl, rfl, parts_nil w, parts_nil w', rfl⟩
theorem env_is {x : Wv} {lim : Int} {e : Ending} {w : World} (h : EnvR x lim e w) : ∃ a1 n1 c1 a2 n2 c2 c, e = .returned (.tuple #[.agg #[.slice a1 n1 c1, .slice a2 n2 c2], .int .i64 c]) := by
  rcases h with ⟨v, rfl, _, a1, c1, a2, c2, l, rfl, _⟩ | ⟨rfl, _⟩
  · exact ⟨_, _, _, _, _, _, _, rfl⟩
  · exact ⟨_, _, _, _, _, _, _, rfl⟩
theorem of_is {x : Wv} {lim : Int} {e : Ending} {w : World} (h : OfR x lim e w) : ∃ a1 n1 c1 a2 n2 c2 c, e = .returned (.tuple #[.agg #[.slice a1 n1 c1, .slice a2 n2 c2], .int .i64 c]) := by
  rcases h with ⟨v, rfl, _, a1, c1, a2, c2, l, rfl, _⟩ | ⟨rfl, _⟩
  · exact ⟨_, _, _, _, _, _, _, rfl⟩
  · exact ⟨_, _, _, _, _, _, _, rfl⟩
set_option maxHeartbeats 4000000 in
theorem graftEnvs_walk (x : Wv) (lim : Int) (w : World) (hS : subW w (fun b => b < w.heap.size) x) (hb : bigW x) (hw : wfW x) (hE : EffAt w) :
    Calls Tryz.prog 4 #[.agg #[.slice x.fa x.fs.length x.fcap, .slice x.ga x.gs.length x.gcap, .slice x.ra x.rs.length x.rcap, .slice x.ha x.hs.length x.hcap, .int .i64 lim]] w fun e w' => e = .returned (.bool true) ∧ Below w.heap.size w w' := by
  have hgl : x.gs.length ≤ 9223372036854775807 := by have : x.gs.length * 48 ≤ 140737488355328 := hb.g; omega
  have hrl : x.rs.length ≤ 9223372036854775807 := by have : x.rs.length * 64 ≤ 140737488355328 := hb.r; omega
  obtain ⟨w2, hw2⟩ : ∃ w2, w2 = w.alloc (.cells #[.slice x.fa x.fs.length x.fcap, .slice x.ga x.gs.length x.gcap, .slice x.ra x.rs.length x.rcap, .slice x.ha x.hs.length x.hcap, .int .i64 lim] 29) := ⟨_, rfl⟩
  have HB2 := hid (show Below w.heap.size w w2 by rw [hw2]; exact (Below.refl _ _).alloc (Nat.le_refl _) _)
  have hz2 : w2.heap.size = w.heap.size + 1 := by rw [hw2]; simp
  have k0 : w2.cell? ⟨w.heap.size, 0, none⟩ = some (.slice x.fa x.fs.length x.fcap) ∧ w2.cell? ⟨w.heap.size, 1, none⟩ = some (.slice x.ga x.gs.length x.gcap) ∧ w2.cell? ⟨w.heap.size, 2, none⟩ = some (.slice x.ra x.rs.length x.rcap) ∧ w2.cell? ⟨w.heap.size, 3, none⟩ = some (.slice x.ha x.hs.length x.hcap) ∧ w2.cell? ⟨w.heap.size, 4, none⟩ = some (.int .i64 lim) := by
    rw [hw2]; refine ⟨?_, ?_, ?_, ?_, ?_⟩ <;> go_simp
  have K0 := hid k0
  have hcall := env_any x lim w2 (subW_keep hS (fun b hb' => HB2.out.block b hb') (fun _ hb' => Nat.lt_of_lt_of_le hb' HB2.out.size)) hb hw (hE.below HB2.out hE.lt)
  have HD := hid (fun w' (hb' : Below w.heap.size w w') => envOf_any x lim w' (subW_keep hS (fun b h => hb'.block b h) (fun _ h => Nat.lt_of_lt_of_le h hb'.size)) hb hw)
  have HGl := hid hgl
  have HRl := hid hrl
  have H2 := hid hw2
  clear hw2 hS hb hw hE k0 hgl hrl
  go_enter Tryz.func4, Tryz.ntmps4
  go_wp2_with fail
  rw [← H2.out]
  go_fit hcall
  clear hcall
  rintro e w3 ⟨hc, hb3⟩
  have HC := hid hc
  have HB3 := hid (HB2.out.trans (hb3.mono HB2.out.size))
  obtain ⟨k0, k1, k2, k3, k4⟩ := K0.out
  have k0 := (hb3.cell (p := ⟨w.heap.size, 0, none⟩) (by dsimp only; omega)).trans k0
  have k1 := (hb3.cell (p := ⟨w.heap.size, 1, none⟩) (by dsimp only; omega)).trans k1
  have k2 := (hb3.cell (p := ⟨w.heap.size, 2, none⟩) (by dsimp only; omega)).trans k2
  have k3 := (hb3.cell (p := ⟨w.heap.size, 3, none⟩) (by dsimp only; omega)).trans k3
  have k4 := (hb3.cell (p := ⟨w.heap.size, 4, none⟩) (by dsimp only; omega)).trans k4
  have hz3 : w.heap.size < w3.heap.size := by have := hb3.size; omega
  clear hb3
  obtain ⟨a1, n1, c1, a2, n2, c2, c, rfl⟩ := env_is hc
  clear hc
  obtain ⟨w4, hw4⟩ : ∃ w4, w4 = w3.alloc (.cells #[.slice a1 n1 c1, .slice a2 n2 c2] 36) := ⟨_, rfl⟩
  have hb4 : Below w3.heap.size w3 w4 := by rw [hw4]; exact (Below.refl _ _).alloc (Nat.le_refl _) _
  have hz4 : w4.heap.size = w3.heap.size + 1 := by rw [hw4]; simp
  have vv : w4.cell? ⟨w3.heap.size, 0, none⟩ = some (.slice a1 n1 c1) ∧ w4.cell? ⟨w3.heap.size, 1, none⟩ = some (.slice a2 n2 c2) := by
    rw [hw4]; refine ⟨?_, ?_⟩ <;> go_simp
  have HV := hid vv
  have HB34 := hid hb4
  have HB4 := hid (HB3.out.trans (hb4.mono HB3.out.size))
  have hcall := HD.out w4 HB4.out
  have H4 := hid hw4
  clear hw4 hb4 vv hz4
  go_wp2_with fail
  rw [← H4.out]
  go_fit hcall
  clear hcall
  rintro e w5 ⟨hd, hb5⟩
  obtain ⟨b1, m1, d1, b2, m2, d2, c', rfl⟩ := of_is hd
  obtain ⟨q, v, v', a1', a2', n1', c1', n2', c2', ss, l, b1', b2', d1', d2', l', e1, e2, hp, hp', hll⟩ := both_same HC.out hd HGl.out HRl.out
  injection e1 with e1
  injection e1 with e1
  injection e2 with e2
  injection e2 with e2
  have hv := hp.eq
  have hv' := hp'.eq
  subst hv hv'
  simp only [Array.mk.injEq, List.cons.injEq, Value.agg.injEq, Value.slice.injEq, Value.int.injEq, and_true, true_and] at e1 e2
  obtain ⟨⟨⟨rfl, rfl, rfl⟩, rfl, rfl, rfl⟩, rfl⟩ := e1
  obtain ⟨⟨⟨rfl, rfl, rfl⟩, rfl, rfl, rfl⟩, rfl⟩ := e2
  have t0 := (hb5.cell (p := ⟨w3.heap.size, 0, none⟩) (by have := HB34.out.size; rw [H4.out]; simp)).trans HV.out.1
  have t1 := (hb5.cell (p := ⟨w3.heap.size, 1, none⟩) (by have := HB34.out.size; rw [H4.out]; simp)).trans HV.out.2
  have hlt : w3.heap.size < w5.heap.size := by have h1 := hb5.size; have h2 : w4.heap.size = w3.heap.size + 1 := by rw [H4.out]; simp
                                               omega
  obtain ⟨w6, hw6⟩ : ∃ w6, w6 = w5.alloc (.cells #[.slice b1 m1 d1, .slice b2 m2 d2] 36) := ⟨_, rfl⟩
  have hb6 : Below w5.heap.size w5 w6 := by rw [hw6]; exact (Below.refl _ _).alloc (Nat.le_refl _) _
  have HB6 := hid ((HB4.out.trans (hb5.mono HB4.out.size)).trans (hb6.mono (Nat.le_trans HB4.out.size hb5.size)))
  have HA := hid (hp.hs.below ((HB34.out.trans (hb5.mono HB34.out.size)).trans (hb6.mono (Nat.le_trans HB34.out.size hb5.size))))
  have HA2 := hid (hp.hl.below ((HB34.out.trans (hb5.mono HB34.out.size)).trans (hb6.mono (Nat.le_trans HB34.out.size hb5.size))))
  have HX := hid (hp'.hs.below hb6)
  have HX2 := hid (hp'.hl.below hb6)
  have hcall := UU.sameTexts_any w6 w3.heap.size w5.heap.size a1 b1 ss m1 c1 d1 hp.len1 hp.max1 HA.out HX.out
  have HSh := hid (fun m => UU.sameShapes_any (w6.drewN m) w3.heap.size w5.heap.size a2 b2 l l' m2 c2 d2 hp.len2 hp'.len2 hp.max2 hll (HA2.out.below (bdrew (Below.refl _ _) m)) (HX2.out.below (bdrew (Below.refl _ _) m)))
  have H6 := hid hw6
  have u0 : w6.cell? ⟨w3.heap.size, 1, none⟩ = some (.slice a2 m2 c2) ∧ w6.cell? ⟨w5.heap.size, 1, none⟩ = some (.slice b2 m2 d2) := by
    refine ⟨(hb6.cell (p := ⟨w3.heap.size, 1, none⟩) hlt).trans t1, ?_⟩
    rw [hw6]; go_simp
  have U0 := hid u0
  clear hw6 hb6 hb5 hp hp' hd u0
  go_wp2_with fail
  rw [← H6.out]
  go_fit hcall
  clear hcall
  rintro e w7 ⟨rfl, m, rfl⟩
  obtain ⟨u0, u1⟩ := U0.out
  have u0 : (w6.drewN m).cell? ⟨w3.heap.size, 1, none⟩ = some (.slice a2 m2 c2) := u0
  have u1 : (w6.drewN m).cell? ⟨w5.heap.size, 1, none⟩ = some (.slice b2 m2 d2) := u1
  have hcall := HSh.out m
  go_wp2_with fail
  go_fit hcall
  clear hcall
  rintro e w8 ⟨rfl, mm, rfl⟩
  go_wp2
  go_ret
  exact ⟨rfl, bdrew HB6.out (m + mm)⟩
end Go.Proofs.YtldmanfgmadbfaaGreatDoor
namespace Go.Proofs.YtldmanfgmadbfaaGreatDoor
set_option maxRecDepth 100000
open HH UU VV
open Go.ChangeShapes Go.WideShapes Go.ChangeAt Go.RowKit
def laidE1 : List (String × DataW Unit) := [("graftery/vm.effects", Rows.laid_graftery_vm_effects)]
theorem ownE : ownKnob Tryz.prog.godebug = none := by kernel_rfl
theorem laidOutE : laidOutB Tryz.prog = true := by kernel_rfl
theorem door_metE (os : Os) (args : Array Value) : laidMetH Tryz.prog laidE1 ((World.doorLaid Tryz.prog 89 os).forCall (fun _ _ => 0) ⟨#[], args, []⟩).memory :=
  laidMetH_of_parts3 (fuel := 8) (laidMet_of_run' 8 (by kernel_rfl) (by kernel_rfl)) (by kernel_rfl) (by kernel_rfl)
set_option maxRecDepth 100000 in
set_option maxHeartbeats 1000000 in
theorem liftedE (os : Os) (started : os.Started) (H : Type) (enc : TypeId × Value → H) :
    ReturnsInHanded {} Tryz.checked os 4 .any (fun w args => (Rows.graftEnvsSpec.pre enc Tryz.prog Tryz.f4 [] false w args ∧ laidMetH Tryz.prog laidE1 w) ∧ sizedMet enc Tryz.prog Tryz.f4 (OpenSpec.ofChange Rows.graftEnvsSpec) false w args)
      (Rows.graftEnvsSpec.post enc Tryz.prog Tryz.f4 false true false false) := by
  refine returnsInHanded_of_change_and (C := Tryz.checked) (X := fun w _ => laidMetH Tryz.prog laidE1 w) (fun _ _ _ hh h => h.of_heap hh) ownE started (by kernel_rfl) Tryz.func4
    (ChangeSpec.witness_shaped (enc := enc) (C := Tryz.checked) (os := os) (X := fun w _ => laidMetH Tryz.prog laidE1 w) false (World.doorLaid Tryz.prog 89 os) #[.agg #[.slice none 0 0, .slice none 0 0, .slice none 0 0, .slice none 0 0, .int .i64 0]] 8 rfl (World.shaped_of_RefB (by kernel_rfl) (by kernel_rfl)) (by kernel_rfl) (by kernel_rfl) (by kernel_rfl) (door_metE os _)) ?_
  intro W base args ds gs before hval0 hW hcnd hsz0 hL _
  have hval : ∀ (j : Nat) t v, Tryz.f4.params[j]? = some t → args[j]? = some v → Value.okWide Tryz.prog W .any base t v := hval0
  have hsz : (DataW.weightsEach Tryz.prog (Tryz.f4.params.toList ++ Rows.graftEnvsSpec.plain.varTypes Tryz.prog) (ds ++ gs)).all (· ≤ reachBytes) = true := hsz0
  have hW' := hW
  obtain ⟨p, q, hA0, hV, rfl, hfz, hnd⟩ := hW
  have hA : DataW.TrodAll enc Tryz.prog W 0 (fun _ => true) true Tryz.f4.params.toList args.toList ds p := hA0
  rw [Tryz.params4] at hA hval hsz
  obtain ⟨v0, vs0, d0, ds0, p0, q0, hargs, rfl, rfl, h0, r0⟩ := trodAll_cons hA
  obtain ⟨rfl, rfl, rfl⟩ := trodAll_nil r0
  obtain rfl : args = #[v0] := by cases args; simp_all
  obtain ⟨rfl, rfl⟩ := trodVars_none hV
  have k0 := h0
  have lt0 : ∀ x ∈ p0, x.block < W.heap.size := by obtain ⟨m, hm⟩ := k0; exact DataW.trod_lt m _ _ _ hm
  have hw0 : VV.InR Tryz.prog 29 d0 := fun n hn => by
    have := List.all_eq_true.1 hsz n (DataW.weights_mem_each (j := 0) rfl rfl n hn)
    exact of_decide_eq_true this
  obtain ⟨x, lim, rfl, hsub, hbig, hwf, _⟩ := open_world (hval 0 29 v0 rfl rfl) h0 hw0
  have hE := eff_of_laid hL
  clear hA0 hval0 hsz0 hsz
  refine (graftEnvs_walk x lim W hsub hbig hwf hE).mono fun e W' ⟨he, bel⟩ => ?_
  subst he
  exact ⟨_, rfl, _, _, _, [], _, [], hW', trodAll_mk1 (shut_bool Tryz.underlying4 _), (trodAll_cons_mk (Below.trod laidOutE (by kernel_rfl) (of_decide_eq_true (by kernel_rfl)) k0 bel lt0) trodAll_mk0), rfl, bel.frame _, fun h => by cases h⟩
theorem graftEnvs_row : Rows.GraftEnvsSaid :=
  OpenClaim.holds_of_wide 4 Tryz.f4 rfl rfl rfl rfl rfl rfl rfl ⟨rfl, rfl, rfl, rfl, rfl⟩ rfl rfl rfl rfl rfl (by as_aux_lemma => kernel_rfl) Tryz.func4 joinedE
    (of_decide_eq_true (by as_aux_lemma => kernel_rfl)) (by unfold Func.isWrapper; first | (rw [if_pos (by decide +kernel)]; kernel_rfl) | (rw [if_neg (by decide +kernel)]; exact ⟨rfl, rfl⟩))
    (fun os started H enc _ => liftedE os started H enc)
end Go.Proofs.YtldmanfgmadbfaaGreatDoor

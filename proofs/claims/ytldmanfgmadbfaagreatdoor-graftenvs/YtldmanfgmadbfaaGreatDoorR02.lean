/- A world's environment: graft's Env. (Written by wip/tools/mkenv.py.) -/
import Derived.Test.YtldmanfgmadbfaaGreatDoorR01
import Derived.Test.YtldmanfgmadbfaaGreatDoorQ09
import Derived.Deep.RegionWith
import Derived.Test.YtldmanfgmadbfaaGreatDoorRShort
namespace Go.Proofs.YtldmanfgmadbfaaGreatDoor
set_option maxRecDepth 100000
open HH UU VV
open Go.RowKit Go.Maps Go.WideMaps
/-- What a world's environment holds: its globals' names, its records' last versions. -/
def EnvV (gs : List Gl) (rs : List Rc) (w : World) (v : Value) : Prop := ∃ a1 c1 a2 c2 l, v = .agg #[.slice a1 gs.length c1, .slice a2 rs.length c2] ∧ Strs w w.heap.size a1 (gs.map Gl.name) ∧ l.length = rs.length ∧ l.map pairOf = envP rs ∧ Shs w w.heap.size a2 l
def EnvR (x : Wv) (lim : Int) (e : Ending) (w : World) : Prop := (∃ v, e = .returned (.tuple #[v, .int .i64 0]) ∧ ChkR x lim (.returned (.int .i64 0)) ∧ EnvV x.gs x.rs w v) ∨ (e = .returned (.tuple #[.agg #[.slice none 0 0, .slice none 0 0], .int .i64 9]) ∧ ChkR x lim (.returned (.int .i64 9)))
theorem vers_ok {x : Wv} {th : List Th} (h : mayB x th = true) : ∀ r, r ∈ x.rs → 1 ≤ r.vs.length ∧ r.vs.length ≤ 20 := by
 intro r hr
 unfold mayB at h
 simp only [Bool.and_eq_true] at h
 have h2 := List.all_eq_true.1 h.2.1 r hr
 unfold recB belB at h2
 simp only [Bool.and_eq_true, decide_eq_true_eq] at h2
 omega
set_option maxRecDepth 1000000 in
set_option maxHeartbeats 8000000 in
theorem env_aux (fa ga ra ha : Option Addr) (fcap gcap rcap hcap : Nat) (fs : List VV.Fn) (gs : List Gl) (rs : List Rc) (hs : List Wd) (lim : Int) (w : World)
  (hS : subW w (fun b => b < w.heap.size) (⟨fa, fcap, fs, ga, gcap, gs, ra, rcap, rs, ha, hcap, hs⟩ : Wv)) (hb : bigW (⟨fa, fcap, fs, ga, gcap, gs, ra, rcap, rs, ha, hcap, hs⟩ : Wv)) (hw : wfW (⟨fa, fcap, fs, ga, gcap, gs, ra, rcap, rs, ha, hcap, hs⟩ : Wv)) (hE : EffAt w) :
  Calls Tryz.prog 7 #[.agg #[.slice fa fs.length fcap, .slice ga gs.length gcap, .slice ra rs.length rcap, .slice ha hs.length hcap, .int .i64 lim]] w fun e w' => EnvR (⟨fa, fcap, fs, ga, gcap, gs, ra, rcap, rs, ha, hcap, hs⟩ : Wv) lim e w' ∧ Below w.heap.size w w' := by
 obtain ⟨j0, hj, jz0, jz1, jz2⟩ := info_parts infoSh
 have HJ := hid hj
 have HY0 := hid jz0
 have HY1 := hid jz1
 have HY2 := hid jz2
 clear hj jz0 jz1 jz2
 obtain ⟨i0, hi, iz0, iz1, iz2⟩ := info_parts infoStr
 have HI := hid hi
 have HZ0 := hid iz0
 have HZ1 := hid iz1
 have HZ2 := hid iz2
 clear hi iz0 iz1 iz2
 obtain ⟨w2, hw2⟩ : ∃ w2, w2 = (w.alloc (.cells #[.slice fa fs.length fcap, .slice ga gs.length gcap, .slice ra rs.length rcap, .slice ha hs.length hcap, .int .i64 lim] 29)).alloc (.cells #[.slice none 0 0, .slice none 0 0] 36) := ⟨_, rfl⟩
 have HB2 := hid (show Below w.heap.size w w2 by rw [hw2]; exact below_2 _ _ _)
 have hz2 : w2.heap.size = w.heap.size + 2 := by rw [hw2]; simp
 have kk : w2.cell? ⟨w.heap.size, 1, none⟩ = some (.slice ga gs.length gcap) ∧ w2.cell? ⟨w.heap.size, 2, none⟩ = some (.slice ra rs.length rcap) ∧ w2.cell? ⟨w.heap.size + 1, 0, none⟩ = some (.slice none 0 0) ∧ w2.cell? ⟨w.heap.size + 1, 1, none⟩ = some (.slice none 0 0) ∧ w2.frozen? ⟨w.heap.size + 1, 0, none⟩ = false ∧ w2.frozen? ⟨w.heap.size + 1, 1, none⟩ = false := by
  rw [hw2]; refine ⟨?_, ?_, ?_, ?_, ?_, ?_⟩ <;> go_simp
 have KK := hid kk
 have HS := hid hS
 have HBg := hid hb
 have HWf := hid hw
 have H2 := hid hw2
 have hS2 := subW_keep hS (fun b hb' => HB2.out.block b hb') (fun _ hb' => Nat.lt_of_lt_of_le hb' HB2.out.size)
 have hcall := vmCheck_any (⟨fa, fcap, fs, ga, gcap, gs, ra, rcap, rs, ha, hcap, hs⟩ : Wv) lim w2 hS2 hb hw (hE.below HB2.out hE.lt)
 clear hw2 kk hS hb hw hE hS2
 go_enter Tryz.func7, Tryz.ntmps7
 go_wp2_with fail
 rw [← H2.out]
 go_fit hcall
 clear hcall
 rintro e w3 ⟨hc, hb3⟩
 have HB3 := hid (HB2.out.trans (hb3.mono HB2.out.size))
 have hz3 := hb3.size
 obtain ⟨k1, k2, r0, r1, g0, g1⟩ := KK.out
 have k1 := (hb3.cell (p := ⟨w.heap.size, 1, none⟩) (by dsimp only; omega)).trans k1
 have k2 := (hb3.cell (p := ⟨w.heap.size, 2, none⟩) (by dsimp only; omega)).trans k2
 have r0 := (hb3.cell (p := ⟨w.heap.size + 1, 0, none⟩) (by dsimp only; omega)).trans r0
 have r1 := (hb3.cell (p := ⟨w.heap.size + 1, 1, none⟩) (by dsimp only; omega)).trans r1
 have g0 := (hb3.frozen (p := ⟨w.heap.size + 1, 0, none⟩) (by dsimp only; omega)).trans g0
 have g1 := (hb3.frozen (p := ⟨w.heap.size + 1, 1, none⟩) (by dsimp only; omega)).trans g1
 rcases hc with ⟨th, rfl, hok⟩ | ⟨rfl, hno⟩
 case inr =>
  have HC := hid (show ChkR (⟨fa, fcap, fs, ga, gcap, gs, ra, rcap, rs, ha, hcap, hs⟩ : Wv) lim (.returned (.int .i64 9)) from Or.inr ⟨rfl, hno⟩)
  clear hno
  obtain ⟨wz, hwz⟩ : ∃ wz, wz = (w3.setCell ⟨w.heap.size + 1, 0, none⟩ (.slice none 0 0)).setCell ⟨w.heap.size + 1, 1, none⟩ (.slice none 0 0) := ⟨_, rfl⟩
  have HBz := hid (show Below w.heap.size w wz from by rw [hwz]; exact (HB3.out.setCell (p := ⟨w.heap.size + 1, 0, none⟩) (by dsimp only; omega) _).setCell (p := ⟨w.heap.size + 1, 1, none⟩) (by dsimp only; omega) _)
  have Hz := hid hwz
  clear hwz hb3
  go_wp2_with fail
  refine bodyPost_ret (v := .tuple #[.agg #[.slice none 0 0, .slice none 0 0], .int .i64 9]) (by simp [results, Tryz.results7, go_sem, r0, r1]) rfl ?_
  rw [← Hz.out]
  exact ⟨Or.inr ⟨rfl, HC.out⟩, HBz.out⟩
 have HC := hid (show ChkR (⟨fa, fcap, fs, ga, gcap, gs, ra, rcap, rs, ha, hcap, hs⟩ : Wv) lim (.returned (.int .i64 0)) from Or.inl ⟨th, rfl, hok⟩)
 have HVs := hid (vers_ok hok.2.2.2.2)
 have hg40 : gs.length ≤ 1000 := by have : gs.length ≤ 40 := hok.2.2.1; omega
 have hr40 : rs.length ≤ 1000 := by have : rs.length ≤ 8 := hok.2.2.2.1; omega
 obtain ⟨w4, hw4⟩ : ∃ w4, w4 = w3.alloc (.cells #[.slice none 0 0, .slice none 0 0] 36) := ⟨_, rfl⟩
 have hb4 : Below w3.heap.size w3 w4 := by rw [hw4]; exact (Below.refl _ _).alloc (Nat.le_refl _) _
 have hz4 : w4.heap.size = w3.heap.size + 1 := by rw [hw4]; simp
 have vv : w4.cell? ⟨w3.heap.size, 0, none⟩ = some (.slice none 0 0) ∧ w4.cell? ⟨w3.heap.size, 1, none⟩ = some (.slice none 0 0) ∧ w4.frozen? ⟨w3.heap.size, 0, none⟩ = false ∧ w4.frozen? ⟨w3.heap.size, 1, none⟩ = false := by
  rw [hw4]; refine ⟨?_, ?_, ?_, ?_⟩ <;> go_simp
 have HV := hid vv
 have HK1 := hid ((hb4.cell (p := ⟨w.heap.size, 1, none⟩) (by dsimp only; omega)).trans k1)
 have HK2 := hid ((hb4.cell (p := ⟨w.heap.size, 2, none⟩) (by dsimp only; omega)).trans k2)
 have HR0 := hid (And.intro ((hb4.cell (p := ⟨w.heap.size + 1, 0, none⟩) (by dsimp only; omega)).trans r0) (And.intro ((hb4.cell (p := ⟨w.heap.size + 1, 1, none⟩) (by dsimp only; omega)).trans r1) (And.intro ((hb4.frozen (p := ⟨w.heap.size + 1, 0, none⟩) (by dsimp only; omega)).trans g0) ((hb4.frozen (p := ⟨w.heap.size + 1, 1, none⟩) (by dsimp only; omega)).trans g1))))
 have HW4 := hid (HB3.out.trans (hb4.mono HB3.out.size))
 have H4 := hid hw4
 clear hw4 hb4 vv r0 r1 g0 g1 hb3 hok
 have hz03 : w.heap.size < w3.heap.size := by omega
 have hz13 : w.heap.size + 1 < w3.heap.size := by omega
 go_wp2_with fail
 rw [← H4.out]
 go_loopw [19] (fun i wr => GInv gs w3.heap.size w4 i wr) (fun i _ => gs.length - (intOf i).toNat)
 case atStart => exact GInv.mk 0 (.slice none 0 0) (Nat.zero_le _) rfl (by simpa using RowC.nil w4 w4.heap.size) HV.out.1 HV.out.2.1 HV.out.2.2.1 HV.out.2.2.2 (KpB.refl _ _ _)
 case round =>
  obtain ⟨k, gv, hk, rfl, hrow, q0, q1, f0, f1, hkp⟩ := hrel
  have HRow := hid hrow
  have HKp := hid hkp
  have HWr := hid (HW4.out.trans (hkp.below (B := w.heap.size) (by omega) (by omega)))
  have hzr := hkp.size
  have k1 := (hkp.cell (b := w.heap.size) (o := 1) (by omega) (by omega)).trans HK1.out
  clear hrow hkp
  by_cases hlt : k < gs.length
  ·
   have hlt2 : (k : Int) < gs.length := by omega
   obtain ⟨b, o, rfl, hbB, i0', i1, i2, i3⟩ := gl_at (Cs.below HS.out.g HWr.out (Nat.le_refl _)) hlt
   have HT := hid (show (gs.map Gl.name).take (k + 1) = (gs.map Gl.name).take k ++ [(gs[k]'hlt).name] by
    rw [List.take_succ_eq_append_getElem (by simpa using hlt), List.getElem_map])
   generalize gs[k]'hlt = y at i0' i1 i2 i3 HT
   have hba : Below wr.heap.size wr ((wr.alloc (.cells #[.string y.name, .int .i64 y.w.k, .int .i64 y.w.n, .string y.w.s] 53)).alloc (.cells #[.string y.name] 9)) := below_2 _ _ _
   have hln : ((gs.map Gl.name).take k).length = k := by simp; omega
   obtain ⟨gA, gC, rfl, _, hown⟩ := HRow.out.own hln
   have HR := hid (own_below hown hba)
   have HOn := hid (fun g (e : (Value.slice gA k gC).ownBlock = some g) => own_lt hown e)
   have HX := hid (fun v' w' (h : World.ownsRow w' w4.heap.size 9 1 v' (k + 1) (flatC strC ((gs.map Gl.name).take k) ++ strC y.name)) => (by rw [HT.out]; exact RowC.of hln.symm h : RowC strC 9 1 w' w4.heap.size v' ((gs.map Gl.name).take (k + 1))))
   have HBa := hid hba
   have hkz : w3.heap.size < wr.heap.size := by omega
   clear hba hown hln
   go_wp2_with (at_builtin; refine wpList_append_lies _ rfl _ _ 33 rfl w4.heap.size 9 i0 (.string ⟨#[]⟩) 1 16 Tryz.underlying33 HI.out HZ0.out HZ1.out HZ2.out rfl (by decide) _ _ _ rfl HR.out ⟨wr.heap.size + 1, 0, none⟩ 1 1 [.string y.name] rfl rfl (by have := cells_new (wr.alloc (.cells #[.string y.name, .int .i64 y.w.k, .int .i64 y.w.n, .string y.w.s] 53)) (.string y.name) 9; simpa using this) (by simp [Value.oneCell']) (by decide) (by unfold maxLen; omega) (by omega) (by simp; omega) _ rfl ?_; intro g3 cap3 w6 hown3 hgrow3 hat3 hlt3; have u0 := (hgrow3.cell_far ⟨w3.heap.size, 0, none⟩ (by simp; omega) (fun e => by have := (HOn.out _ e.symm).1; dsimp only at this; omega)).trans ((HBa.out.cell (p := ⟨w3.heap.size, 0, none⟩) hkz).trans q0); have uf0 := (hgrow3.frozen_far ⟨w3.heap.size, 0, none⟩ (by simp; omega) (fun e => by have := (HOn.out _ e.symm).1; dsimp only at this; omega)).trans ((HBa.out.frozen (p := ⟨w3.heap.size, 0, none⟩) hkz).trans f0))
   have u1 := (hgrow3.cell_far ⟨w3.heap.size, 1, none⟩ (by simp; omega) (fun e => by have := (HOn.out _ e.symm).1; dsimp only at this; omega)).trans ((HBa.out.cell (p := ⟨w3.heap.size, 1, none⟩) hkz).trans q1)
   have uf1 := (hgrow3.frozen_far ⟨w3.heap.size, 1, none⟩ (by simp; omega) (fun e => by have := (HOn.out _ e.symm).1; dsimp only at this; omega)).trans ((HBa.out.frozen (p := ⟨w3.heap.size, 1, none⟩) hkz).trans f1)
   have hg3 : ¬ g3 = w3.heap.size := by have h3 : w4.heap.size ≤ g3 := (own_lt hown3 rfl).1; omega
   have HRw := hid (RowC.keep (w' := w6.setCell ⟨w3.heap.size, 0, none⟩ (.slice (some ⟨g3, 0, none⟩) (k + 1) cap3)) (HX.out _ _ hown3) (fun b e => by injection e with e; subst e; exact Below.heap_setCell _ _ _ _ hg3))
   have HKw := hid (((HKp.out.trans (KpB.of HBa.out hzr)).trans (KpB.grown hgrow3 (Nat.le_trans hzr HBa.out.size) (fun j e => (HOn.out j e).1))).trans (KpB.set w4.heap.size w3.heap.size 0 w6 (.slice (some ⟨g3, 0, none⟩) (k + 1) cap3)))
   have U0 := hid (World.cell?_setCell_same w6 ⟨w3.heap.size, 0, none⟩ (.slice (some ⟨g3, 0, none⟩) (k + 1) cap3) u0)
   have U1 := hid ((World.cell?_setCell_other w6 ⟨w3.heap.size, 0, none⟩ ⟨w3.heap.size, 1, none⟩ (.slice (some ⟨g3, 0, none⟩) (k + 1) cap3) (by intro e; injection e with _ e; omega)).trans u1)
   clear hown3 hgrow3 hat3
   go_wp2_with fail
   go_roundw
   case rel => exact GInv.mk (k + 1) _ (by omega) (by go_num) HRw.out U0.out U1.out (by rw [World.frozen?_setCell]; exact uf0) (by rw [World.frozen?_setCell]; exact uf1) HKw.out
   case measure => simp [intOf]; omega
  ·
   have hlt2 : ¬ (k : Int) < gs.length := by omega
   obtain rfl : k = gs.length := by omega
   have hln : ((gs.map Gl.name).take gs.length) = gs.map Gl.name := List.take_of_length_le (by simp)
   rw [hln] at HRow
   have k2 := (HKp.out.cell (b := w.heap.size) (o := 2) (by omega) (by omega)).trans HK2.out
   have r0 := (HKp.out.cell (b := w.heap.size + 1) (o := 0) (by omega) (by omega)).trans HR0.out.1
   obtain ⟨gA, gC, rfl, hgc, hown⟩ := HRow.out.own (n := gs.length) (by simp)
   have HOwG := hid hown
   clear hln hown
   obtain ⟨w5, hw5⟩ : ∃ w5, w5 = wr := ⟨_, rfl⟩
   subst hw5
   have HK5 := hid HKp.out
   have HW5 := hid HWr.out
   have h05 : w.heap.size ≤ w5.heap.size := HW5.out.size
   have hb5 : w3.heap.size < w5.heap.size := by omega
   have hw45 : w4.heap.size ≤ w5.heap.size := hzr
   obtain ⟨gv, hgv⟩ : ∃ gv, gv = Value.slice gA gs.length gC := ⟨_, rfl⟩
   rw [← hgv] at q0
   have HGv := hid hgv
   clear hgv
   obtain ⟨rs0, hrs0⟩ : ∃ rs0, rs0 = rs := ⟨_, rfl⟩
   have HRs0 := hid hrs0
   clear hrs0 r0
   go_wp2_with fail
   go_loopw [34] (fun i wr => ∃ (k : Nat) (sv : Value) (l : List UU.Sh), k ≤ rs.length ∧ i = .int .i64 k ∧ l.length = k ∧ l.map pairOf = (envP rs0).take k ∧ ShL wr w5.heap.size sv l ∧ wr.cell? ⟨w3.heap.size, 0, none⟩ = some gv ∧ wr.cell? ⟨w3.heap.size, 1, none⟩ = some sv ∧ wr.frozen? ⟨w3.heap.size, 1, none⟩ = false ∧ KpB w5.heap.size w3.heap.size w5 wr) (fun i _ => rs.length - (intOf i).toNat)
   case atStart => exact ⟨0, .slice none 0 0, [], Nat.zero_le _, rfl, rfl, rfl, ShL.nil _ _, q0, q1, f1, KpB.refl _ _ _⟩
   case round =>
    clear q0 q1 f0 f1 k1 k2 HRow HKp HWr hlt
    obtain ⟨k, sv, l, hk, rfl, hll, hpl, hsl, q0, q1, qf, hkp⟩ := hrel
    have HPl := hid hpl
    have HKp := hid hkp
    have HWr := hid (HW5.out.trans (hkp.below (B := w.heap.size) (by omega) (by omega)))
    have hzr2 := hkp.size
    have k2 := (hkp.cell (b := w.heap.size) (o := 2) (by omega) (by omega)).trans ((HK5.out.cell (b := w.heap.size) (o := 2) (by omega) (by omega)).trans HK2.out)
    have HSr := hid hsl
    clear hpl hkp hsl
    by_cases hlt : k < rs.length
    ·
     have hlt2 : (k : Int) < rs.length := by omega
     obtain ⟨b, o, rfl, hbB, i0', i1, i2⟩ := rc_at (Cs.below HS.out.r HWr.out (Nat.le_refl _)) hlt
     have hv1 := HVs.out _ (List.getElem_mem hlt)
     have HSub := hid (HS.out.rs _ (List.getElem_mem hlt))
     have hrw := HWf.out.rs _ (List.getElem_mem hlt)
     have hrb := HBg.out.rs _ (List.getElem_mem hlt)
     have HT := hid (show (envP rs0).take (k + 1) = (envP rs0).take k ++ [pairS (lastS (rs[k]'hlt))] from by rw [HRs0.out]; exact envP_take hlt)
     generalize rs[k]'hlt = y at i0' i1 i2 HT HSub hv1 hrw hrb
     obtain ⟨rn, va, vcap, vs, ma, mcap, ms⟩ := y
     dsimp only at i0' i1 i2 hv1
     have hlm : lastS ⟨rn, va, vcap, vs, ma, mcap, ms⟩ ∈ vs := lastS_mem hv1.1
     have hsw := hrw.vs _ hlm
     have hsb : (lastS ⟨rn, va, vcap, vs, ma, mcap, ms⟩).fs.length * 16 ≤ 140737488355328 := hrb.vs _ hlm
     have HSs := hid (HSub.out.vs _ hlm)
     obtain ⟨s, hs1⟩ : ∃ s, vs.getD (vs.length - 1) shZ = s := ⟨_, rfl⟩
     have hs2 : lastS ⟨rn, va, vcap, vs, ma, mcap, ms⟩ = s := hs1
     have HLc := hid (show ∀ w', Below w.heap.size w w' → Calls Tryz.prog 21 #[.agg #[.string rn, .slice va vs.length vcap, .slice ma ms.length mcap]] w' fun e w'' => e = .returned (.agg #[.string s.name, .slice s.adr s.fs.length s.cap]) ∧ Below w'.heap.size w' w'' from fun w' hb => by
      have := lastOf_any rn va ma vcap ms.length mcap vs w' (Cs.below HSub.out.v hb hb.size) hv1.1 (by omega)
      rw [hs1] at this
      exact this)
     rw [hs2] at HT hsw hsb HSs
     clear hs1 hs2
     obtain ⟨sn, sa, sc, sf⟩ := s
     dsimp only at hsb
     have hsn : sn.size ≤ maxLen := hsw.name
     have HCp := hid (show ∀ w', Below w.heap.size w w' → Strs w' w'.heap.size sa sf from fun w' hb => strs_row (Cs.below HSs.out hb hb.size) hsw.fs)
     clear hlm hrw hrb
     have hbl : b < wr.heap.size := Nat.lt_of_lt_of_le hbB HWr.out.size
     obtain ⟨wg, hwg⟩ : ∃ wg, wg = wr.alloc (.cells #[.string rn, .slice va vs.length vcap, .slice ma ms.length mcap] 58) := ⟨_, rfl⟩
     have hbg : Below wr.heap.size wr wg := by rw [hwg]; exact (Below.refl _ _).alloc (Nat.le_refl _) _
     have hzg1 : wg.heap.size = wr.heap.size + 1 := by rw [hwg]; simp
     have hxx : wg.cell? ⟨wr.heap.size, 0, none⟩ = some (.string rn) ∧ wg.cell? ⟨wr.heap.size, 1, none⟩ = some (.slice va vs.length vcap) ∧ wg.cell? ⟨wr.heap.size, 2, none⟩ = some (.slice ma ms.length mcap) := by
      rw [hwg]; refine ⟨?_, ?_, ?_⟩ <;> go_simp
     obtain ⟨x0, x1, x2⟩ := hxx
     have q0 := (hbg.cell (p := ⟨w3.heap.size, 0, none⟩) (by dsimp only; omega)).trans q0
     have q1 := (hbg.cell (p := ⟨w3.heap.size, 1, none⟩) (by dsimp only; omega)).trans q1
     have qf := (hbg.frozen (p := ⟨w3.heap.size, 1, none⟩) (by dsimp only; omega)).trans qf
     have HOw := hid (show ∀ g, sv.ownBlock = some g → w5.heap.size ≤ g ∧ g < wg.heap.size from fun g e => ⟨(HSr.out.own_lt e).1, Nat.lt_of_lt_of_le (HSr.out.own_lt e).2 hbg.size⟩)
     have HNe := hid (show ∀ c, (c < w5.heap.size ∨ wr.heap.size ≤ c) → some c ≠ sv.ownBlock from fun c hc e => by have h1 := HSr.out.own_lt e.symm; omega)
     have HSl := hid (HSr.out.keep hbg.size (fun b _ hb => hbg.block b hb))
     have hzw : wr.heap.size ≤ wg.heap.size := hbg.size
     have hzg : w5.heap.size ≤ wg.heap.size := Nat.le_trans hzr2 hzw
     have HKg := hid (HKp.out.trans (KpB.of hbg hzr2))
     have HWg := hid (HWr.out.trans (hbg.mono HWr.out.size))
     have Hg := hid hwg
     clear hwg hbg
     go_wp2_with fail
     rw [← Hg.out]
     refine wp_region_invL 8 (fun dn w' => wg.grownBy w' sv.ownBlock ∧ (dn 6 = false → Below wg.heap.size wg w')) (fun i w' w'' => match i with | 6 => w'.grownBy w'' sv.ownBlock | _ => Below w'.heap.size w' w'') (fun i vv w' => match i with
      | 0 => vv = .pointer (some ⟨w3.heap.size, 1, none⟩)
      | 1 => vv = sv
      | 2 => vv = .agg #[.string rn, .slice va vs.length vcap, .slice ma ms.length mcap]
      | 3 => vv = .agg #[.string sn, .slice sa sf.length sc]
      | 4 => ∃ a' c', vv = .agg #[.string sn, .slice a' sf.length c'] ∧ (sf.length ≤ c' ∧ sf.length ≤ maxLen) ∧ StrsS w' (fun b => wg.heap.size ≤ b ∧ b < w'.heap.size) a' sf
      | 5 => ∃ b a' c', vv = .slice (some ⟨b, 0, none⟩) 1 1 ∧ wg.heap.size ≤ b ∧ w'.heap[b]? = some (.cells #[.string sn, .slice a' sf.length c'] 65 (0, 0)) ∧ (sf.length ≤ c' ∧ sf.length ≤ maxLen) ∧ StrsS w' (fun b => wg.heap.size ≤ b ∧ b < w'.heap.size) a' sf
      | 6 => ∃ g c2 s2, vv = .slice (some ⟨g, 0, none⟩) (l.length + 1) c2 ∧ ShL w' w5.heap.size vv (l ++ [s2]) ∧ pairOf s2 = (sn, sf)
      | 7 => vv = .pointer (some ⟨w3.heap.size, 1, none⟩)
      | _ => True) (by kernel_rfl) (by kernel_rfl) (by kernel_rfl) ⟨⟨rfl, rfl, rfl, Nat.le_refl _, fun _ _ _ => rfl⟩, fun _ => (Below.refl _ _).drew⟩ ?hmono ⟨?o0, ?o1, ?o2, ?o3, ?o4, ?o5, ?o6, ?o7, trivial⟩ ?hend
     case o0 =>
      intro dn a w' hdn hS hF K hK
      have h5 := hF.out 5 (by kernel_rfl) rfl
      rw [if_pos (by kernel_rfl)]
      go_simp
      exact hK _ _ _ rfl ⟨hS.1, fun h => hS.2 (by simpa [upd] using h)⟩ (Below.refl _ _) rfl
     case o1 =>
      intro dn a w' hdn hS hF K hK
      obtain ⟨v38, h38, rfl⟩ := hF.va 0 38
      have q0' := hS.1.cell q0 (HNe.out _ (by dsimp only; omega))
      have q1' := hS.1.cell q1 (HNe.out _ (by dsimp only; omega))
      have x0' := hS.1.cell x0 (HNe.out _ (by dsimp only; omega))
      have x1' := hS.1.cell x1 (HNe.out _ (by dsimp only; omega))
      have x2' := hS.1.cell x2 (HNe.out _ (by dsimp only; omega))
      rw [if_pos (by kernel_rfl)]
      go_simp
      exact hK _ _ _ rfl ⟨hS.1, fun h => hS.2 (by simpa [upd] using h)⟩ (Below.refl _ _) rfl
     case o2 =>
      intro dn a w' hdn hS hF K hK
      have h9 := hF.out 9 (by kernel_rfl) rfl
      have q0' := hS.1.cell q0 (HNe.out _ (by dsimp only; omega))
      have q1' := hS.1.cell q1 (HNe.out _ (by dsimp only; omega))
      have x0' := hS.1.cell x0 (HNe.out _ (by dsimp only; omega))
      have x1' := hS.1.cell x1 (HNe.out _ (by dsimp only; omega))
      have x2' := hS.1.cell x2 (HNe.out _ (by dsimp only; omega))
      rw [if_pos (by kernel_rfl)]
      go_simp
      exact hK _ _ _ rfl ⟨hS.1, fun h => hS.2 (by simpa [upd] using h)⟩ (Below.refl _ _) rfl
     case o3 =>
      intro dn a w' hdn hS hF K hK
      obtain ⟨v40, h40, rfl⟩ := hF.va 2 40
      rw [if_pos (by kernel_rfl)]
      go_simp
      have hbw := HWg.out.grown hS.1 HWg.out.size (fun k e => Nat.le_trans h05 (HOw.out k e).1)
      refine (HLc.out w' hbw).mono ?_
      rintro e w'' ⟨rfl, hb⟩
      exact hK _ _ _ rfl ⟨gb_trans hS.1 (gb_below hb), fun h => (hS.2 (by simpa [upd] using h)).trans (hb.mono hS.1.size)⟩ hb rfl
     case o4 =>
      intro dn a w' hdn hS hF K hK
      obtain ⟨v41, h41, rfl⟩ := hF.va 3 41
      rw [if_pos (by kernel_rfl)]
      go_simp
      have hbw := HWg.out.grown hS.1 HWg.out.size (fun k e => Nat.le_trans h05 (HOw.out k e).1)
      refine (copied_any sn sa sf sf.length sc w' (HCp.out w' hbw) rfl hsb).mono ?_
      rintro e w'' ⟨a', c', rfl, h1, h2, h3, hb⟩
      exact hK _ _ _ rfl ⟨gb_trans hS.1 (gb_below hb), fun h => (hS.2 (by simpa [upd] using h)).trans (hb.mono hS.1.size)⟩ hb ⟨a', c', rfl, ⟨h1, h2⟩, h3.keep fun b hb' => ⟨rfl, Nat.le_trans hS.1.size hb'.1, hb'.2⟩⟩
     case o5 =>
      intro dn a w' hdn hS hF K hK
      obtain ⟨v42, h42, hv42⟩ := hF.va 4 42
      rw [if_pos (by kernel_rfl)]
      obtain ⟨a', c', rfl, hc, hst⟩ := hv42
      have hb := (Below.refl w'.heap.size w').alloc (Nat.le_refl _) (.cells #[.string sn, .slice a' sf.length c'] 65)
      have hzz := hS.1.size
      have hnw := heap_alloc_new w' (.cells #[.string sn, .slice a' sf.length c'] 65)
      go_simp
      exact hK _ _ _ rfl ⟨gb_trans hS.1 (gb_below hb), fun h => (hS.2 (by simpa [upd] using h)).trans (hb.mono hS.1.size)⟩ hb ⟨_, a', c', rfl, hzz, hnw, hc, strsS_gb hst (r := none) (gb_below hb) (fun g e => by cases e)⟩
     case o6 =>
      intro dn a w' hdn hS hF K hK
      obtain ⟨v39, h39, e39⟩ := hF.va 1 39
      rw [e39] at h39
      obtain ⟨v43, h43, hv43⟩ := hF.va 5 43
      rw [if_pos (by kernel_rfl)]
      obtain ⟨b, a', c', rfl, hb1, hb2, ⟨hc1, hc2⟩, hst⟩ := hv43
      obtain ⟨cells, ho, hi⟩ := HSl.out.keep (w' := w') hS.1.size (fun b _ hb => (hS.2 (hdn _ (Or.inl rfl))).block b hb)
      have hzz := hS.1.size
      have hln := hll
      refine wp_append_lies (P := Tryz.prog) w' (.tmp 39) (.tmp 43) 34 rfl w5.heap.size 65 j0 (.agg #[.string ⟨#[]⟩, .slice none 0 0]) 2 40 Tryz.underlying34 HJ.out HY0.out HY1.out HY2.out rfl (by decide) sv l.length cells (by simp [Act.eval, h39]) ho ⟨b, 0, none⟩ 1 1 [.string sn, .slice a' sf.length c'] (by simp [Act.eval, h43]) rfl (World.news_of_block hb2) (by simp [Value.oneCell']) (by decide) (by unfold maxLen; omega) (by omega) (by omega) _ rfl ?_
      intro g c2 w'' hr hg ha _
      exact hK _ _ _ rfl ⟨gb_trans hS.1 hg, fun h => by simp [upd] at h⟩ hg ⟨g, c2, ⟨sn, a', sf, c'⟩, rfl, ShL.append hi ho.1 ⟨hsn, hc1, hc2⟩ hst (by omega) (fun k e => (HOw.out k e).2) hr hg ha rfl, rfl⟩
     case o7 =>
      intro dn a w' hdn hS hF K hK
      have h5 := hF.out 5 (by kernel_rfl) rfl
      rw [if_pos (by kernel_rfl)]
      go_simp
      exact hK _ _ _ rfl ⟨hS.1, fun h => hS.2 (by simpa [upd] using h)⟩ (Below.refl _ _) rfl
     case hmono =>
      intro i j v w1 w2 hi hj hne hwt hS hv hR
      have hg : w1.grownBy w2 sv.ownBlock := by
       rcases j with _ | _ | _ | _ | _ | _ | _ | _ | j
       all_goals first | exact gb_below hR | exact hR
      rcases i with _ | _ | _ | _ | _ | _ | _ | _ | i
      ·
       exact hv
      ·
       exact hv
      ·
       exact hv
      ·
       exact hv
      ·
       obtain ⟨a', c', e, h1, h2⟩ := hv
       exact ⟨a', c', e, h1, strsS_gb h2 hg (fun g e => (HOw.out g e).2)⟩
      ·
       obtain ⟨b, a', c', e, h1, h2, h3, h4⟩ := hv
       exact ⟨b, a', c', e, h1, (hg.block b (Array.getElem?_eq_some_iff.1 h2).1 (HNe.out _ (Or.inr (by omega)))).trans h2, h3, strsS_gb h4 hg (fun g e => (HOw.out g e).2)⟩
      ·
       rcases j with _ | _ | _ | _ | _ | _ | _ | _ | j
       all_goals first
        | exact absurd rfl hne
        | (obtain ⟨g, c2, s2, e, h1, h2⟩ := hv; exact ⟨g, c2, s2, e, h1.keep hR.size (fun b _ hb => hR.block b hb), h2⟩)
      ·
       exact hv
      ·
       omega
     case hend =>
      intro dn wp vs_ hdn hS hv
      have e0 : vs_ 7 = .pointer (some ⟨w3.heap.size, 1, none⟩) := hv 7 (by decide)
      obtain ⟨g, c2, s2, eA, hrow, hps⟩ := hv 6 (by decide)
      clear hv
      rw [eA] at hrow
      rw [hll] at eA hrow
      have u0 := hS.1.cell q0 (HNe.out _ (Or.inl (by dsimp only; omega)))
      have u1 := hS.1.cell q1 (HNe.out _ (Or.inl (by dsimp only; omega)))
      have uf := (World.frozen?_of_block (a := ⟨w3.heap.size, 1, none⟩) (hS.1.block w3.heap.size (by omega) (HNe.out _ (Or.inl (by omega))))).trans qf
      obtain ⟨wz, hwz⟩ : ∃ wz, wz = wp.setCell ⟨w3.heap.size, 1, none⟩ (.slice (some ⟨g, 0, none⟩) (k + 1) c2) := ⟨_, rfl⟩
      have HKz := hid (show KpB w5.heap.size w3.heap.size w5 wz from by rw [hwz]; exact ((HKg.out.trans (KpB.grown hS.1 hzg (fun k e => (HOw.out k e).1))).trans (KpB.set _ _ _ _ _)))
      have HLz := hid (show ShL wz w5.heap.size (.slice (some ⟨g, 0, none⟩) (k + 1) c2) (l ++ [s2]) from by rw [hwz]; exact hrow.keep (by simp) (fun b hb _ => Below.heap_setCell _ _ _ _ (by dsimp only; omega)))
      have U1 := hid (show wz.cell? ⟨w3.heap.size, 1, none⟩ = some (.slice (some ⟨g, 0, none⟩) (k + 1) c2) from by rw [hwz]; exact World.cell?_setCell_same _ _ _ u1)
      have U0 := hid (show wz.cell? ⟨w3.heap.size, 0, none⟩ = some gv from by rw [hwz]; exact (World.cell?_setCell_other _ _ _ _ (by intro x; injection x with _ x; omega)).trans u0)
      have UF := hid (show wz.frozen? ⟨w3.heap.size, 1, none⟩ = false from by rw [hwz, World.frozen?_setCell]; exact uf)
      have HP := hid (show (l ++ [s2]).map pairOf = (envP rs0).take (k + 1) from by simp only [List.map_append, List.map_cons, List.map_nil]; rw [HT.out, hps, HPl.out]; rfl)
      have Hz := hid hwz
      clear hwz hrow hps
      simp only [putsL, List.take_succ_cons, List.take_zero, Nat.reduceAdd, Act.put, List.setIfInBounds_toArray, List.set_cons_zero, List.set_cons_succ, e0, eA]
      change wpOps _ _ _ [8] _ _
      refine wpOps_step rfl rfl (fun K hK => ?_)
      go_simp
      refine hK _ _ ?_
      clear hK
      simp only [wpOps]
      rw [← Hz.out]
      go_wp2_with fail
      go_roundw
      case rel => exact ⟨k + 1, _, l ++ [s2], by omega, by go_num, by simp [hll], HP.out, HLz.out, U0.out, U1.out, UF.out, HKz.out⟩
      case measure => simp [intOf]; omega
    ·
     have hlt2 : ¬ (k : Int) < rs.length := by omega
     obtain rfl : k = rs.length := by omega
     have HP := hid (show l.map pairOf = envP rs from by rw [HPl.out, HRs0.out]; exact List.take_of_length_le (by rw [envP_len]; exact Nat.le_refl _))
     obtain ⟨sA, sC, rfl, _, _, _⟩ := HSr.out.shs
     rw [hll] at q1
     have HGr : Hid (RowC strC 9 1 wr w4.heap.size (.slice gA gs.length gC) (gs.map Gl.name)) := hid (by
      refine (show RowC strC 9 1 w5 w4.heap.size (.slice gA gs.length gC) (gs.map Gl.name) from ?_).keep (fun b e => HKp.out.block b (own_lt HOwG.out e).2 (by have := (own_lt HOwG.out e).1; omega))
      have h := HOwG.out
      unfold RowC
      rw [show (gs.map Gl.name).length = gs.length by simp]
      exact h)
     have r0 := (HKp.out.cell (b := w.heap.size + 1) (o := 0) (by omega) (by omega)).trans ((HK5.out.cell (b := w.heap.size + 1) (o := 0) (by omega) (by omega)).trans HR0.out.1)
     have r1 := (HKp.out.cell (b := w.heap.size + 1) (o := 1) (by omega) (by omega)).trans ((HK5.out.cell (b := w.heap.size + 1) (o := 1) (by omega) (by omega)).trans HR0.out.2.1)
     have g0 := (World.frozen?_of_block (a := ⟨w.heap.size + 1, 0, none⟩) ((HKp.out.block (w.heap.size + 1) (by omega) (by omega)).trans (HK5.out.block (w.heap.size + 1) (by omega) (by omega)))).trans HR0.out.2.2.1
     have g1 := (World.frozen?_of_block (a := ⟨w.heap.size + 1, 1, none⟩) ((HKp.out.block (w.heap.size + 1) (by omega) (by omega)).trans (HK5.out.block (w.heap.size + 1) (by omega) (by omega)))).trans HR0.out.2.2.2
     rw [HGv.out] at q0
     obtain ⟨wz, hwz⟩ : ∃ wz, wz = (wr.setCell ⟨w.heap.size + 1, 0, none⟩ (.slice gA gs.length gC)).setCell ⟨w.heap.size + 1, 1, none⟩ (.slice sA rs.length sC) := ⟨_, rfl⟩
     have hzs : wz.heap.size = wr.heap.size := by rw [hwz]; simp
     have HBz := hid (show Below w.heap.size w wz from by rw [hwz]; exact (HWr.out.setCell (p := ⟨w.heap.size + 1, 0, none⟩) (by dsimp only; omega) _).setCell (p := ⟨w.heap.size + 1, 1, none⟩) (by dsimp only; omega) _)
     have hzb : ∀ b, ¬ b = w.heap.size + 1 → wz.heap[b]? = wr.heap[b]? := fun b hb => by rw [hwz, Below.heap_setCell _ _ _ _ hb, Below.heap_setCell _ _ _ _ hb]
     have hst := strs_row ((HGr.out.keep (w' := wz) (fun b e => hzb b (by have := (HGr.out.lt e).1; omega))).cs strC_len) (fun s hs => by obtain ⟨y, hy, rfl⟩ := List.mem_map.1 hs; exact (HWf.out.gs y hy).name)
     obtain ⟨sA2, sC2, esv, _, _, hshs⟩ := (HSr.out.keep (w' := wz) (by omega) (fun b hb _ => hzb b (by omega))).shs
     injection esv with e1 e2 e3
     subst e1 e3
     have HEv := hid (show EnvV gs rs wz (.agg #[.slice gA gs.length gC, .slice sA rs.length sC]) from ⟨gA, gC, sA, sC, l, rfl, hst, hll, HP.out, hshs⟩)
     have Hz := hid hwz
     clear hwz hzs hzb hshs hst hlt
     go_wp2_with fail
     refine bodyPost_ret (v := .tuple #[.agg #[.slice gA gs.length gC, .slice sA rs.length sC], .int .i64 0]) (by simp [results, Tryz.results7, go_sem, r0, r1]) rfl ?_
     rw [← Hz.out]
     exact ⟨Or.inl ⟨_, rfl, HC.out, HEv.out⟩, HBz.out⟩
/-- A world's environment: graft's Env. -/
theorem env_any (x : Wv) (lim : Int) (w : World) (hS : subW w (fun b => b < w.heap.size) x) (hb : bigW x) (hw : wfW x) (hE : EffAt w) :
  Calls Tryz.prog 7 #[.agg #[.slice x.fa x.fs.length x.fcap, .slice x.ga x.gs.length x.gcap, .slice x.ra x.rs.length x.rcap, .slice x.ha x.hs.length x.hcap, .int .i64 lim]] w fun e w' => EnvR x lim e w' ∧ Below w.heap.size w w' := by
 obtain ⟨fa, fcap, fs, ga, gcap, gs, ra, rcap, rs, ha, hcap, hs⟩ := x
 exact env_aux fa ga ra ha fcap gcap rcap hcap fs gs rs hs lim w hS hb hw hE
end Go.Proofs.YtldmanfgmadbfaaGreatDoor

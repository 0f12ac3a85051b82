/- A record in memory of its own: vm's copied. -/
import Derived.Test.YtecjnlekckmhfaaVHalf
namespace Go.Proofs.Ytecjnlekckmhfaa
open Go.RowKit
/-- Two boxes in a row: a record, and one that is filled in the end. -/
structure RcB (W : World) (g : Nat) (u0 u1 u2 r0 r1 r2 : Value) : Prop where
  u0 : W.cell? ⟨g, 0, none⟩ = some u0
  u1 : W.cell? ⟨g, 1, none⟩ = some u1
  u2 : W.cell? ⟨g, 2, none⟩ = some u2
  e1 : W.frozen? ⟨g, 1, none⟩ = false
  e2 : W.frozen? ⟨g, 2, none⟩ = false
  r0 : W.cell? ⟨g + 1, 0, none⟩ = some r0
  r1 : W.cell? ⟨g + 1, 1, none⟩ = some r1
  r2 : W.cell? ⟨g + 1, 2, none⟩ = some r2
  f0 : W.frozen? ⟨g + 1, 0, none⟩ = false
  f1 : W.frozen? ⟨g + 1, 1, none⟩ = false
  f2 : W.frozen? ⟨g + 1, 2, none⟩ = false
theorem RcB.keep {W W' : World} {g : Nat} {u0 u1 u2 r0 r1 r2 : Value} (h : RcB W g u0 u1 u2 r0 r1 r2) (h0 : W'.heap[g]? = W.heap[g]?) (h1 : W'.heap[g + 1]? = W.heap[g + 1]?) : RcB W' g u0 u1 u2 r0 r1 r2 := by
  have c : ∀ o, W'.cell? ⟨g, o, none⟩ = W.cell? ⟨g, o, none⟩ := fun o => World.cell?_of_block (w := W) h0
  have d : ∀ o, W'.cell? ⟨g + 1, o, none⟩ = W.cell? ⟨g + 1, o, none⟩ := fun o => World.cell?_of_block (w := W) h1
  have e : ∀ o, W'.frozen? ⟨g, o, none⟩ = W.frozen? ⟨g, o, none⟩ := fun o => World.frozen?_of_block (w := W) h0
  have f : ∀ o, W'.frozen? ⟨g + 1, o, none⟩ = W.frozen? ⟨g + 1, o, none⟩ := fun o => World.frozen?_of_block (w := W) h1
  exact ⟨(c _).trans h.u0, (c _).trans h.u1, (c _).trans h.u2, (e _).trans h.e1, (e _).trans h.e2, (d _).trans h.r0, (d _).trans h.r1, (d _).trans h.r2, (f _).trans h.f0, (f _).trans h.f1, (f _).trans h.f2⟩
theorem RcB.below {W W' : World} {g N : Nat} {u0 u1 u2 r0 r1 r2 : Value} (h : RcB W g u0 u1 u2 r0 r1 r2) (hb : Below N W W') (hN : g + 2 ≤ N) : RcB W' g u0 u1 u2 r0 r1 r2 := h.keep (hb.block _ (by omega)) (hb.block _ (by omega))
theorem RcB.set1 {W : World} {g : Nat} {u0 u1 u2 r0 r1 r2 : Value} (h : RcB W g u0 u1 u2 r0 r1 r2) (v : Value) : RcB (W.setCell ⟨g, 1, none⟩ v) g u0 v u2 r0 r1 r2 := by
  refine ⟨?_, World.cell?_setCell_same _ _ _ h.u1, ?_, by simpa using h.e1, by simpa using h.e2, ?_, ?_, ?_, by simpa using h.f0, by simpa using h.f1, by simpa using h.f2⟩
  · exact (World.cell?_setCell_other _ _ _ _ (by intro e; injection e with _ e; omega)).trans h.u0
  · exact (World.cell?_setCell_other _ _ _ _ (by intro e; injection e with _ e; omega)).trans h.u2
  · exact (World.cell?_setCell_other _ _ _ _ (by intro e; injection e with e; omega)).trans h.r0
  · exact (World.cell?_setCell_other _ _ _ _ (by intro e; injection e with e; omega)).trans h.r1
  · exact (World.cell?_setCell_other _ _ _ _ (by intro e; injection e with e; omega)).trans h.r2
theorem RcB.set2 {W : World} {g : Nat} {u0 u1 u2 r0 r1 r2 : Value} (h : RcB W g u0 u1 u2 r0 r1 r2) (v : Value) : RcB (W.setCell ⟨g, 2, none⟩ v) g u0 u1 v r0 r1 r2 := by
  refine ⟨?_, ?_, World.cell?_setCell_same _ _ _ h.u2, by simpa using h.e1, by simpa using h.e2, ?_, ?_, ?_, by simpa using h.f0, by simpa using h.f1, by simpa using h.f2⟩
  · exact (World.cell?_setCell_other _ _ _ _ (by intro e; injection e with _ e; omega)).trans h.u0
  · exact (World.cell?_setCell_other _ _ _ _ (by intro e; injection e with _ e; omega)).trans h.u1
  · exact (World.cell?_setCell_other _ _ _ _ (by intro e; injection e with e; omega)).trans h.r0
  · exact (World.cell?_setCell_other _ _ _ _ (by intro e; injection e with e; omega)).trans h.r1
  · exact (World.cell?_setCell_other _ _ _ _ (by intro e; injection e with e; omega)).trans h.r2
theorem rcB_born (w : World) (u0 u1 u2 r0 r1 r2 : Value) (t t' : TypeId) (W : World) (hW : W = (w.alloc (.cells #[u0, u1, u2] t)).alloc (.cells #[r0, r1, r2] t')) :
    RcB W w.heap.size u0 u1 u2 r0 r1 r2 ∧ W.heap.size = w.heap.size + 2 ∧ Below w.heap.size w W := by
  subst hW
  refine ⟨⟨?_, ?_, ?_, ?_, ?_, ?_, ?_, ?_, ?_, ?_, ?_⟩, by simp, below_2 _ _ _⟩ <;> go_simp
theorem bx2 (w : World) (u0 u1 : Value) (t : TypeId) (W : World) (hW : W = w.alloc (.cells #[u0, u1] t)) : W.cell? ⟨w.heap.size, 1, none⟩ = some u1 ∧ W.heap.size = w.heap.size + 1 ∧ Below w.heap.size w W := by
  subst hW
  refine ⟨?_, by simp, (Below.refl _ _).alloc (Nat.le_refl _) _⟩; go_simp
/-- How far the first loop is. -/
structure LpS (w w3 wr : World) (L1 : Nat) (a1 : Option Addr) (n cap1 : Nat) (nm : ByteArray) (mv : Value) (vs : List Sh) (k : Nat) : Prop where
  half : ∃ ks, Half wr L1 w3.heap.size a1 shC subS datS vs k ks
  box : RcB wr w.heap.size (.string nm) (.slice a1 n cap1) mv (.string ⟨#[]⟩) (.slice none 0 0) (.slice none 0 0)
  bel : Below w.heap.size w wr
  size : w3.heap.size ≤ wr.heap.size
structure LpM (w w3 wr : World) (L1 : Nat) (a1 : Option Addr) (n cap1 : Nat) (nm : ByteArray) (vv : Value) (ms : List Mv) (k : Nat) : Prop where
  half : ∃ ks, Half wr L1 w3.heap.size a1 mvC subM datM ms k ks
  box : RcB wr w.heap.size (.string nm) vv (.slice a1 n cap1) (.string ⟨#[]⟩) (.slice none 0 0) (.slice none 0 0)
  fr : Fr w.heap.size L1 w3 wr
theorem set_sh (s : Sh) (a : Option Addr) (c : Nat) : shC ⟨s.name, a, c, s.fs⟩ = (shC s).set 1 (.slice a s.fs.length c) := rfl
theorem set_mv (s : Mv) (a : Option Addr) (c : Nat) : mvC ⟨a, c, s.l⟩ = (mvC s).set 0 (.slice a s.l.length c) := rfl
set_option maxHeartbeats 8000000 in
theorem copied_any (w : World) (S : Nat → Prop) (x : Rc) (n m : Nat) (hA : subR w S x) (hS : ∀ b, S b → b < w.heap.size) (hbig : bigR x) (hn : n = x.vs.length) (hm : m = x.ms.length) :
    Calls Try.prog 10 #[.agg #[.string x.name, .slice x.va n x.vcap, .slice x.ma m x.mcap]] w fun e w' => ∃ y : Rc, e = .returned (.agg #[.string x.name, .slice y.va n y.vcap, .slice y.ma m y.mcap]) ∧ datR y = datR x ∧ Below w.heap.size w w' ∧ subR w' (fun b => w.heap.size ≤ b ∧ b < w'.heap.size) y := by
  have HN := hid hn
  have HM := hid hm
  have HBig := hid hbig
  have hnb : n * 40 ≤ 140737488355328 := by rw [hn]; exact hbig.v
  have hmb : m * 24 ≤ 140737488355328 := by rw [hm]; exact hbig.m
  clear hn hm
  obtain ⟨w2, hw2⟩ : ∃ w2, w2 = (w.alloc (.cells #[.string x.name, .slice x.va n x.vcap, .slice x.ma m x.mcap] 49)).alloc (.cells #[.string ⟨#[]⟩, .slice none 0 0, .slice none 0 0] 49) := ⟨_, rfl⟩
  obtain ⟨K2, hz2, hb2⟩ := rcB_born w _ _ _ _ _ _ _ _ w2 hw2
  have HC := hid (cloneSh w2 S x.va n x.vcap (flatC shC x.vs) (hA.v.below hb2 hS) (fun b hb => by have := hS b hb; omega) (by rw [flatC_length shC_len, HN.out]) (flatC_one shC_one _) (by omega))
  have H2 := hid hw2
  have HK2 := hid K2
  have HB2 := hid hb2
  have HA := hid hA
  have HRet := hid (fun (y : Rc) (h1 : y.name = x.name) (h2 : y.vs.map datS = x.vs.map datS) (h3 : y.ms.map datM = x.ms.map datM) => (by unfold datR; rw [h1, h2, h3] : datR y = datR x))
  have HSv := hid (fun i (hi : i < x.vs.length) => HA.out.vs _ (List.getElem_mem hi))
  have HSm := hid (fun i (hi : i < x.ms.length) => HA.out.ms _ (List.getElem_mem hi))
  have HMc := hid HA.out.m
  have HBs := hid (fun i (hi : i < x.vs.length) => HBig.out.vs _ (List.getElem_mem hi))
  have HBm := hid (fun i (hi : i < x.ms.length) => HBig.out.ms _ (List.getElem_mem hi))
  obtain ⟨nm, hnm⟩ : ∃ nm, nm = x.name := ⟨_, rfl⟩
  rw [← hnm] at HK2 H2 HRet ⊢
  clear hw2 hb2 hA hbig HA HBig K2 hnm
  generalize x.va = xva at *
  generalize x.vcap = xvc at *
  generalize x.ma = xma at *
  generalize x.mcap = xmc at *
  generalize x.vs = vs at *
  generalize x.ms = ms at *
  go_enter Try.func10, Try.ntmps10
  go_upto_region 1 with fail
  rw [← H2.out]
  obtain ⟨u0, u1, u2, e1, e2, r0, r1, r2, f0, f1, f2⟩ := HK2.out
  go_wp2_with fail
  have hcall := HC.out
  go_fit hcall
  clear hcall
  rintro e w3 ⟨a1, cap1, rfl, hc1, hF3⟩
  have hz3 := hF3.bel.size
  have K3 := HK2.out.below hF3.bel (by omega)
  have HB3 := hid (HB2.out.trans (hF3.bel.mono (by omega)))
  have K4 := K3.set1 (.slice a1 n cap1)
  obtain ⟨w4, hw4⟩ : ∃ w4, w4 = w3.setCell ⟨w.heap.size, 1, none⟩ (.slice a1 n cap1) := ⟨_, rfl⟩
  have hz4 : w4.heap.size = w3.heap.size := by rw [hw4]; simp
  have hB4 : Below w.heap.size w w4 := by rw [hw4]; exact HB3.out.setCell (p := ⟨w.heap.size, 1, none⟩) (Nat.le_refl _) _
  rw [← hw4] at K4
  have hH4 : Half w4 w2.heap.size w3.heap.size a1 shC subS datS vs 0 vs := (Half.begin hF3).drop (w' := w4) subS_keep (fun b h1 _ => by rw [hw4]; exact Below.heap_setCell _ _ _ _ (by dsimp only; omega)) (Nat.le_refl _) hz3 (by omega)
  have L4 := hid (LpS.mk ⟨vs, hH4⟩ K4 hB4 (by omega) : LpS w w3 w4 w2.heap.size a1 n cap1 nm (.slice xma m xmc) vs 0)
  have H4 := hid hw4
  clear u0 u1 u2 e1 e2 r0 r1 r2 f0 f1 f2
  obtain ⟨u0, u1, u2, e1, e2, r0, r1, r2, f0, f1, f2⟩ := K3
  clear hw4 hH4 hB4 K4 hF3
  go_upto_region 2 with fail
  rw [← H4.out]
  clear u0 u1 u2 e1 e2 r0 r1 r2 f0 f1 f2
  obtain ⟨u0, u1, u2, e1, e2, r0, r1, r2, f0, f1, f2⟩ := L4.out.box
  go_wp2_with fail
  clear u0 u1 u2 e1 e2 r0 r1 r2 f0 f1 f2
  have HZ4 := hid hz4
  clear hz4
  go_loopw [14] (fun i wr => ∃ k : Nat, k ≤ n ∧ i = .int .i64 k ∧ LpS w w3 wr w2.heap.size a1 n cap1 nm (.slice xma m xmc) vs k) (fun i _ => n - (intOf i).toNat)
  case atStart => exact ⟨0, Nat.zero_le _, rfl, L4.out⟩
  case round =>
    obtain ⟨k, hk, rfl, hL⟩ := hrel
    obtain ⟨ks, hH⟩ := hL.half
    have hlen := hH.len
    by_cases hlt : k < n
    · have hlt2 : (k : Int) < n := by omega
      have hk0 : k < vs.length := by rw [← HN.out]; exact hlt
      have hk2 : k < ks.length := by omega
      have hks := hH.rest k hk2 hk0 (Nat.le_refl _)
      obtain ⟨bb, o, rfl, hbb, h1⟩ := cell1 shC_len hH.row hk2 (by omega)
      have c0 := h1 0 _ rfl
      have c1 := h1 1 _ rfl
      have hfz : wr.frozen? ⟨bb, o + k * 2 + 1, none⟩ = false := by
        have := hH.free _ rfl (k * 2 + 1) (by rw [flatC_length shC_len]; omega)
        rw [Nat.add_assoc]; exact this
      simp only [Nat.add_zero] at c0
      rw [← Nat.add_assoc] at c1
      have hsub := HSv.out k hk0
      have hbg := HBs.out k hk0
      rw [← hks] at hsub hbg
      unfold subS at hsub
      unfold bigS at hbg
      obtain ⟨wb, hwb⟩ : ∃ wb, wb = wr.alloc (.cells #[.string ks[k].name, .slice ks[k].adr ks[k].fs.length ks[k].cap] 58) := ⟨_, rfl⟩
      obtain ⟨t1, hzb, hbb1⟩ := bx2 wr _ _ _ wb hwb
      have HStep := hid (fun (wq : World) (a2 : Option Addr) (cap2 : Nat) (hbq : Below wr.heap.size wr wq) (hrow : Cs wq (fun b => wb.heap.size ≤ b ∧ b < wq.heap.size) a2 (flatC strC ks[k].fs)) => (by
        have hp := hH.put shC_len subS_keep hk2 ⟨ks[k].name, a2, cap2, ks[k].fs⟩ rfl 1 (by omega) _ (set_sh ks[k] a2 cap2) hbq hL.size (hrow.keep (fun _ _ => rfl) (fun b hb => ⟨by have := hL.size; omega, hb.2⟩))
        rw [← Nat.add_assoc] at hp
        exact ⟨⟨_, hp⟩, (hL.box.below hbq (by have := hL.size; omega)).keep (Below.heap_setCell _ _ _ _ (by dsimp only; omega)) (Below.heap_setCell _ _ _ _ (by dsimp only; omega)), (hL.bel.trans (hbq.mono (by have := hL.size; omega))).setCell (p := ⟨bb, _, none⟩) (by dsimp only; omega) _, by simp; exact Nat.le_trans hL.size hbq.size⟩ : LpS w w3 (wq.setCell ⟨bb, o + k * 2 + 1, none⟩ (.slice a2 ks[k].fs.length cap2)) w2.heap.size (some ⟨bb, o, none⟩) n cap1 nm (.slice xma m xmc) vs (k + 1)))
      have HCb := hid (fun (w' : World) (hb : Below wb.heap.size wb w') => (cloneStr w' S ks[k].adr ks[k].fs.length ks[k].cap (flatC strC ks[k].fs) ((Cs.below hsub hL.bel hS).below (hbb1.trans (hb.mono (by omega))) (fun b hb => by have := hS b hb; have := hL.size; omega)) (fun b hb' => by have := hS b hb'; have := hb.size; have := hL.size; omega) (by rw [flatC_length strC_len]) (flatC_one strC_one _) (by omega)).mono (fun e w'' (h : ∃ a' cap', e = .returned (.slice a' ks[k].fs.length cap') ∧ ks[k].fs.length ≤ cap' ∧ FreshC w' w'' a' (flatC strC ks[k].fs)) => (by
        obtain ⟨a', cap', q1, _, q3⟩ := h
        exact ⟨a', cap', q1, hb.trans (q3.bel.mono hb.size), q3.row.keep (fun _ _ => rfl) (fun b hb' => ⟨by have := hb.size; omega, hb'.2⟩)⟩ : ∃ a' cap', e = .returned (.slice a' ks[k].fs.length cap') ∧ Below wb.heap.size wb w'' ∧ Cs w'' (fun b => wb.heap.size ≤ b ∧ b < w''.heap.size) a' (flatC strC ks[k].fs))))
      obtain ⟨u0, u1, u2, e1, e2, r0, r1, r2, f0, f1, f2⟩ := hL.box
      have hLs := hL.size
      have HK := hid (fun (w' : World) (hb : Below wb.heap.size wb w') => (⟨(hbb1.trans (hb.mono (by omega)) |>.cell (p := ⟨w.heap.size, 1, none⟩) (by dsimp only; omega)).trans u1, (hb.cell (p := ⟨wr.heap.size, 1, none⟩) (by dsimp only; omega)).trans t1⟩ : w'.cell? ⟨w.heap.size, 1, none⟩ = some (.slice (some ⟨bb, o, none⟩) n cap1) ∧ w'.cell? ⟨wr.heap.size, 1, none⟩ = some (.slice ks[k].adr ks[k].fs.length ks[k].cap)))
      have HKs := hid (fun (w' : World) (v : Value) (hb : Below wb.heap.size wb w') => (⟨(World.cell?_setCell_other _ _ _ _ (by intro e; injection e with e; omega)).trans (HK.out _ hb).1, (World.cell?_setCell_other _ _ _ _ (by intro e; injection e with e; omega)).trans (HK.out _ hb).2⟩ : (w'.setCell ⟨bb, o + k * 2 + 1, none⟩ v).cell? ⟨w.heap.size, 1, none⟩ = some (.slice (some ⟨bb, o, none⟩) n cap1) ∧ (w'.setCell ⟨bb, o + k * 2 + 1, none⟩ v).cell? ⟨wr.heap.size, 1, none⟩ = some (.slice ks[k].adr ks[k].fs.length ks[k].cap)))
      have HBw := hid (fun (w' : World) (hb : Below wb.heap.size wb w') => hbb1.trans (hb.mono (by omega)))
      have HQ := hid (fun (w' : World) (hb : Below wb.heap.size wb w') => (⟨(hbb1.trans (hb.mono (by omega)) |>.cell (p := ⟨bb, o + k * 2 + 1, none⟩) (by dsimp only; omega)).trans c1, (hbb1.trans (hb.mono (by omega)) |>.frozen (p := ⟨bb, o + k * 2 + 1, none⟩) (by dsimp only; omega)).trans hfz⟩ : w'.cell? ⟨bb, o + k * 2 + 1, none⟩ = some (.slice ks[k].adr ks[k].fs.length ks[k].cap) ∧ w'.frozen? ⟨bb, o + k * 2 + 1, none⟩ = false))
      have HWb := hid hwb
      have hbl : bb < wr.heap.size := by omega
      clear hH hL hsub hwb hbb1 hks h1 hlen hbg u0 u2 e1 e2 r0 r1 r2 f0 f1 f2
      generalize ks[k].fs = fs at *
      generalize ks[k].name = kn at *
      generalize ks[k].adr = ka at *
      generalize ks[k].cap = kc at *
      generalize fs.length = fl at *
      go_upto_region 5 with fail
      rw [← HWb.out]
      clear c0 c1 u1 hfz
      go_region_held3 (fun w' => w'.cell? ⟨w.heap.size, 1, none⟩ = some (.slice (some ⟨bb, o, none⟩) n cap1) ∧ w'.cell? ⟨wr.heap.size, 1, none⟩ = some (.slice ka fl kc))
        (first | (refine HK.out _ ?_; first | assumption | exact bdrew (Below.refl _ _) 1) | (refine HKs.out _ _ ?_; assumption))
        (first
        | (go_at_call 16; refine (HCb.out _ (by first | exact bdrew (Below.refl _ _) 1)).mono ?_; rintro e w10 ⟨a2, cap2, rfl, hb10, hr10⟩; have hq10 := HQ.out _ hb10; obtain ⟨hq1, hq2⟩ := hq10))
      all_goals
        have HX := hid (HStep.out _ _ cap2 (HBw.out _ hb10) hr10)
        clear hb10 hr10
        go_wp2_with fail
        go_roundw
        case rel => exact ⟨k + 1, by omega, by go_num, HX.out⟩
        case measure => simp [intOf]; omega
    · have hlt2 : ¬ (k : Int) < n := by omega
      obtain ⟨wv, rfl⟩ : ∃ wv, wv = wr := ⟨_, rfl⟩
      obtain ⟨hv1, hv2⟩ := hH.all subS_keep (by have := HN.out; omega) hz3 hL.size
      have HV := hid (And.intro hv1 hv2)
      have HD := hid hH.dat
      have HLen := hid (show n = ks.length by have := HN.out; omega)
      have hLs := hL.size
      have HBox := hid hL.box
      have HBv := hid hL.bel
      have HCm := hid (cloneMv wv S xma m xmc (flatC mvC ms) (HMc.out.below hL.bel hS) (fun b hb => by have := hS b hb; omega) (by rw [flatC_length mvC_len, HM.out]) (flatC_one mvC_one _) (by omega))
      obtain ⟨u0, u1, u2, e1, e2, r0, r1, r2, f0, f1, f2⟩ := hL.box
      clear hH hL hv1 hv2 hlen
      go_wp2_with fail
      have hcall := HCm.out
      go_fit hcall
      clear hcall
      rintro e w5 ⟨a3, cap3, rfl, hc3, hF5⟩
      have hz5 := hF5.bel.size
      have K5 := HBox.out.below hF5.bel (by omega)
      have K6 := K5.set2 (.slice a3 m cap3)
      obtain ⟨w6, hw6⟩ : ∃ w6, w6 = w5.setCell ⟨w.heap.size, 2, none⟩ (.slice a3 m cap3) := ⟨_, rfl⟩
      rw [← hw6] at K6
      have hz6 : w6.heap.size = w5.heap.size := by rw [hw6]; simp
      have hH6 : Half w6 wv.heap.size w5.heap.size a3 mvC subM datM ms 0 ms := (Half.begin hF5).drop (w' := w6) subM_keep (fun b h1 _ => by rw [hw6]; exact Below.heap_setCell _ _ _ _ (by dsimp only; omega)) (Nat.le_refl _) hz5 (by omega)
      rw [← hz6] at hH6
      have L6 := hid (LpM.mk ⟨ms, hH6⟩ K6 (Fr.refl _ _ _) : LpM w w6 w6 wv.heap.size a3 m cap3 nm (.slice a1 n cap1) ms 0)
      have HFr := hid (show Fr w.heap.size wv.heap.size wv w6 by rw [hw6]; exact (Fr.of hF5.bel).setCell (Or.inl rfl) _)
      have H6 := hid hw6
      clear u0 u1 u2 e1 e2 r0 r1 r2 f0 f1 f2
      obtain ⟨u0, u1, u2, e1, e2, r0, r1, r2, f0, f1, f2⟩ := K5
      have hs6 : wv.heap.size ≤ w6.heap.size := by omega
      clear hw6 hH6 K6 hF5 hz6
      go_upto_region 8 with fail
      rw [← H6.out]
      clear u0 u1 u2 e1 e2 r0 r1 r2 f0 f1 f2
      obtain ⟨u0, u1, u2, e1, e2, r0, r1, r2, f0, f1, f2⟩ := L6.out.box
      go_wp2_with fail
      clear u0 u1 u2 e1 e2 r0 r1 r2 f0 f1 f2 hlt2 hlt hk
      go_loopw [35] (fun i wr => ∃ k : Nat, k ≤ m ∧ i = .int .i64 k ∧ LpM w w6 wr wv.heap.size a3 m cap3 nm (.slice a1 n cap1) ms k) (fun i _ => m - (intOf i).toNat)
      case atStart => exact ⟨0, Nat.zero_le _, rfl, L6.out⟩
      case round =>
        obtain ⟨j, hj, rfl, hL⟩ := hrel
        obtain ⟨js, hH⟩ := hL.half
        have hlen := hH.len
        have hLs2 := hL.fr.size
        by_cases hlt : j < m
        · have hlt2 : (j : Int) < m := by omega
          have hj0 : j < ms.length := by rw [← HM.out]; exact hlt
          have hj2 : j < js.length := by omega
          have hjs := hH.rest j hj2 hj0 (Nat.le_refl _)
          obtain ⟨bb, o, rfl, hbb, h1⟩ := cell1 mvC_len hH.row hj2 (by omega)
          have c0 := h1 0 _ rfl
          have hfz : wr.frozen? ⟨bb, o + j, none⟩ = false := hH.free _ rfl j (by rw [flatC_length mvC_len]; omega)
          simp only [Nat.add_zero, Nat.mul_one] at c0
          have hsub := HSm.out j hj0
          have hbg := HBm.out j hj0
          rw [← hjs] at hsub hbg
          unfold subM at hsub
          unfold bigM at hbg
          have hbw : Below w.heap.size w wr := HBv.out.trans ((HFr.out.below (by omega)).trans (hL.fr.below (by omega)))
          have HStep := hid (fun (wq : World) (a2 : Option Addr) (cap2 : Nat) (hbq : Below wr.heap.size wr wq) (hrow : Cs wq (fun b => wr.heap.size ≤ b ∧ b < wq.heap.size) a2 (flatC intC js[j].l)) => (by
            have hp := hH.put mvC_len subM_keep hj2 ⟨a2, cap2, js[j].l⟩ rfl 0 (by omega) _ (set_mv js[j] a2 cap2) hbq hLs2 (hrow.keep (fun _ _ => rfl) (fun b hb => ⟨by omega, hb.2⟩))
            simp only [Nat.add_zero, Nat.mul_one] at hp
            exact ⟨⟨_, hp⟩, (hL.box.below hbq (by omega)).keep (Below.heap_setCell _ _ _ _ (by dsimp only; omega)) (Below.heap_setCell _ _ _ _ (by dsimp only; omega)), ((hL.fr).trans (Fr.of (hbq.mono (by omega)))).setCell (Or.inr (by omega)) _⟩ : LpM w w6 (wq.setCell ⟨bb, o + j, none⟩ (.slice a2 js[j].l.length cap2)) wv.heap.size (some ⟨bb, o, none⟩) m cap3 nm (.slice a1 n cap1) ms (j + 1)))
          have HCb := hid (fun (w' : World) (hb : Below wr.heap.size wr w') => (cloneInt w' S js[j].adr js[j].l.length js[j].cap (flatC intC js[j].l) ((Cs.below hsub hbw hS).below hb (fun b hb => by have := hS b hb; omega)) (fun b hb' => by have := hS b hb'; have := hb.size; omega) (by rw [flatC_length intC_len]) (flatC_one intC_one _) (by omega)).mono (fun e w'' (h : ∃ a' cap', e = .returned (.slice a' js[j].l.length cap') ∧ js[j].l.length ≤ cap' ∧ FreshC w' w'' a' (flatC intC js[j].l)) => (by
            obtain ⟨a', cap', q1, _, q3⟩ := h
            exact ⟨a', cap', q1, hb.trans (q3.bel.mono hb.size), q3.row.keep (fun _ _ => rfl) (fun b hb' => ⟨by have := hb.size; omega, hb'.2⟩)⟩ : ∃ a' cap', e = .returned (.slice a' js[j].l.length cap') ∧ Below wr.heap.size wr w'' ∧ Cs w'' (fun b => wr.heap.size ≤ b ∧ b < w''.heap.size) a' (flatC intC js[j].l))))
          obtain ⟨u0, u1, u2, e1, e2, r0, r1, r2, f0, f1, f2⟩ := hL.box
          have HK := hid (fun (w' : World) (hb : Below wr.heap.size wr w') => ((hb.cell (p := ⟨w.heap.size, 2, none⟩) (by dsimp only; omega)).trans u2 : w'.cell? ⟨w.heap.size, 2, none⟩ = some (.slice (some ⟨bb, o, none⟩) m cap3)))
          have HKs := hid (fun (w' : World) (v : Value) (hb : Below wr.heap.size wr w') => ((World.cell?_setCell_other _ _ _ _ (by intro e; injection e with e; omega)).trans (HK.out _ hb) : (w'.setCell ⟨bb, o + j, none⟩ v).cell? ⟨w.heap.size, 2, none⟩ = some (.slice (some ⟨bb, o, none⟩) m cap3)))
          have hbl : bb < wr.heap.size := by omega
          have HQ := hid (fun (w' : World) (hb : Below wr.heap.size wr w') => (⟨(hb.cell (p := ⟨bb, o + j, none⟩) hbl).trans c0, (hb.frozen (p := ⟨bb, o + j, none⟩) hbl).trans hfz⟩ : w'.cell? ⟨bb, o + j, none⟩ = some (.slice js[j].adr js[j].l.length js[j].cap) ∧ w'.frozen? ⟨bb, o + j, none⟩ = false))
          clear hH hL hsub hjs h1 hlen hbg u0 u1 e1 e2 r0 r1 r2 f0 f1 f2 hbw hfz
          generalize js[j].l = li at *
          generalize js[j].adr = ka at *
          generalize js[j].cap = kc at *
          generalize li.length = ll at *
          go_upto_region 11 with fail
          clear c0 u2
          go_region_held3 (fun w' => w'.cell? ⟨w.heap.size, 2, none⟩ = some (.slice (some ⟨bb, o, none⟩) m cap3))
            (first | (refine HK.out _ ?_; first | assumption | exact bdrew (Below.refl _ _) 1) | (refine HKs.out _ _ ?_; assumption))
            (first
            | (go_at_call 18; refine (HCb.out _ (by first | exact bdrew (Below.refl _ _) 1)).mono ?_; rintro e w10 ⟨a2, cap2, rfl, hb10, hr10⟩; have hq10 := HQ.out _ hb10; obtain ⟨hq1, hq2⟩ := hq10))
          all_goals
            have HX := hid (HStep.out _ _ cap2 hb10 hr10)
            clear hb10 hr10
            go_wp2_with fail
            go_roundw
            case rel => exact ⟨j + 1, by omega, by go_num, HX.out⟩
            case measure => simp [intOf]; omega
        · have hlt2 : ¬ (j : Int) < m := by omega
          obtain ⟨hm1, hm2⟩ := hH.all subM_keep (by have := HM.out; omega) hs6 hLs2
          have hbw : Below w.heap.size w wr := HBv.out.trans ((HFr.out.below (by omega)).trans (hL.fr.below (by omega)))
          obtain ⟨wz, hwz⟩ : ∃ wz, wz = ((wr.setCell ⟨w.heap.size + 1, 0, none⟩ (.string nm)).setCell ⟨w.heap.size + 1, 1, none⟩ (.slice a1 n cap1)).setCell ⟨w.heap.size + 1, 2, none⟩ (.slice a3 m cap3) := ⟨_, rfl⟩
          have hz : ∀ b, ¬ b = w.heap.size + 1 → wz.heap[b]? = wr.heap[b]? := fun b hb => by
            rw [hwz, Below.heap_setCell _ _ _ _ (by dsimp only; omega), Below.heap_setCell _ _ _ _ (by dsimp only; omega), Below.heap_setCell _ _ _ _ (by dsimp only; omega)]
          have hzs : wz.heap.size = wr.heap.size := by rw [hwz]; simp
          have hvz : ∀ b, w2.heap.size ≤ b ∧ b < wv.heap.size → wz.heap[b]? = wv.heap[b]? := fun b hb => (hz b (by omega)).trans ((hL.fr.blk b hb.2 (by omega)).trans (HFr.out.blk b hb.2 (by omega)))
          have hvs : ∀ b, w2.heap.size ≤ b ∧ b < wv.heap.size → w.heap.size ≤ b ∧ b < wz.heap.size := fun b hb => ⟨by omega, by have := HFr.out.size; omega⟩
          have hmz : ∀ b, wv.heap.size ≤ b ∧ b < wr.heap.size → wz.heap[b]? = wr.heap[b]? := fun b hb => hz b (by omega)
          have hms : ∀ b, wv.heap.size ≤ b ∧ b < wr.heap.size → w.heap.size ≤ b ∧ b < wz.heap.size := fun b hb => ⟨by omega, by omega⟩
          have HSub := hid (⟨HV.out.1.keep hvz hvs, fun s hs => subS_keep (HV.out.2 s hs) hvz hvs, hm1.keep hmz hms, fun x hx => subM_keep (hm2 x hx) hmz hms⟩ : subR wz (fun b => w.heap.size ≤ b ∧ b < wz.heap.size) ⟨nm, a1, cap1, ks, a3, cap3, js⟩)
          have HDat := hid (HRet.out ⟨nm, a1, cap1, ks, a3, cap3, js⟩ rfl HD.out hH.dat)
          have HBz := hid (show Below w.heap.size w wz by
            rw [hwz]; exact ((hbw.setCell (p := ⟨w.heap.size + 1, 0, none⟩) (by dsimp only; omega) _).setCell (p := ⟨w.heap.size + 1, 1, none⟩) (by dsimp only; omega) _).setCell (p := ⟨w.heap.size + 1, 2, none⟩) (by dsimp only; omega) _)
          obtain ⟨u0, u1, u2, e1, e2, r0, r1, r2, f0, f1, f2⟩ := hL.box
          have HWz := hid hwz
          clear hH hL hm1 hm2 hwz hz hzs hvz hvs hmz hms hbw hlen
          go_wp2_with fail
          refine bodyPost_ret (v := .agg #[.string nm, .slice a1 n cap1, .slice a3 m cap3]) (by simp [results, Try.results10, go_sem, r0, r1, r2]) rfl ?_
          rw [← HWz.out]
          exact ⟨⟨nm, a1, cap1, ks, a3, cap3, js⟩, rfl, HDat.out, HBz.out, HSub.out⟩
end Go.Proofs.Ytecjnlekckmhfaa

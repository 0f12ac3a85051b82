/- A heap has so much room, and no more: HeapFull returns true for every number. No condition. -/
import Derived.Test.YtiiiockogcopaaaRows
import Derived.Test.YtiiiockogcopaaaHPut
import Derived.Test.YtiiiockogcopaaaHPrs
import Derived.Test.YtiiiockogcopaaaPicked
import Derived.Test.YtiiiockogcopaaaHFull
namespace Go.Proofs.Ytiiiockogcopaaa
set_option maxRecDepth 100000
open Go.ChangeShapes Go.WideShapes Go.ChangeAt Go.RowKit
theorem wds_three (w : World) (x y z : Wd) (t : TypeId) : Wds (w.alloc (.cells #[.int .i64 x.k, .int .i64 x.n, .string x.s, .int .i64 y.k, .int .i64 y.n, .string y.s, .int .i64 z.k, .int .i64 z.n, .string z.s] t)) (w.heap.size + 1) (some ⟨w.heap.size, 0, none⟩) [x, y, z] := by
  refine Wds.made (by omega) (fun j _ => ?_)
  rw [Nat.zero_add, World.cell?_alloc_at _ _ _ j rfl]
  simp [wcs]
theorem wds_single (w : World) (x : Wd) (t : TypeId) : Wds (w.alloc (.cells #[.int .i64 x.k, .int .i64 x.n, .string x.s] t)) (w.heap.size + 1) (some ⟨w.heap.size, 0, none⟩) [x] := by
  refine Wds.made (by omega) (fun j _ => ?_)
  rw [Nat.zero_add, World.cell?_alloc_at _ _ _ j rfl]
  simp [wcs]
/-- How far the loop is. -/
structure FlI (w wr : World) (lim : Int) (k : Nat) : Prop where
  room : 3 * (k : Int) ≤ lim
  bel : Below w.heap.size w wr
  box : ∃ a cap, wr.cell? ⟨w.heap.size, 0, none⟩ = some (.slice a (3 * k) cap) ∧ 3 * k ≤ cap ∧ Wds wr wr.heap.size a (prs k)
  lm : wr.cell? ⟨w.heap.size, 1, none⟩ = some (.int .i64 lim)
  f0 : wr.frozen? ⟨w.heap.size, 0, none⟩ = false
  f1 : wr.frozen? ⟨w.heap.size, 1, none⟩ = false
  ok : ∃ acc ms, OkC lim (prs k) acc ms
  wf : wfL (prs k)
set_option maxHeartbeats 4000000 in
theorem full_walk (n : Int) (w : World) (hn : wfI n) :
    Calls Try.prog 8 #[.int .i64 n] w fun e w' => e = .returned (.bool true) ∧ Below w.heap.size w w' := by
  have hn2 : -9223372036854775808 ≤ n ∧ n ≤ 9223372036854775807 := by
    simp [wfI, Lit.wf, IntKind.min, IntKind.max, IntKind.signed, IntKind.bits] at hn; omega
  have hp := pick_range n 40 (by omega)
  have HP := hid (picked_any n 40 w hn2.1 hn2.2 (by omega) (by omega))
  generalize pick n 40 = q at hp HP
  obtain ⟨lim, hlim⟩ : ∃ lim, lim = 50 + q := ⟨_, rfl⟩
  obtain ⟨w1, hw1⟩ : ∃ w1, w1 = w.alloc (.cells #[.slice none 0 0, .int .i64 (50 + q)] 24) := ⟨_, rfl⟩
  have hF1 : FlI w w1 lim 0 := by
    rw [hw1, hlim]
    exact ⟨by omega, (Below.refl _ _).alloc (Nat.le_refl _) _, ⟨none, 0, by go_simp, Nat.le_refl _, fun i hi => absurd hi (by simp [prs])⟩, by go_simp, by go_simp, by go_simp, ⟨[], [], okC_nil (by omega) (by omega)⟩, wfL_nil0⟩
  have HF1 := hid hF1
  have H1 := hid hw1
  have hl1 : 50 ≤ lim := by omega
  have hl2 : lim ≤ 89 := by omega
  clear hw1 hF1 hlim hn2 hn
  go_enter Try.func8, Try.ntmps8
  go_wp2_with fail
  have hcall := HP.out
  go_fit hcall
  clear hcall
  rintro e w0 ⟨rfl, h0⟩; subst w0
  go_upto_region 2 with fail
  rw [← H1.out]
  go_wp2_with fail
  clear HP hp
  go_loopw [4, 5, 6, 7] (fun c _ _ _ wr => ∃ k : Nat, c = .int .i64 k ∧ FlI w wr lim k) (fun c _ _ _ _ => 100 - (intOf c).toNat)
  case atStart => exact ⟨0, rfl, HF1.out⟩
  case round =>
    obtain ⟨k, rfl, hF⟩ := hrel
    obtain ⟨a, cap, c0, hcap, hW⟩ := hF.box
    obtain ⟨acc, ms, hok⟩ := hF.ok
    have c1 := hF.lm
    have hsz := hF.bel.size
    have hbl : w.heap.size < wr.heap.size := World.block_lt_of_cell? wr _ c0
    obtain ⟨w2, hw2⟩ : ∃ w2, w2 = wr.alloc (.cells #[.int .i64 6, .int .i64 0, .string ⟨#[]⟩, .int .i64 3, .int .i64 0, .string ⟨#[]⟩, .int .i64 3, .int .i64 0, .string ⟨#[]⟩] 42) := ⟨_, rfl⟩
    have hX := wds_three wr wP wN wN 42
    rw [← hw2] at hX
    have hb2 : Below wr.heap.size wr w2 := by rw [hw2]; exact (Below.refl _ _).alloc (Nat.le_refl _) _
    have hz2 : w2.heap.size = wr.heap.size + 1 := by rw [hw2]; simp
    have HPut := hid (Put_any w2 w2.heap.size a (3 * k) cap (prs k) lim (some ⟨wr.heap.size, 0, none⟩) 3 3 [wP, wN, wN] ((hW.below hb2).mono (by omega)) (Nat.le_refl _) (prs_length k).symm hcap (by have := hF.room; omega) hF.wf (hX.mono (by omega)) rfl wfW (by omega))
    have HG := hid (fun acc => (pair_grows (fun _ => ⟨rfl, rfl⟩) : grB (prs k) [wP, wN, wN] acc = true))
    have H2 := hid hw2
    have HFk := hid hF
    have HOk := hid hok
    have hk30 : (k : Int) ≤ 30 := by have := hF.room; omega
    have HB2 := hid (hF.bel.trans (hb2.mono (by omega)))
    have k0 := (hb2.cell (p := ⟨w.heap.size, 0, none⟩) hbl).trans c0
    have k1 := (hb2.cell (p := ⟨w.heap.size, 1, none⟩) hbl).trans c1
    have e0 := (hb2.frozen (p := ⟨w.heap.size, 0, none⟩) hbl).trans hF.f0
    have e1 := (hb2.frozen (p := ⟨w.heap.size, 1, none⟩) hbl).trans hF.f1
    have HW := hid hW
    have hW' := hW.below hb2
    have HW' := hid (hW'.mono (show wr.heap.size ≤ w2.heap.size by omega))
    clear hw2 hb2 hX hF hok hW hW'
    go_wp2_with fail
    rw [← H2.out]
    have hcall := HPut.out
    go_fit hcall
    clear hcall
    rintro e w3 ⟨l', lim', p, r, a', cap', rfl, hpu, hc3, hW3, hb3, hN3⟩
    have hzz := hb3.size
    have hW' := HW'.out
    have hb3' := hb3
    have m0 := (hb3.cell (p := ⟨w.heap.size, 0, none⟩) (by dsimp only; omega)).trans k0
    have m1 := (hb3.cell (p := ⟨w.heap.size, 1, none⟩) (by dsimp only; omega)).trans k1
    have g0 := (hb3.frozen (p := ⟨w.heap.size, 0, none⟩) (by dsimp only; omega)).trans e0
    have g1 := (hb3.frozen (p := ⟨w.heap.size, 1, none⟩) (by dsimp only; omega)).trans e1
    have HB3 := hid (HB2.out.trans (hb3.mono (by omega)))
    have hlen := prs_length k
    have hbad : ¬ BadC lim (prs k) := HOk.out.not_bad
    rcases hpu with ⟨h, _⟩ | ⟨acc', ms', hok', ⟨h, _⟩ | ⟨_, hno, rfl, rfl, rfl, rfl⟩ | ⟨_, hyes, ⟨h, _⟩ | ⟨_, h1, h2, h3, h4⟩⟩⟩
    · exact absurd h hbad
    · cases h
    · have hno2 : lim < 3 * (k : Int) + 3 := by rw [hlen] at hno; simp at hno; omega
      have hro := HFk.out.room
      have hk3 : lim / 3 = (k : Int) := by omega
      obtain ⟨w4, hw4⟩ : ∃ w4, w4 = w3.alloc (.cells #[.slice a' 0 cap', .int .i64 0] 24) := ⟨_, rfl⟩
      obtain ⟨w5, hw5⟩ : ∃ w5, w5 = w4.alloc (.cells #[.int .i64 3, .int .i64 0, .string ⟨#[]⟩] 42) := ⟨_, rfl⟩
      have hX := wds_single w4 wN 42
      rw [← hw5] at hX
      have hz4 : w4.heap.size = w3.heap.size + 1 := by rw [hw4]; simp
      have hz5 : w5.heap.size = w4.heap.size + 1 := by rw [hw5]; simp
      have hb4 : Below w3.heap.size w3 w4 := by rw [hw4]; exact (Below.refl _ _).alloc (Nat.le_refl _) _
      have hb5 : Below w4.heap.size w4 w5 := by rw [hw5]; exact (Below.refl _ _).alloc (Nat.le_refl _) _
      have hb35 := hb4.trans (hb5.mono (by omega))
      have hWr5 := (((hW'.below hb3').below (hb35.mono (by omega))).mono (show w2.heap.size ≤ w5.heap.size by omega))
      have HPut2 := hid (Put_any w5 w5.heap.size a (3 * k) cap (prs k) lim (some ⟨w4.heap.size, 0, none⟩) 1 1 [wN] hWr5 (Nat.le_refl _) hlen.symm hcap (by omega) HFk.out.wf (hX.mono (by omega)) rfl wfN (by omega))
      have HB5 := hid (HB3.out.trans (hb35.mono (by omega)))
      have H4 := hid hw4
      have H5 := hid hw5
      have n0 := (hb4.cell (p := ⟨w.heap.size, 0, none⟩) (by dsimp only; omega)).trans m0
      have n1 := (hb4.cell (p := ⟨w.heap.size, 1, none⟩) (by dsimp only; omega)).trans m1
      have hls : w.heap.size < w3.heap.size := by omega
      have hm5 := (hb5.cell (p := ⟨w.heap.size, 1, none⟩) (by dsimp only; omega)).trans n1
      have HK3 := hid hk3
      have HZ := hid (And.intro hz4 hz5)
      clear hw4 hw5 hX hz4 hz5 hb4 hb5 hb35 hWr5 hk3 hb3 hW3 hno hno2 hW' hb3' hbad k0 k1 e0 e1
      go_upto_region 4 with fail
      rw [← H4.out]
      clear m0 m1 g0 g1
      go_wp2_with fail
      rw [← H5.out]
      have hcall := HPut2.out
      go_fit hcall
      clear hcall
      rintro e w6 ⟨l2, lim2, p2, r2, a2, cap2, rfl, hpu2, hc6, hW6, hb6, hN6⟩
      have hz := HZ.out
      have hr2 : r2 = 12 ∨ r2 = 4 := by
        rcases hpu2 with ⟨h, _⟩ | ⟨acc2, ms2, hok2, ⟨h, _⟩ | ⟨_, _, _, _, _, h⟩ | ⟨_, _, ⟨_, _, _, _, h⟩ | ⟨h, _⟩⟩⟩
        · exact absurd h HOk.out.not_bad
        · cases h
        · exact Or.inl h
        · exact Or.inr h
        · rw [grB_not tAt_nil] at h; cases h
      have m1 := (hb6.cell (p := ⟨w.heap.size, 1, none⟩) (by dsimp only; omega)).trans hm5
      have HB6 := hid (HB5.out.trans (hb6.mono (by omega)))
      have hk3 := HK3.out
      have hls6 : w.heap.size < w6.heap.size := by have := hb6.size; omega
      have hz6 : w.heap.size ≤ w6.heap.size := by omega
      clear hpu2 hW6 hb6 n0 n1 hm5
      obtain ⟨n2, hn2⟩ : ∃ n2, n2 = List.length l2 := ⟨_, rfl⟩
      rw [← hn2]
      clear hn2
      rcases hr2 with rfl | rfl
      · go_wp2_with fail
        go_ret
        exact ⟨by simp, HB6.out.alloc hz6 _⟩
      · go_wp2_with fail
        go_ret
        exact ⟨by simp, HB6.out.alloc hz6 _⟩
    · rw [HG.out acc'] at h; cases h
    · subst l' lim' p r
      have hp : (((prs k).length : Nat) : Int) = 3 * (k : Int) := by rw [hlen]; omega
      have hl' : (prs k ++ [wP, wN, wN]).length = 3 * (k + 1) := by rw [List.length_append, hlen]; simp; omega
      obtain ⟨_, _, acc3, ms3, hok3⟩ := grow_yes hok' (by simp) hyes (HG.out acc')
      have hwf3 : wfL (prs (k + 1)) := wfL_app HFk.out.wf wfW
      have hroom3 : 3 * ((k + 1 : Nat) : Int) ≤ lim := by rw [hlen] at hyes; simp at hyes; omega
      rw [hl'] at hc3
      obtain ⟨w4, hw4⟩ : ∃ w4, w4 = w3.alloc (.cells #[.slice a' (3 * (k + 1)) cap', .int .i64 lim] 24) := ⟨_, rfl⟩
      have hz4 : w4.heap.size = w3.heap.size + 1 := by rw [hw4]; simp
      have hb4 : Below w3.heap.size w3 w4 := by rw [hw4]; exact (Below.refl _ _).alloc (Nat.le_refl _) _
      have t0 : w4.cell? ⟨w3.heap.size, 0, none⟩ = some (.slice a' (3 * (k + 1)) cap') := by rw [hw4]; go_simp
      have t1 : w4.cell? ⟨w3.heap.size, 1, none⟩ = some (.int .i64 lim) := by rw [hw4]; go_simp
      have hls : w.heap.size < w3.heap.size := by omega
      have n0 := (hb4.cell (p := ⟨w.heap.size, 0, none⟩) hls).trans m0
      have n1 := (hb4.cell (p := ⟨w.heap.size, 1, none⟩) hls).trans m1
      have i0 := (hb4.frozen (p := ⟨w.heap.size, 0, none⟩) hls).trans g0
      have i1 := (hb4.frozen (p := ⟨w.heap.size, 1, none⟩) hls).trans g1
      have hW4 := (hW3.below hb4).mono (show w3.heap.size ≤ w4.heap.size by omega)
      have HNew := hid (show FlI w ((w4.setCell ⟨w.heap.size, 0, none⟩ (.slice a' (3 * (k + 1)) cap')).setCell ⟨w.heap.size, 1, none⟩ (.int .i64 lim)) lim (k + 1) from
        ⟨hroom3, below_set2s (HB3.out.trans (hb4.mono (by omega))) (Nat.le_refl _), ⟨a', cap', (World.cell?_setCell_other _ _ _ _ (by intro e; injection e with _ e; omega)).trans (World.cell?_setCell_same _ _ _ n0), hc3, hW4.kept (by simp) (fun A hA => by
          have := hN3 A hA
          rw [Below.heap_setCell _ _ _ _ (by dsimp only; omega), Below.heap_setCell _ _ _ _ (by dsimp only; omega)])⟩, World.cell?_setCell_same _ _ _ ((World.cell?_setCell_other _ _ _ _ (by intro e; injection e with _ e; omega)).trans n1), by simpa using i0, by simpa using i1, ⟨acc3, ms3, hok3⟩, hwf3⟩)
      rw [hp, hl']
      have H4 := hid hw4
      clear hw4 hb4 hW4 hW3 hb3 hok3 hyes hok' hwf3 hp hl' hb3' hW' hbad k0 k1 e0 e1 hlen hz4
      go_upto_region 4 with fail
      rw [← H4.out]
      clear m0 m1 g0 g1
      go_wp2_with fail
      go_roundw
      case rel => exact ⟨k + 1, by go_num, HNew.out⟩
      case measure => simp [intOf]; omega
set_option maxRecDepth 100000 in
theorem heapFull_lifted (os : Os) (started : os.Started) (H : Type) (enc : TypeId × Value → H) :
    ReturnsInHanded {} Try.checked os 8 .any (Rows.heapFullSpec.pre6 enc Try.prog Try.f8 Rows.heapFullRow.domain false) (Rows.heapFullSpec.post enc Try.prog Try.f8 false true false false) := by
  refine returnsInHanded_of_change_sized (C := Try.checked) own started (by kernel_rfl) Try.func8
    (ChangeSpec.witness6 (enc := enc) (C := Try.checked) false ⟨#[], #[.int .i64 0], []⟩ 8 (by kernel_rfl) (by kernel_rfl) (by kernel_rfl) (by kernel_rfl)) ?_
  intro W base args ds gs before hval0 hW hcnd hsz0 _
  have hval : ∀ (j : Nat) t v, Try.f8.params[j]? = some t → args[j]? = some v → Value.okWide Try.prog W .any base t v := hval0
  have hsz : (DataW.weightsEach Try.prog (Try.f8.params.toList ++ Rows.heapFullSpec.plain.varTypes Try.prog) (ds ++ gs)).all (· ≤ reachBytes) = true := hsz0
  have hW' := hW
  obtain ⟨p, q, hA0, hV, rfl, hfz, hnd⟩ := hW
  have hA : DataW.TrodAll enc Try.prog W 0 (fun _ => true) true Try.f8.params.toList args.toList ds p := hA0
  rw [Try.params8] at hA hval hsz
  obtain ⟨v0, vs0, d0, ds0, p0, q0, hargs0, rfl, rfl, h0, r0⟩ := trodAll_cons hA
  obtain ⟨rfl, rfl, rfl⟩ := trodAll_nil r0
  obtain rfl : args = #[v0] := by cases args; simp_all
  obtain ⟨rfl, rfl⟩ := trodVars_none hV
  obtain ⟨i0, rfl, rfl, rfl, wn0⟩ := open_int Try.underlying3 (hval 0 3 v0 rfl rfl) h0
  clear hA0 hval0 hsz0 hsz
  refine (full_walk i0 W wn0).mono fun e W' ⟨he, bel⟩ => ?_
  subst he
  exact ⟨_, rfl, _, _, _, [], _, [], hW', trodAll_mk1 (shut_bool Try.underlying4 _), (trodAll_cons_mk (shut_int Try.underlying3 wn0) trodAll_mk0), rfl, bel.frame _, fun h => by cases h⟩
theorem heapFull_holds : Rows.HeapFullSaid :=
  OpenClaim.holds_of_wide 8 Try.f8 rfl rfl rfl rfl rfl rfl rfl ⟨rfl, rfl, rfl, rfl, rfl⟩ rfl rfl rfl rfl rfl (by kernel_rfl) Try.func8 (by kernel_rfl)
    (of_decide_eq_true (by kernel_rfl)) (by unfold Func.isWrapper; first | (rw [if_pos (by decide +kernel)]; kernel_rfl) | (rw [if_neg (by decide +kernel)]; exact ⟨rfl, rfl⟩))
    (fun os started H enc _ => heapFull_lifted os started H enc)
#print axioms heapFull_holds
end Go.Proofs.Ytiiiockogcopaaa

/- What is put can be got back, part by part, and changed: PartsBack returns true for all raw things and numbers that can be read, and leaves them as they were. No condition. -/
import Derived.Test.YtiiiockogcopaaaRows
import Derived.Test.YtiiiockogcopaaaHPb
namespace Go.Proofs.Ytiiiockogcopaaa
set_option maxRecDepth 100000
open Go.ChangeShapes Go.WideShapes Go.ChangeAt Go.RowKit
set_option maxHeartbeats 4000000 in
theorem parts_walk (ar : Option Addr) (R : List Rw4) (nr cr : Nat) (j1 j2 j3 : Int) (w : World) (hnr : nr = R.length) (hnb : nr ≤ 9223372036854775807) (hR : RawS w w.heap.size ar R) (hj1 : wfI j1) (hj2 : wfI j2) (hj3 : wfI j3) :
    Calls Try.prog 7 #[.slice ar nr cr, .int .i64 j1, .int .i64 j2, .int .i64 j3] w fun e w' => e = .returned (.bool true) ∧ Below w.heap.size w w' := by
  have hi1 := i64_of hj1
  have hi2 := i64_of hj2
  have hi3 := i64_of hj3
  have HC := hid (built_any w w.heap.size ar nr cr R 25 hR (Nat.le_refl _) hnr hnb (by omega))
  clear hR hnr hnb hj1 hj2 hj3
  go_enter Try.func7, Try.ntmps7
  go_wp2_with fail
  have hcall := HC.out
  rw [show ((25 : Nat) : Int) = 25 from rfl] at hcall
  go_fit hcall
  clear hcall
  rintro e w1 ⟨l, M, a, cap, am, capm, rfl, hMd, hcap, hWl, hWm, hwl, hwm, h2, h40, hcm, h5, hb1⟩
  obtain ⟨mm, hmm⟩ : ∃ mm, mm = M.length := ⟨_, rfl⟩
  obtain ⟨ln, hln⟩ : ∃ ln, ln = l.length := ⟨_, rfl⟩
  rw [← hmm, ← hln]
  rw [← hln] at hcap
  have hl6 : ln ≤ 190 := by omega
  have hz1 := hb1.size
  obtain ⟨q1, hq1, hp1⟩ := pick_nat j1 mm (by omega)
  obtain ⟨q2, hq2, hp2⟩ := pick_nat j2 mm (by omega)
  obtain ⟨q3, hq3, hp3⟩ := pick_nat j3 mm (by omega)
  have hq1M : q1 < M.length := by omega
  have hq2M : q2 < M.length := by omega
  have hq3M : q3 < M.length := by omega
  obtain ⟨gm, om, rfl, hgm, a0, a1, a2⟩ := hWm q1 hq1M
  obtain ⟨gm', om', hgo, _, b0, b1, b2⟩ := hWm q2 hq2M
  injection hgo with hgo; injection hgo with hg1 hg2; subst hg1 hg2
  obtain ⟨gm', om', hgo, _, d0, d1, d2⟩ := hWm q3 hq3M
  injection hgo with hgo; injection hgo with hg1 hg2; subst hg1 hg2
  have m1 : M[q1]'hq1M ∈ M := List.getElem_mem hq1M
  have m2 : M[q2]'hq2M ∈ M := List.getElem_mem hq2M
  have m3 : M[q3]'hq3M ∈ M := List.getElem_mem hq3M
  have v1 := hwm q1 hq1M
  have v2 := hwm q2 hq2M
  have v3 := hwm q3 hq3M
  generalize M[q1]'hq1M = x1 at a0 a1 a2 m1 v1
  generalize M[q2]'hq2M = x2 at b0 b1 b2 m2 v2
  generalize M[q3]'hq3M = x3 at d0 d1 d2 m3 v3
  obtain ⟨xk, xn, xs⟩ := x1
  obtain ⟨yk, yn, ys⟩ := x2
  obtain ⟨ck, cn, cs⟩ := x3
  dsimp only at a0 a1 a2 b0 b1 b2 d0 d1 d2 v1 v2 v3
  obtain ⟨w2, hw2⟩ : ∃ w2, w2 = w1.alloc (.cells #[.slice a ln cap, .int .i64 600] 24) := ⟨_, rfl⟩
  obtain ⟨B9, hz2, hb2⟩ := bx2_born w1 _ _ _ w2 hw2
  obtain ⟨w3, hw3⟩ : ∃ w3, w3 = w2.alloc (.cells #[.int .i64 xk, .int .i64 xn, .string xs] 42) := ⟨_, rfl⟩
  obtain ⟨B11, hz3, hb3⟩ := bx3_born w2 _ _ _ _ w3 hw3
  obtain ⟨w4, hw4⟩ : ∃ w4, w4 = w3.alloc (.cells #[.int .i64 yk, .int .i64 yn, .string ys] 42) := ⟨_, rfl⟩
  obtain ⟨B12, hz4, hb4⟩ := bx3_born w3 _ _ _ _ w4 hw4
  obtain ⟨w5, hw5⟩ : ∃ w5, w5 = w4.alloc (.cells #[.int .i64 6, .int .i64 0, .string ⟨#[]⟩, .int .i64 xk, .int .i64 xn, .string xs, .int .i64 yk, .int .i64 yn, .string ys] 42) := ⟨_, rfl⟩
  obtain ⟨hz5, hb5⟩ := new1 w4 _ w5 hw5
  have hX : Wds w5 w5.heap.size (some ⟨w4.heap.size, 0, none⟩) [wP, ⟨xk, xn, xs⟩, ⟨yk, yn, ys⟩] := by
    have h := wds_n w4 [wP, ⟨xk, xn, xs⟩, ⟨yk, yn, ys⟩] #[.int .i64 6, .int .i64 0, .string ⟨#[]⟩, .int .i64 xk, .int .i64 xn, .string xs, .int .i64 yk, .int .i64 yn, .string ys] 42 (by simp [wcs])
    rw [← hw5] at h
    exact h.mono (by omega)
  have hb12 := hb2
  have hb13 := hb12.trans (hb3.mono (show w1.heap.size ≤ w2.heap.size by omega))
  have hb14 := hb13.trans (hb4.mono (show w1.heap.size ≤ w3.heap.size by omega))
  have hb15 := hb14.trans (hb5.mono (show w1.heap.size ≤ w4.heap.size by omega))
  have hWl5 := (hWl.below hb15).mono (show w1.heap.size ≤ w5.heap.size by omega)
  have hwx : wfL [wP, ⟨xk, xn, xs⟩, ⟨yk, yn, ys⟩] := wfL_cons ⟨by decide, by decide⟩ (wfL_cons v1 (wfL_cons v2 wfL_nil0))
  have HPut := hid (Put_any w5 w5.heap.size a ln cap l 600 (some ⟨w4.heap.size, 0, none⟩) 3 3 [wP, ⟨xk, xn, xs⟩, ⟨yk, yn, ys⟩] hWl5 (Nat.le_refl _) hln hcap (by omega) hwl hX rfl hwx (by omega))
  have HPk1 := hid (by have h := picked_any j1 mm w2 hi1.1 hi1.2 (by omega) (by omega); rw [hp1] at h; exact h : Calls Try.prog 20 #[.int .i64 j1, .int .i64 (mm : Int)] w2 fun e w' => e = .returned (.int .i64 (q1 : Int)) ∧ w' = w2)
  have HPk2 := hid (by have h := picked_any j2 mm w3 hi2.1 hi2.2 (by omega) (by omega); rw [hp2] at h; exact h : Calls Try.prog 20 #[.int .i64 j2, .int .i64 (mm : Int)] w3 fun e w' => e = .returned (.int .i64 (q2 : Int)) ∧ w' = w3)
  have HPk3 := hid (fun wx => by have h := picked_any j3 mm wx hi3.1 hi3.2 (by omega) (by omega); rw [hp3] at h; exact h : ∀ wx, Calls Try.prog 20 #[.int .i64 j3, .int .i64 (mm : Int)] wx fun e w' => e = .returned (.int .i64 (q3 : Int)) ∧ w' = wx)
  have A0 := (hb12.cell (p := ⟨gm, om + q1 * 3, none⟩) hgm).trans a0
  have A1 := (hb12.cell (p := ⟨gm, om + q1 * 3 + 1, none⟩) hgm).trans a1
  have A2 := (hb12.cell (p := ⟨gm, om + q1 * 3 + 2, none⟩) hgm).trans a2
  have Y0 := (hb13.cell (p := ⟨gm, om + q2 * 3, none⟩) hgm).trans b0
  have Y1 := (hb13.cell (p := ⟨gm, om + q2 * 3 + 1, none⟩) hgm).trans b1
  have Y2 := (hb13.cell (p := ⟨gm, om + q2 * 3 + 2, none⟩) hgm).trans b2
  have hq1i : (q1 : Int) < mm := by omega
  have hq2i : (q2 : Int) < mm := by omega
  have hq3i : (q3 : Int) < mm := by omega
  have HD := hid (And.intro d0 (And.intro d1 d2))
  have B9' := ((B9.below hb3 (by omega)).below hb4 (by omega))
  have B11' := B11.below hb4 (by omega)
  have HB9 := hid (B9'.below hb5 (by omega))
  have HB11 := hid (B11'.below hb5 (by omega))
  have HB12 := hid (B12.below hb5 (by omega))
  have HPb := hid (fun (l' : List Wd) (lim' p r : Int) (h : PuI 600 l [wP, ⟨xk, xn, xs⟩, ⟨yk, yn, ys⟩] l' lim' p r) => pb_put hMd m1 m2 h5 h40 h)
  have HM1 := hid (pb_made hMd m1 m2 h5 h40)
  have HM2 := hid (pb_made hMd m3 m2 h5 h40)
  have HM3 := hid m3
  have HV := hid (And.intro v1 (And.intro v2 v3))
  have HWl := hid hwl
  have HLn := hid hln
  have HWx := hid hwx
  have HB1 := hid hb1
  have HB15 := hid hb15
  have H2 := hid hw2
  have H3 := hid hw3
  have H4 := hid hw4
  have H5 := hid hw5
  have HZ := hid (show w.heap.size ≤ w1.heap.size ∧ w1.heap.size < w2.heap.size ∧ w2.heap.size < w3.heap.size ∧ w3.heap.size < w4.heap.size ∧ w4.heap.size < w5.heap.size by omega)
  obtain ⟨r0, r1, _, _⟩ := B9'
  obtain ⟨s0, s1, s2⟩ := B11'
  obtain ⟨t0, t1, t2⟩ := B12
  clear hw2 hw3 hw4 hw5 hb1 hb2 hb3 hb4 hb5 hb12 hb13 hb14 hb15 hz1 hz2 hz3 hz4 hz5 hWl hWm hWl5 hX hMd m1 m2 m3 v1 v2 v3 hwm hwl hwx hmm hln hp1 hp2 hp3 hq1M hq2M hq3M a0 a1 a2 b0 b1 b2 d0 d1 d2 B9 B11 h2 h40 h5 hcm
  go_upto_region 2 with fail
  rw [← H2.out]
  go_wp2_with fail
  have hcall := HPk1.out
  go_fit hcall
  clear hcall
  rintro e w0 ⟨rfl, h0⟩; subst w0
  go_upto_region 3 with fail
  rw [← H3.out]
  clear A0 A1 A2
  go_wp2_with fail
  have hcall := HPk2.out
  go_fit hcall
  clear hcall
  rintro e w0 ⟨rfl, h0⟩; subst w0
  go_upto_region 4 with fail
  rw [← H4.out]
  clear Y0 Y1 Y2
  go_wp2_with fail
  rw [← H5.out]
  have hcall := HPut.out
  go_fit hcall
  clear hcall
  rintro e w6 ⟨l', lim', p, r, a', cap', rfl, hpu, hc6, hW6, hb6, hN6⟩
  obtain ⟨rfl, hl', rfl, rfl⟩ := HPb.out _ _ _ _ hpu
  subst hl'
  clear hpu r0 r1 s0 s1 s2 t0 t1 t2
  have hz := HZ.out
  have hz6 := hb6.size
  obtain ⟨L1, hL1⟩ : ∃ L1, L1 = l ++ [wP, ⟨xk, xn, xs⟩, ⟨yk, yn, ys⟩] := ⟨_, rfl⟩
  rw [← hL1] at hc6 hW6 ⊢
  obtain ⟨n1, hn1⟩ : ∃ n1, n1 = L1.length := ⟨_, rfl⟩
  rw [← hn1] at hc6 ⊢
  have hn1b : n1 ≤ 193 := by rw [hn1, hL1, List.length_append, ← HLn.out]; simp; omega
  rw [← HLn.out]
  have E9 := HB9.out.below hb6 (by omega)
  obtain ⟨w7, hw7⟩ : ∃ w7, w7 = (w6.setCell ⟨w1.heap.size, 0, none⟩ (.slice a' n1 cap')).setCell ⟨w1.heap.size, 1, none⟩ (.int .i64 600) := ⟨_, rfl⟩
  have hz7 : w7.heap.size = w6.heap.size := by rw [hw7]; simp
  have B9 : Bx2 w7 w1.heap.size (.slice a' n1 cap') (.int .i64 600) := by rw [hw7]; exact E9.put _ _
  have B11 : Bx3 w7 w2.heap.size xk xn xs := by rw [hw7]; exact (HB11.out.below hb6 (by omega)).past (by omega) _ _
  have B12 : Bx3 w7 w3.heap.size yk yn ys := by rw [hw7]; exact (HB12.out.below hb6 (by omega)).past (by omega) _ _
  have hWL : Wds w7 w7.heap.size a' L1 := by
    rw [hw7]
    exact hW6.kept (by simp) (fun A hA => by
      have := hN6 A hA
      rw [Below.heap_setCell _ _ _ _ (by dsimp only; omega), Below.heap_setCell _ _ _ _ (by dsimp only; omega)])
  have hb1x : Below w1.heap.size w1 w7 := by rw [hw7]; exact below_set2s (HB15.out.trans (hb6.mono (by omega))) (Nat.le_refl _)
  obtain ⟨w8, hw8⟩ : ∃ w8, w8 = w7.alloc (.cells #[.int .i64 5, .int .i64 (ln : Int), .string ⟨#[]⟩] 42) := ⟨_, rfl⟩
  obtain ⟨B15, hz8, hb8⟩ := bx3_born w7 _ _ _ _ w8 hw8
  replace B9 := B9.below hb8 (by omega)
  replace B11 := B11.below hb8 (by omega)
  replace B12 := B12.below hb8 (by omega)
  replace hWL := (hWL.below hb8).mono (show w7.heap.size ≤ w8.heap.size by omega)
  replace hb1x := hb1x.trans (hb8.mono (by omega))
  have hwL1 : wfL L1 := by rw [hL1]; exact wfL_app HWl.out HWx.out
  have hwfn : wfI (ln : Int) := wfI_of (by omega) (by omega)
  have HP1 := hid (show ∀ i k' n' s' r, PtI 600 L1 5 (ln : Int) ⟨#[]⟩ i k' n' s' r → (i = 0 → k' = xk ∧ n' = xn ∧ s' = xs ∧ r = 0) ∧ (i = 1 → k' = yk ∧ n' = yn ∧ s' = ys ∧ r = 0) ∧ (i = 2 → r = 2) from fun i k' n' s' r h => by rw [hL1, HLn.out] at h; exact pb_part HM1.out h)
  have HCc := hid (show ∀ l' lim' r, ChI 600 L1 5 (ln : Int) ⟨#[]⟩ 0 ⟨ck, cn, cs⟩ l' lim' r → r = 0 ∧ lim' = 600 ∧ l' = l ++ [wP, ⟨ck, cn, cs⟩, ⟨yk, yn, ys⟩] from fun l' lim' r h => by rw [hL1, HLn.out] at h; exact pb_change HM3.out HM1.out h)
  have HN1 := hid hn1
  have HL1 := hid hL1
  have H7 := hid hw7
  have H8 := hid hw8
  have HWL1 := hid hwL1
  have HZ8 := hid (show w.heap.size ≤ w1.heap.size ∧ w1.heap.size < w8.heap.size ∧ w2.heap.size < w8.heap.size ∧ w3.heap.size < w8.heap.size ∧ w7.heap.size < w8.heap.size by omega)
  obtain ⟨e9a, e9b, e9c, e9d⟩ := E9
  clear hw7 hw8 hz hz6 hz7 hz8 hb6 hb8 hW6 hN6 hn1 hL1 hwL1
  go_upto_region 5 with fail
  rw [← H7.out]
  clear e9a e9b e9c e9d
  go_upto_region 6 with fail
  rw [← H8.out]
  have HPt := hid (Part_any w8 w8.heap.size a' n1 cap' L1 600 5 (ln : Int) ⟨#[]⟩ 0 hWL (Nat.le_refl _) HN1.out (by omega) (by omega) HWL1.out hwfn (by decide))
  obtain ⟨b90, b91, b9f, b9g⟩ := id B9
  obtain ⟨b150, b151, b152⟩ := id B15
  go_wp2_with fail
  have hcall := HPt.out
  go_fit hcall
  clear hcall HPt
  clear b90 b91 b9f b9g b150 b151 b152
  rintro e w9 ⟨k', n', s', r, rfl, hpt, hb⟩
  obtain ⟨hk', hn', hs', hr'⟩ := (HP1.out _ _ _ _ _ hpt).1 rfl
  subst k' n' s' r
  have hz := HZ8.out
  have hzb := hb.size
  obtain ⟨w10, hw10⟩ : ∃ w10, w10 = w9.alloc (.cells #[.int .i64 xk, .int .i64 xn, .string xs] 42) := ⟨_, rfl⟩
  obtain ⟨B16, hzc, hbc⟩ := bx3_born w9 _ _ _ _ w10 hw10
  have hbb := hb.trans (hbc.mono hzb)
  replace B9 := B9.below hbb (by omega)
  replace B11 := B11.below hbb (by omega)
  replace B12 := B12.below hbb (by omega)
  replace B15 := B15.below hbb (by omega)
  replace hWL := (hWL.below hbb).mono (show w8.heap.size ≤ w10.heap.size by omega)
  replace hb1x := hb1x.trans (hbb.mono (by omega))
  have HZ10 := hid (show w.heap.size ≤ w1.heap.size ∧ w1.heap.size < w10.heap.size ∧ w2.heap.size < w10.heap.size ∧ w3.heap.size < w10.heap.size ∧ w7.heap.size < w10.heap.size ∧ w9.heap.size < w10.heap.size by omega)
  have Hw10 := hid hw10
  clear hw10 hz hzb hzc hb hbc hbb hpt
  go_upto_region 7 with fail
  rw [← Hw10.out]
  have HPt := hid (Part_any w10 w10.heap.size a' n1 cap' L1 600 5 (ln : Int) ⟨#[]⟩ 1 hWL (Nat.le_refl _) HN1.out (by omega) (by omega) HWL1.out hwfn (by decide))
  obtain ⟨b90, b91, b9f, b9g⟩ := id B9
  obtain ⟨b150, b151, b152⟩ := id B15
  go_wp2_with fail
  have hcall := HPt.out
  go_fit hcall
  clear hcall HPt
  clear b90 b91 b9f b9g b150 b151 b152
  rintro e w11 ⟨k', n', s', r, rfl, hpt, hb⟩
  obtain ⟨hk', hn', hs', hr'⟩ := (HP1.out _ _ _ _ _ hpt).2.1 rfl
  subst k' n' s' r
  have hz := HZ10.out
  have hzb := hb.size
  obtain ⟨w12, hw12⟩ : ∃ w12, w12 = w11.alloc (.cells #[.int .i64 yk, .int .i64 yn, .string ys] 42) := ⟨_, rfl⟩
  obtain ⟨B18, hzc, hbc⟩ := bx3_born w11 _ _ _ _ w12 hw12
  have hbb := hb.trans (hbc.mono hzb)
  replace B9 := B9.below hbb (by omega)
  replace B11 := B11.below hbb (by omega)
  replace B12 := B12.below hbb (by omega)
  replace B15 := B15.below hbb (by omega)
  replace B16 := B16.below hbb (by omega)
  replace hWL := (hWL.below hbb).mono (show w10.heap.size ≤ w12.heap.size by omega)
  replace hb1x := hb1x.trans (hbb.mono (by omega))
  have HZ12 := hid (show w.heap.size ≤ w1.heap.size ∧ w1.heap.size < w12.heap.size ∧ w2.heap.size < w12.heap.size ∧ w3.heap.size < w12.heap.size ∧ w7.heap.size < w12.heap.size ∧ w9.heap.size < w12.heap.size ∧ w11.heap.size < w12.heap.size by omega)
  have Hw12 := hid hw12
  clear hw12 hz hzb hzc hb hbc hbb hpt
  go_upto_region 8 with fail
  rw [← Hw12.out]
  have hz := HZ12.out
  obtain ⟨d0, d1, d2⟩ := HD.out
  have D0 := (hb1x.cell (p := ⟨gm, om + q3 * 3, none⟩) hgm).trans d0
  have D1 := (hb1x.cell (p := ⟨gm, om + q3 * 3 + 1, none⟩) hgm).trans d1
  have D2 := (hb1x.cell (p := ⟨gm, om + q3 * 3 + 2, none⟩) hgm).trans d2
  obtain ⟨w13, hw13⟩ : ∃ w13, w13 = w12.alloc (.cells #[.int .i64 ck, .int .i64 cn, .string cs] 42) := ⟨_, rfl⟩
  obtain ⟨B20, hzc, hbc⟩ := bx3_born w12 _ _ _ _ w13 hw13
  replace B9 := B9.below hbc (by omega)
  replace B11 := B11.below hbc (by omega)
  replace B12 := B12.below hbc (by omega)
  replace B15 := B15.below hbc (by omega)
  replace B16 := B16.below hbc (by omega)
  replace B18 := B18.below hbc (by omega)
  replace hWL := (hWL.below hbc).mono (show w12.heap.size ≤ w13.heap.size by omega)
  replace hb1x := hb1x.trans (hbc.mono (by omega))
  have HZ13 := hid (show w.heap.size ≤ w1.heap.size ∧ w1.heap.size < w13.heap.size ∧ w2.heap.size < w13.heap.size ∧ w3.heap.size < w13.heap.size ∧ w7.heap.size < w13.heap.size ∧ w9.heap.size < w13.heap.size ∧ w11.heap.size < w13.heap.size ∧ w12.heap.size < w13.heap.size by omega)
  have H13 := hid hw13
  clear hw13 hz hzc hbc d0 d1 d2
  go_wp2_with fail
  have hcall := HPk3.out w12
  go_fit hcall
  clear hcall
  rintro e w0 ⟨rfl, h0⟩; subst w0
  go_upto_region 9 with fail
  rw [← H13.out]
  clear D0 D1 D2
  have HCh := hid (Change_any w13 w13.heap.size a' n1 cap' L1 600 5 (ln : Int) ⟨#[]⟩ 0 ck cn cs hWL (Nat.le_refl _) HN1.out hc6 (by omega) HWL1.out hwfn (by decide) HV.out.2.2.1 HV.out.2.2.2)
  obtain ⟨b90, b91, b9f, b9g⟩ := id B9
  obtain ⟨b150, b151, b152⟩ := id B15
  obtain ⟨b200, b201, b202⟩ := id B20
  go_wp2_with fail
  have hcall := HCh.out
  go_fit hcall
  clear hcall HCh
  clear b90 b91 b9f b9g b150 b151 b152 b200 b201 b202
  rintro e w14 ⟨L2, lim2, r, a2, cap2, rfl, hch, hc14, hW2, hb⟩
  obtain ⟨hr', hlim', hL2⟩ := HCc.out _ _ _ hch
  subst r lim2
  have hz := HZ13.out
  have hzb := hb.size
  obtain ⟨n2, hn2⟩ : ∃ n2, n2 = List.length L2 := ⟨_, rfl⟩
  rw [← hn2] at hc14 ⊢
  have hn2b : n2 ≤ 193 := by rw [hn2, hL2, List.length_append, ← HLn.out]; simp; omega
  have hwL2 : wfL L2 := by rw [hL2]; exact wfL_app HWl.out (wfL_cons ⟨by decide, by decide⟩ (wfL_cons HV.out.2.2 (wfL_cons HV.out.2.1 wfL_nil0)))
  have HP2 := hid (show ∀ i k' n' s' r, PtI 600 L2 5 (ln : Int) ⟨#[]⟩ i k' n' s' r → (i = 0 → k' = ck ∧ n' = cn ∧ s' = cs ∧ r = 0) ∧ (i = 1 → k' = yk ∧ n' = yn ∧ s' = ys ∧ r = 0) ∧ (i = 2 → r = 2) from fun i k' n' s' r h => by rw [hL2, HLn.out] at h; exact pb_part HM2.out h)
  have HN2 := hid hn2
  have HWL2 := hid hwL2
  obtain ⟨w15, hw15⟩ : ∃ w15, w15 = w14.alloc (.cells #[.slice a2 n2 cap2, .int .i64 600] 24) := ⟨_, rfl⟩
  obtain ⟨B21, hzc, hbc⟩ := bx2_born w14 _ _ _ w15 hw15
  have hbb := hb.trans (hbc.mono hzb)
  replace hW2 := (hW2.below hbc).mono (show w14.heap.size ≤ w15.heap.size by omega)
  replace B9 := B9.below hbb (by omega)
  replace B11 := B11.below hbb (by omega)
  replace B12 := B12.below hbb (by omega)
  replace B15 := B15.below hbb (by omega)
  replace B16 := B16.below hbb (by omega)
  replace B18 := B18.below hbb (by omega)
  replace B20 := B20.below hbb (by omega)
  replace hWL := (hWL.below hbb).mono (show w13.heap.size ≤ w15.heap.size by omega)
  replace hb1x := hb1x.trans (hbb.mono (by omega))
  have HZ15 := hid (show w.heap.size ≤ w1.heap.size ∧ w1.heap.size < w15.heap.size ∧ w2.heap.size < w15.heap.size ∧ w3.heap.size < w15.heap.size ∧ w7.heap.size < w15.heap.size ∧ w9.heap.size < w15.heap.size ∧ w11.heap.size < w15.heap.size ∧ w12.heap.size < w15.heap.size ∧ w14.heap.size < w15.heap.size by omega)
  have Hw15 := hid hw15
  clear hw15 hz hzb hzc hb hbc hbb hch hn2 hL2 hwL2
  go_upto_region 10 with fail
  rw [← Hw15.out]
  have HPt := hid (Part_any w15 w15.heap.size a2 n2 cap2 L2 600 5 (ln : Int) ⟨#[]⟩ 0 hW2 (Nat.le_refl _) HN2.out (by omega) (by omega) HWL2.out hwfn (by decide))
  obtain ⟨b210, b211, b21f, b21g⟩ := id B21
  obtain ⟨b150, b151, b152⟩ := id B15
  go_wp2_with fail
  have hcall := HPt.out
  go_fit hcall
  clear hcall HPt
  clear b210 b211 b21f b21g b150 b151 b152
  rintro e w16 ⟨k', n', s', r, rfl, hpt, hb⟩
  obtain ⟨hk', hn', hs', hr'⟩ := (HP2.out _ _ _ _ _ hpt).1 rfl
  subst k' n' s' r
  have hz := HZ15.out
  have hzb := hb.size
  obtain ⟨w17, hw17⟩ : ∃ w17, w17 = w16.alloc (.cells #[.int .i64 ck, .int .i64 cn, .string cs] 42) := ⟨_, rfl⟩
  obtain ⟨B23, hzc, hbc⟩ := bx3_born w16 _ _ _ _ w17 hw17
  have hbb := hb.trans (hbc.mono hzb)
  replace B9 := B9.below hbb (by omega)
  replace B11 := B11.below hbb (by omega)
  replace B12 := B12.below hbb (by omega)
  replace B15 := B15.below hbb (by omega)
  replace B16 := B16.below hbb (by omega)
  replace B18 := B18.below hbb (by omega)
  replace B20 := B20.below hbb (by omega)
  replace B21 := B21.below hbb (by omega)
  replace hWL := (hWL.below hbb).mono (show w15.heap.size ≤ w17.heap.size by omega)
  replace hW2 := (hW2.below hbb).mono (show w15.heap.size ≤ w17.heap.size by omega)
  replace hb1x := hb1x.trans (hbb.mono (by omega))
  have HZ17 := hid (show w.heap.size ≤ w1.heap.size ∧ w1.heap.size < w17.heap.size ∧ w2.heap.size < w17.heap.size ∧ w3.heap.size < w17.heap.size ∧ w7.heap.size < w17.heap.size ∧ w9.heap.size < w17.heap.size ∧ w11.heap.size < w17.heap.size ∧ w12.heap.size < w17.heap.size ∧ w14.heap.size < w17.heap.size ∧ w16.heap.size < w17.heap.size by omega)
  have Hw17 := hid hw17
  clear hw17 hz hzb hzc hb hbc hbb hpt
  go_upto_region 11 with fail
  rw [← Hw17.out]
  have HPt := hid (Part_any w17 w17.heap.size a2 n2 cap2 L2 600 5 (ln : Int) ⟨#[]⟩ 1 hW2 (Nat.le_refl _) HN2.out (by omega) (by omega) HWL2.out hwfn (by decide))
  obtain ⟨b210, b211, b21f, b21g⟩ := id B21
  obtain ⟨b150, b151, b152⟩ := id B15
  go_wp2_with fail
  have hcall := HPt.out
  go_fit hcall
  clear hcall HPt
  clear b210 b211 b21f b21g b150 b151 b152
  rintro e w18 ⟨k', n', s', r, rfl, hpt, hb⟩
  obtain ⟨hk', hn', hs', hr'⟩ := (HP2.out _ _ _ _ _ hpt).2.1 rfl
  subst k' n' s' r
  have hz := HZ17.out
  have hzb := hb.size
  obtain ⟨w19, hw19⟩ : ∃ w19, w19 = w18.alloc (.cells #[.int .i64 yk, .int .i64 yn, .string ys] 42) := ⟨_, rfl⟩
  obtain ⟨B25, hzc, hbc⟩ := bx3_born w18 _ _ _ _ w19 hw19
  have hbb := hb.trans (hbc.mono hzb)
  replace B9 := B9.below hbb (by omega)
  replace B11 := B11.below hbb (by omega)
  replace B12 := B12.below hbb (by omega)
  replace B15 := B15.below hbb (by omega)
  replace B16 := B16.below hbb (by omega)
  replace B18 := B18.below hbb (by omega)
  replace B20 := B20.below hbb (by omega)
  replace B21 := B21.below hbb (by omega)
  replace B23 := B23.below hbb (by omega)
  replace hWL := (hWL.below hbb).mono (show w17.heap.size ≤ w19.heap.size by omega)
  replace hW2 := (hW2.below hbb).mono (show w17.heap.size ≤ w19.heap.size by omega)
  replace hb1x := hb1x.trans (hbb.mono (by omega))
  have HZ19 := hid (show w.heap.size ≤ w1.heap.size ∧ w1.heap.size < w19.heap.size ∧ w2.heap.size < w19.heap.size ∧ w3.heap.size < w19.heap.size ∧ w7.heap.size < w19.heap.size ∧ w9.heap.size < w19.heap.size ∧ w11.heap.size < w19.heap.size ∧ w12.heap.size < w19.heap.size ∧ w14.heap.size < w19.heap.size ∧ w16.heap.size < w19.heap.size ∧ w18.heap.size < w19.heap.size by omega)
  have Hw19 := hid hw19
  clear hw19 hz hzb hzc hb hbc hbb hpt
  go_upto_region 12 with fail
  rw [← Hw19.out]
  have HPt := hid (Part_any w19 w19.heap.size a' n1 cap' L1 600 5 (ln : Int) ⟨#[]⟩ 2 hWL (Nat.le_refl _) HN1.out (by omega) (by omega) HWL1.out hwfn (by decide))
  obtain ⟨b90, b91, b9f, b9g⟩ := id B9
  obtain ⟨b150, b151, b152⟩ := id B15
  go_wp2_with fail
  have hcall := HPt.out
  go_fit hcall
  clear hcall HPt
  clear b90 b91 b9f b9g b150 b151 b152
  rintro e w20 ⟨k', n', s', r, rfl, hpt, hb⟩
  have hr' := (HP1.out _ _ _ _ _ hpt).2.2 rfl
  subst r
  have hz := HZ19.out
  have hzb := hb.size
  obtain ⟨w21, hw21⟩ : ∃ w21, w21 = w20.alloc (.cells #[.int .i64 k', .int .i64 n', .string s'] 42) := ⟨_, rfl⟩
  obtain ⟨B27, hzc, hbc⟩ := bx3_born w20 _ _ _ _ w21 hw21
  have hbb := hb.trans (hbc.mono hzb)
  replace B9 := B9.below hbb (by omega)
  replace B11 := B11.below hbb (by omega)
  replace B12 := B12.below hbb (by omega)
  replace B15 := B15.below hbb (by omega)
  replace B16 := B16.below hbb (by omega)
  replace B18 := B18.below hbb (by omega)
  replace B20 := B20.below hbb (by omega)
  replace B21 := B21.below hbb (by omega)
  replace B23 := B23.below hbb (by omega)
  replace B25 := B25.below hbb (by omega)
  replace hWL := (hWL.below hbb).mono (show w19.heap.size ≤ w21.heap.size by omega)
  replace hW2 := (hW2.below hbb).mono (show w19.heap.size ≤ w21.heap.size by omega)
  replace hb1x := hb1x.trans (hbb.mono (by omega))
  have HZ21 := hid (show w.heap.size ≤ w1.heap.size ∧ w1.heap.size < w21.heap.size ∧ w2.heap.size < w21.heap.size ∧ w3.heap.size < w21.heap.size ∧ w7.heap.size < w21.heap.size ∧ w9.heap.size < w21.heap.size ∧ w11.heap.size < w21.heap.size ∧ w12.heap.size < w21.heap.size ∧ w14.heap.size < w21.heap.size ∧ w16.heap.size < w21.heap.size ∧ w18.heap.size < w21.heap.size ∧ w20.heap.size < w21.heap.size by omega)
  have Hw21 := hid hw21
  clear hw21 hz hzb hzc hb hbc hbb hpt
  go_upto_region 13 with fail
  rw [← Hw21.out]
  have HBX := hid (HB1.out.trans (hb1x.mono HZ.out.1))
  obtain ⟨b160, b161, b162⟩ := id B16
  obtain ⟨b110, b111, b112⟩ := id B11
  obtain ⟨b180, b181, b182⟩ := id B18
  obtain ⟨b120, b121, b122⟩ := id B12
  obtain ⟨b230, b231, b232⟩ := id B23
  obtain ⟨b200, b201, b202⟩ := id B20
  obtain ⟨b250, b251, b252⟩ := id B25
  clear hb1x hWL hW2
  go_wp2_with fail
  go_ret
  exact ⟨by simp, HBX.out⟩
set_option maxRecDepth 100000 in
theorem partsBack_lifted (os : Os) (started : os.Started) (H : Type) (enc : TypeId × Value → H) :
    ReturnsInHanded {} Try.checked os 7 .any (Rows.partsBackSpec.pre6 enc Try.prog Try.f7 Rows.partsBackRow.domain false) (Rows.partsBackSpec.post enc Try.prog Try.f7 false true false false) := by
  refine returnsInHanded_of_change_sized (C := Try.checked) own started (by kernel_rfl) Try.func7
    (ChangeSpec.witness6 (enc := enc) (C := Try.checked) false ⟨#[], #[.slice none 0 0, .int .i64 0, .int .i64 0, .int .i64 0], []⟩ 8 (by kernel_rfl) (by kernel_rfl) (by kernel_rfl) (by kernel_rfl)) ?_
  intro W base args ds gs before hval0 hW hcnd hsz0 _
  have hval : ∀ (j : Nat) t v, Try.f7.params[j]? = some t → args[j]? = some v → Value.okWide Try.prog W .any base t v := hval0
  have hsz : (DataW.weightsEach Try.prog (Try.f7.params.toList ++ Rows.partsBackSpec.plain.varTypes Try.prog) (ds ++ gs)).all (· ≤ reachBytes) = true := hsz0
  have hW' := hW
  obtain ⟨p, q, hA0, hV, rfl, hfz, hnd⟩ := hW
  have hA : DataW.TrodAll enc Try.prog W 0 (fun _ => true) true Try.f7.params.toList args.toList ds p := hA0
  rw [Try.params7] at hA hval hsz
  obtain ⟨v0, vs0, d0, ds0, p0, q0, hargs0, rfl, rfl, h0, r0⟩ := trodAll_cons hA
  obtain ⟨v1, vs1, d1, ds1, p1, q1, hargs1, rfl, rfl, h1, r1⟩ := trodAll_cons r0
  obtain ⟨v2, vs2, d2, ds2, p2, q2, hargs2, rfl, rfl, h2, r2⟩ := trodAll_cons r1
  obtain ⟨v3, vs3, d3, ds3, p3, q3, hargs3, rfl, rfl, h3, r3⟩ := trodAll_cons r2
  obtain ⟨rfl, rfl, rfl⟩ := trodAll_nil r3
  obtain rfl : args = #[v0, v1, v2, v3] := by cases args; simp_all
  obtain ⟨rfl, rfl⟩ := trodVars_none hV
  have k0 := h0
  have lt0 : ∀ x ∈ p0, x.block < W.heap.size := by obtain ⟨m, hm⟩ := k0; exact DataW.trod_lt m _ _ _ hm
  obtain ⟨a0, cap0, R0, rfl, gm0, hRw0⟩ := raws_in (hval 0 38 v0 rfl rfl) h0
  obtain ⟨i1, rfl, rfl, rfl, wn1⟩ := open_int Try.underlying3 (hval 1 3 v1 rfl rfl) h1
  obtain ⟨i2, rfl, rfl, rfl, wn2⟩ := open_int Try.underlying3 (hval 2 3 v2 rfl rfl) h2
  obtain ⟨i3, rfl, rfl, rfl, wn3⟩ := open_int Try.underlying3 (hval 3 3 v3 rfl rfl) h3
  clear hA0 hval0 hsz0 hsz
  refine (parts_walk a0 R0 R0.length cap0 i1 i2 i3 W rfl gm0 hRw0 wn1 wn2 wn3).mono fun e W' ⟨he, bel⟩ => ?_
  subst he
  exact ⟨_, rfl, _, _, _, [], _, [], hW', trodAll_mk1 (shut_bool Try.underlying4 _), (trodAll_cons_mk (Below.trod laidOut (by kernel_rfl) (of_decide_eq_true (by kernel_rfl)) k0 bel lt0) (trodAll_cons_mk (shut_int Try.underlying3 wn1) (trodAll_cons_mk (shut_int Try.underlying3 wn2) (trodAll_cons_mk (shut_int Try.underlying3 wn3) trodAll_mk0)))), rfl, bel.frame _, fun h => by cases h⟩
theorem partsBack_holds : Rows.PartsBackSaid :=
  OpenClaim.holds_of_wide 7 Try.f7 rfl rfl rfl rfl rfl rfl rfl ⟨rfl, rfl, rfl, rfl, rfl⟩ rfl rfl rfl rfl rfl (by kernel_rfl) Try.func7 (by kernel_rfl)
    (of_decide_eq_true (by kernel_rfl)) (by unfold Func.isWrapper; first | (rw [if_pos (by decide +kernel)]; kernel_rfl) | (rw [if_neg (by decide +kernel)]; exact ⟨rfl, rfl⟩))
    (fun os started H enc _ => partsBack_lifted os started H enc)
#print axioms partsBack_holds
end Go.Proofs.Ytiiiockogcopaaa

/- What two share they share behind a collection, too: CollectShares returns true for all raw things and numbers that can be read, and leaves them as they were. No condition. -/
import Derived.Test.YtngaamjkegeioaaRows
import Derived.Test.YtngaamjkegeioaaHPb
import Derived.Test.YtngaamjkegeioaaHColl
import Derived.Deep.QuietTactic
import Derived.BigQuiet
namespace Go.Proofs.Ytngaamjkegeioaa
set_option maxRecDepth 100000
open Go.ChangeShapes Go.WideShapes Go.ChangeAt Go.RowKit
theorem empty_of {s : ByteArray} (h : s.size = 0) : s = ⟨#[]⟩ := by
  cases s with
  | mk d => congr 1; exact Array.eq_empty_of_size_eq_zero h
theorem wd_eq {a b : Wd} (h1 : a.k = b.k) (h2 : a.n = b.n) (h3 : a.s = b.s) : a = b := by
  obtain ⟨ak, an, az⟩ := a
  obtain ⟨bk, bn, bz⟩ := b
  dsimp only at h1 h2 h3
  rw [h1, h2, h3]
theorem fnd_nil (x : Int) : fndI [] x = x := by unfold fndI; simp [hasI]
theorem brg_first {l : List Wd} {acc : List Th} {lim : Int} (hok : OkC lim l acc []) {st : Br} {x : Wd} (hk : x.k = 5) (hx : hasI (plOf acc) x.n = true) (hno : hasI st.nw x.n = false) : ∃ m : Nat, st.ws.length < m ∧ brg l [] st x = (⟨(brg l [] st x).1.ws, (x.n, (st.ws.length : Int)) :: st.nw⟩, ⟨5, (st.ws.length : Int), x.s⟩) ∧ (brg l [] st x).1.ws.length = m := by
  obtain ⟨i, hi, e⟩ := (hok.chain.has _).1 hx
  have hta := (hok.chain.mem acc[i] (List.getElem_mem hi)).2
  have hle := tAt_le hta
  have hb := brg_new (ms := []) hk (by rw [fnd_nil]; exact hno) (by rw [fnd_nil]; exact e.symm) hta
  refine ⟨_, ?_, ?_, rfl⟩
  · rw [hb]; simp [sub_length hle.2.2]; omega
  · rw [hb, e]
theorem shares {l M : List Wd} {a b : Wd} (h : MadeI l M) (ha : a ∈ M) (hb : b ∈ M) {l' R' : List Wd} {lim' r : Int} (hc : CoI 600 l [a, b, a] l' lim' R' r) : r = 0 ∧ ∃ y z : Wd, R' = [y, z, y] ∧ (a = b → y = z) ∧ (¬ a = b → ¬ y.k = z.k ∨ ¬ y.n = z.n ∨ ¬ y.s = z.s) := by
  obtain ⟨acc, ms, hok, hn, hv⟩ := h
  have hva := hv a ha
  have hvb := hv b hb
  rcases hc with ⟨_, hbad, _⟩ | ⟨_, ⟨acc', ms', h1, h2⟩, _⟩ | ⟨h0, acc', ms', h1, _, _, _, hR⟩
  · exact absurd hbad hok.not_bad
  · obtain ⟨rfl, rfl⟩ := okC_same hok h1
    simp [allB, hva, hvb] at h2
  · obtain ⟨rfl, rfl⟩ := okC_same hok h1
    have hm := no_moved hok hn
    subst hm
    refine ⟨h0, ?_⟩
    have r5 : ∀ x : Wd, valB (plOf acc') x.k x.n x.s = true → x.k = 5 → hasI (plOf acc') x.n = true ∧ x.s = ⟨#[]⟩ := fun x hx hk => by
      unfold valB at hx; rw [hk] at hx; simp only [Int.reduceEq, if_false, if_true, Bool.and_eq_true, decide_eq_true_eq] at hx; exact ⟨hx.1, empty_of hx.2⟩
    by_cases hka : a.k = 5
    · obtain ⟨hha, hsa⟩ := r5 a hva hka
      obtain ⟨m, hm0, e1, hm1⟩ := brg_first hok (st := ⟨[], []⟩) hka hha rfl
      by_cases hkb : b.k = 5
      · obtain ⟨hhb, hsb⟩ := r5 b hvb hkb
        by_cases hnn : b.n = a.n
        · have eab : a = b := wd_eq (by rw [hka, hkb]) hnn.symm (by rw [hsa, hsb])
          subst eab
          refine ⟨⟨5, 0, a.s⟩, ⟨5, 0, a.s⟩, ?_, fun _ => rfl, fun q => absurd rfl q⟩
          have e3 := brg_old (l := l) (ms := []) (st := (brg l [] ⟨[], []⟩ a).1) (x := a) hka (by rw [fnd_nil, e1]; simp [hasI])
          rw [hR]
          simp only [brgs]
          rw [e3]
          dsimp only
          rw [e3, e1]
          simp [fnd_nil, valI]
        · obtain ⟨m2, hm2, e2, _⟩ := brg_first hok (st := (brg l [] ⟨[], []⟩ a).1) hkb hhb (by rw [e1]; simp [hasI]; exact fun q => hnn q.symm)
          refine ⟨⟨5, 0, a.s⟩, ⟨5, (m : Int), b.s⟩, ?_, fun q => absurd (by rw [q]) hnn, fun _ => Or.inr (Or.inl (by simp at hm0 ⊢; omega))⟩
          have e3 := brg_old (l := l) (ms := []) (st := (brg l [] (brg l [] ⟨[], []⟩ a).1 b).1) (x := a) hka (by rw [fnd_nil, e2, e1]; simp [hasI])
          rw [hR]
          simp only [brgs]
          rw [e3, e2, hm1]
          rw [e1]
          simp [fnd_nil, valI, hnn]
      · refine ⟨⟨5, 0, a.s⟩, b, ?_, fun q => absurd (by rw [← q]; exact hka) hkb, fun _ => Or.inl (by dsimp only; omega)⟩
        rw [hR]
        simp only [brgs]
        rw [brg_no hkb]
        dsimp only
        have e3 := brg_old (l := l) (ms := []) (st := (brg l [] ⟨[], []⟩ a).1) (x := a) hka (by rw [fnd_nil, e1]; simp [hasI])
        rw [e3, e1]
        simp [fnd_nil, valI]
    · by_cases hkb : b.k = 5
      · refine ⟨a, (brg l [] ⟨[], []⟩ b).2, ?_, fun q => absurd (by rw [q]; exact hkb) hka, fun _ => Or.inl ?_⟩
        · rw [hR]
          simp only [brgs]
          rw [brg_no hka]
          dsimp only
          rw [brg_no hka]
        · have : (brg l [] ⟨[], []⟩ b).2.k = 5 := by unfold brg; rw [if_pos hkb]; split <;> rfl
          rw [this]; exact hka
      · refine ⟨a, b, ?_, id, fun q => ?_⟩
        · rw [hR]
          simp only [brgs]
          rw [brg_no hka]
          dsimp only
          rw [brg_no hkb]
          dsimp only
          rw [brg_no hka]
        · by_cases q1 : a.k = b.k
          · by_cases q2 : a.n = b.n
            · exact Or.inr (Or.inr (fun q3 => q (wd_eq q1 q2 q3)))
            · exact Or.inr (Or.inl q2)
          · exact Or.inl q1
set_option maxHeartbeats 4000000 in
theorem shares_walk (ar : Option Addr) (R : List Rw4) (nr cr : Nat) (j1 j2 : Int) (w : World) (hnr : nr = R.length) (hnb : nr ≤ 9223372036854775807) (hR : RawS w w.heap.size ar R) (hj1 : wfI j1) (hj2 : wfI j2) :
    Calls Try.prog 7 #[.slice ar nr cr, .int .i64 j1, .int .i64 j2] w fun e w' => e = .returned (.bool true) ∧ Below w.heap.size w w' := by
  have hi1 := i64_of hj1
  have hi2 := i64_of hj2
  have HC := hid (built_any w w.heap.size ar nr cr R 30 hR (Nat.le_refl _) hnr hnb (by omega))
  clear hR hnr hnb hj1 hj2
  go_enter Try.func7, Try.ntmps7
  go_wp2_with fail
  have hcall := HC.out
  rw [show ((30 : Nat) : Int) = 30 from rfl] at hcall
  go_fit hcall
  clear hcall
  rintro e w1 ⟨l, M, a, cap, am, capm, rfl, hMd, hcap, hWl, hWm, hwl, hwm, h2, h40, hcm, h5, hb1⟩
  obtain ⟨mm, hmm⟩ : ∃ mm, mm = M.length := ⟨_, rfl⟩
  obtain ⟨ln, hln⟩ : ∃ ln, ln = l.length := ⟨_, rfl⟩
  rw [← hmm, ← hln]
  rw [← hln] at hcap
  have hl6 : ln ≤ 190 := by omega
  have hz1 := hb1.size
  obtain ⟨q1, hq1, hp1⟩ := pick_nat j1 mm (by omega)
  obtain ⟨q2, hq2, hp2⟩ := pick_nat j2 mm (by omega)
  have hq1M : q1 < M.length := by omega
  have hq2M : q2 < M.length := by omega
  obtain ⟨gm, om, rfl, hgm, a0, a1, a2⟩ := hWm q1 hq1M
  obtain ⟨gm', om', hgo, _, b0, b1, b2⟩ := hWm q2 hq2M
  injection hgo with hgo; injection hgo with hg1 hg2; subst hg1 hg2
  have m1 : M[q1]'hq1M ∈ M := List.getElem_mem hq1M
  have m2 : M[q2]'hq2M ∈ M := List.getElem_mem hq2M
  have v1 := hwm q1 hq1M
  have v2 := hwm q2 hq2M
  generalize M[q1]'hq1M = x1 at a0 a1 a2 m1 v1
  generalize M[q2]'hq2M = x2 at b0 b1 b2 m2 v2
  obtain ⟨xk, xn, xs⟩ := x1
  obtain ⟨yk, yn, ys⟩ := x2
  dsimp only at a0 a1 a2 b0 b1 b2 v1 v2
  obtain ⟨w2, hw2⟩ : ∃ w2, w2 = w1.alloc (.cells #[.slice a ln cap, .int .i64 600] 24) := ⟨_, rfl⟩
  obtain ⟨B9, hz2, hb2⟩ := bx2_born w1 _ _ _ w2 hw2
  obtain ⟨w3, hw3⟩ : ∃ w3, w3 = w2.alloc (.cells #[.int .i64 xk, .int .i64 xn, .string xs] 37) := ⟨_, rfl⟩
  obtain ⟨B11, hz3, hb3⟩ := bx3_born w2 _ _ _ _ w3 hw3
  obtain ⟨w4, hw4⟩ : ∃ w4, w4 = w3.alloc (.cells #[.int .i64 yk, .int .i64 yn, .string ys] 37) := ⟨_, rfl⟩
  obtain ⟨B12, hz4, hb4⟩ := bx3_born w3 _ _ _ _ w4 hw4
  obtain ⟨w5, hw5⟩ : ∃ w5, w5 = w4.alloc (.cells #[.int .i64 xk, .int .i64 xn, .string xs, .int .i64 yk, .int .i64 yn, .string ys, .int .i64 xk, .int .i64 xn, .string xs] 37) := ⟨_, rfl⟩
  obtain ⟨hz5, hb5⟩ := new1 w4 _ w5 hw5
  have hX : Wds w5 w5.heap.size (some ⟨w4.heap.size, 0, none⟩) [⟨xk, xn, xs⟩, ⟨yk, yn, ys⟩, ⟨xk, xn, xs⟩] := by
    have h := wds_n w4 [⟨xk, xn, xs⟩, ⟨yk, yn, ys⟩, ⟨xk, xn, xs⟩] #[.int .i64 xk, .int .i64 xn, .string xs, .int .i64 yk, .int .i64 yn, .string ys, .int .i64 xk, .int .i64 xn, .string xs] 37 (by simp [wcs])
    rw [← hw5] at h
    exact h.mono (by omega)
  have hb12 := hb2
  have hb13 := hb12.trans (hb3.mono (show w1.heap.size ≤ w2.heap.size by omega))
  have hb14 := hb13.trans (hb4.mono (show w1.heap.size ≤ w3.heap.size by omega))
  have hb15 := hb14.trans (hb5.mono (show w1.heap.size ≤ w4.heap.size by omega))
  have hWl5 := (hWl.below hb15).mono (show w1.heap.size ≤ w5.heap.size by omega)
  have hwx : wfL [⟨xk, xn, xs⟩, ⟨yk, yn, ys⟩, ⟨xk, xn, xs⟩] := wfL_cons v1 (wfL_cons v2 (wfL_cons v1 wfL_nil0))
  have HCol := hid (Collect_any w5 w5.heap.size a ln cap l 600 hWl5 (Nat.le_refl _) hln hcap (by omega) hwl (some ⟨w4.heap.size, 0, none⟩) 3 3 [⟨xk, xn, xs⟩, ⟨yk, yn, ys⟩, ⟨xk, xn, xs⟩] hX rfl (by omega) hwx)
  have HPk1 := hid (by have h := picked_any j1 mm w2 hi1.1 hi1.2 (by omega) (by omega); rw [hp1] at h; exact h : Calls Try.prog 16 #[.int .i64 j1, .int .i64 (mm : Int)] w2 fun e w' => e = .returned (.int .i64 (q1 : Int)) ∧ w' = w2)
  have HPk2 := hid (by have h := picked_any j2 mm w3 hi2.1 hi2.2 (by omega) (by omega); rw [hp2] at h; exact h : Calls Try.prog 16 #[.int .i64 j2, .int .i64 (mm : Int)] w3 fun e w' => e = .returned (.int .i64 (q2 : Int)) ∧ w' = w3)
  have A0 := (hb12.cell (p := ⟨gm, om + q1 * 3, none⟩) hgm).trans a0
  have A1 := (hb12.cell (p := ⟨gm, om + q1 * 3 + 1, none⟩) hgm).trans a1
  have A2 := (hb12.cell (p := ⟨gm, om + q1 * 3 + 2, none⟩) hgm).trans a2
  have Y0 := (hb13.cell (p := ⟨gm, om + q2 * 3, none⟩) hgm).trans b0
  have Y1 := (hb13.cell (p := ⟨gm, om + q2 * 3 + 1, none⟩) hgm).trans b1
  have Y2 := (hb13.cell (p := ⟨gm, om + q2 * 3 + 2, none⟩) hgm).trans b2
  have hq1i : (q1 : Int) < mm := by omega
  have hq2i : (q2 : Int) < mm := by omega
  have HSh := hid (fun l' R' lim' r (hc : CoI 600 l [⟨xk, xn, xs⟩, ⟨yk, yn, ys⟩, ⟨xk, xn, xs⟩] l' lim' R' r) => shares hMd m1 m2 hc)
  have HB15 := hid (hb1.trans (hb15.mono (by omega)))
  have B9' := ((B9.below hb3 (by omega)).below hb4 (by omega))
  have B11' := B11.below hb4 (by omega)
  have HB11 := hid (B11'.below hb5 (by omega))
  have HB12 := hid (B12.below hb5 (by omega))
  have H2 := hid hw2
  have H3 := hid hw3
  have H4 := hid hw4
  have H5 := hid hw5
  have HZ := hid (show w.heap.size ≤ w1.heap.size ∧ w1.heap.size < w2.heap.size ∧ w2.heap.size < w3.heap.size ∧ w3.heap.size < w4.heap.size ∧ w4.heap.size < w5.heap.size by omega)
  obtain ⟨r0, r1, _, _⟩ := B9'
  obtain ⟨s0, s1, s2⟩ := B11'
  obtain ⟨t0, t1, t2⟩ := B12
  clear hw2 hw3 hw4 hw5 hb1 hb2 hb3 hb4 hb5 hb12 hb13 hb14 hb15 hz1 hz2 hz3 hz4 hz5 hWl hWm hWl5 hX hMd m1 m2 v1 v2 hwm hwl hwx hmm hln hp1 hp2 hq1M hq2M a0 a1 a2 b0 b1 b2 B9 B11 h2 h40 h5 hcm
  go_upto_region 2 with fail
  rw [← H2.out]
  go_wp2_with fail
  have hcall := HPk1.out
  go_fit hcall
  clear hcall
  rintro e w0 ⟨rfl, h0⟩; subst w0
  go_upto_region 3 with fail
  rw [← H3.out]
  clear A0 A1 A2
  go_wp2_with fail
  have hcall := HPk2.out
  go_fit hcall
  clear hcall
  rintro e w0 ⟨rfl, h0⟩; subst w0
  go_upto_region 4 with fail
  rw [← H4.out]
  clear Y0 Y1 Y2
  go_wp2_with fail
  rw [← H5.out]
  have hcall := HCol.out
  go_fit hcall
  clear hcall
  rintro e w6 ⟨l', lim', R', r, a', cap', ra', rcap', rfl, hco, _, _, hW6, hb6⟩
  obtain ⟨rfl, y, z, rfl, heq, hne⟩ := HSh.out _ _ _ _ hco
  have hz := HZ.out
  have hz6 := hb6.size
  obtain ⟨s0, s1, s2⟩ := HB11.out.below hb6 (by omega)
  obtain ⟨t0, t1, t2⟩ := HB12.out.below hb6 (by omega)
  obtain ⟨g, o, rfl, hgl, d0, d1, d2⟩ := hW6 0 (by simp)
  obtain ⟨g', o', e', _, f0, f1, f2⟩ := hW6 1 (by simp)
  injection e' with e'; injection e' with e1 e2; subst e1 e2
  obtain ⟨g', o', e', _, k0, k1, k2⟩ := hW6 2 (by simp)
  injection e' with e'; injection e' with e1 e2; subst e1 e2
  obtain ⟨yk', yn', ys'⟩ := y
  obtain ⟨zk', zn', zs'⟩ := z
  simp only [List.getElem_cons_zero, List.getElem_cons_succ, Nat.zero_mul, Nat.add_zero, Nat.one_mul] at d0 d1 d2 f0 f1 f2 k0 k1 k2
  dsimp only at heq hne
  have HB6 := hid (HB15.out.trans (hb6.mono (by omega)))
  have hw26 : w2.heap.size < w6.heap.size := by omega
  have hw36 : w3.heap.size < w6.heap.size := by omega
  generalize hL : List.length l' = n' 
  clear hco hb6 hW6 hL
  by_cases hab : (⟨xk, xn, xs⟩ : Wd) = ⟨yk, yn, ys⟩
  · have hyz := heq hab
    injection hab with h1 h2 h3
    injection hyz with h4 h5 h6
    subst h1 h2 h3 h4 h5 h6
    clear heq hne
    go_wp2_with fail
    go_quiet (fail)
    go_wp2_with fail
    go_ret
    exact ⟨by simp, bdrew (HB6.out.alloc (by omega) _) _⟩
  · have hd := hne hab
    have hc : (xk == yk) = false ∨ ((xk == yk) = true ∧ (xn == yn) = false) ∨ ((xk == yk) = true ∧ (xn == yn) = true ∧ (xs.toList == ys.toList) = false) := by
      by_cases q1 : xk = yk
      · by_cases q2 : xn = yn
        · refine Or.inr (Or.inr ⟨by simpa using q1, by simpa using q2, ?_⟩)
          rw [beq_eq_false_iff_ne]
          exact fun q3 => hab (wd_eq q1 q2 (by rw [ByteArray.toList_eq, ByteArray.toList_eq] at q3; cases xs; cases ys; simp only [ByteArray.mk.injEq]; exact Array.toList_inj.1 q3))
        · exact Or.inr (Or.inl ⟨by simpa using q1, by simpa using q2⟩)
      · exact Or.inl (by simpa using q1)
    have hc2 : (yk' == zk') = false ∨ ((yk' == zk') = true ∧ (yn' == zn') = false) ∨ ((yk' == zk') = true ∧ (yn' == zn') = true ∧ (ys'.toList == zs'.toList) = false) := by
      by_cases q1 : yk' = zk'
      · by_cases q2 : yn' = zn'
        · refine Or.inr (Or.inr ⟨by simpa using q1, by simpa using q2, ?_⟩)
          rw [beq_eq_false_iff_ne]
          intro q3
          have q4 : ys' = zs' := by rw [ByteArray.toList_eq, ByteArray.toList_eq] at q3; cases ys'; cases zs'; simp only [ByteArray.mk.injEq]; exact Array.toList_inj.1 q3
          rcases hd with h | h | h
          · exact h q1
          · exact h q2
          · exact h q4
        · exact Or.inr (Or.inl ⟨by simpa using q1, by simpa using q2⟩)
      · exact Or.inl (by simpa using q1)
    clear heq hne hd hab
    rcases hc with c1 | ⟨c1, c2⟩ | ⟨c1, c2, c3⟩
    all_goals rcases hc2 with e1 | ⟨e1, e2⟩ | ⟨e1, e2, e3⟩
    all_goals
      go_wp2_with fail
      go_quiet (fail)
      go_wp2_with fail
      go_ret
      exact ⟨by simp [*], bdrew (HB6.out.alloc (by omega) _) _⟩
set_option maxRecDepth 100000 in
theorem collectShares_lifted (os : Os) (started : os.Started) (H : Type) (enc : TypeId × Value → H) :
    ReturnsInHanded {} Try.checked os 7 .any (Rows.collectSharesSpec.pre6 enc Try.prog Try.f7 Rows.collectSharesRow.domain false) (Rows.collectSharesSpec.post enc Try.prog Try.f7 false true false false) := by
  refine returnsInHanded_of_change_sized (C := Try.checked) own started (by kernel_rfl) Try.func7
    (ChangeSpec.witness6 (enc := enc) (C := Try.checked) false ⟨#[], #[.slice none 0 0, .int .i64 0, .int .i64 0], []⟩ 8 (by kernel_rfl) (by kernel_rfl) (by kernel_rfl) (by kernel_rfl)) ?_
  intro W base args ds gs before hval0 hW hcnd hsz0 _
  have hval : ∀ (j : Nat) t v, Try.f7.params[j]? = some t → args[j]? = some v → Value.okWide Try.prog W .any base t v := hval0
  have hsz : (DataW.weightsEach Try.prog (Try.f7.params.toList ++ Rows.collectSharesSpec.plain.varTypes Try.prog) (ds ++ gs)).all (· ≤ reachBytes) = true := hsz0
  have hW' := hW
  obtain ⟨p, q, hA0, hV, rfl, hfz, hnd⟩ := hW
  have hA : DataW.TrodAll enc Try.prog W 0 (fun _ => true) true Try.f7.params.toList args.toList ds p := hA0
  rw [Try.params7] at hA hval hsz
  obtain ⟨v0, vs0, d0, ds0, p0, q0, hargs0, rfl, rfl, h0, r0⟩ := trodAll_cons hA
  obtain ⟨v1, vs1, d1, ds1, p1, q1, hargs1, rfl, rfl, h1, r1⟩ := trodAll_cons r0
  obtain ⟨v2, vs2, d2, ds2, p2, q2, hargs2, rfl, rfl, h2, r2⟩ := trodAll_cons r1
  obtain ⟨rfl, rfl, rfl⟩ := trodAll_nil r2
  obtain rfl : args = #[v0, v1, v2] := by cases args; simp_all
  obtain ⟨rfl, rfl⟩ := trodVars_none hV
  have k0 := h0
  have lt0 : ∀ x ∈ p0, x.block < W.heap.size := by obtain ⟨m, hm⟩ := k0; exact DataW.trod_lt m _ _ _ hm
  obtain ⟨a0, cap0, R0, rfl, gm0, hRw0⟩ := raws_in (hval 0 33 v0 rfl rfl) h0
  obtain ⟨i1, rfl, rfl, rfl, wn1⟩ := open_int Try.underlying3 (hval 1 3 v1 rfl rfl) h1
  obtain ⟨i2, rfl, rfl, rfl, wn2⟩ := open_int Try.underlying3 (hval 2 3 v2 rfl rfl) h2
  clear hA0 hval0 hsz0 hsz
  refine (shares_walk a0 R0 R0.length cap0 i1 i2 W rfl gm0 hRw0 wn1 wn2).mono fun e W' ⟨he, bel⟩ => ?_
  subst he
  exact ⟨_, rfl, _, _, _, [], _, [], hW', trodAll_mk1 (shut_bool Try.underlying4 _), (trodAll_cons_mk (Below.trod laidOut (by kernel_rfl) (of_decide_eq_true (by kernel_rfl)) k0 bel lt0) (trodAll_cons_mk (shut_int Try.underlying3 wn1) (trodAll_cons_mk (shut_int Try.underlying3 wn2) trodAll_mk0))), rfl, bel.frame _, fun h => by cases h⟩
theorem collectShares_holds : Rows.CollectSharesSaid :=
  OpenClaim.holds_of_wide 7 Try.f7 rfl rfl rfl rfl rfl rfl rfl ⟨rfl, rfl, rfl, rfl, rfl⟩ rfl rfl rfl rfl rfl (by kernel_rfl) Try.func7 (by kernel_rfl)
    (of_decide_eq_true (by kernel_rfl)) (by unfold Func.isWrapper; first | (rw [if_pos (by decide +kernel)]; kernel_rfl) | (rw [if_neg (by decide +kernel)]; exact ⟨rfl, rfl⟩))
    (fun os started H enc _ => collectShares_lifted os started H enc)
#print axioms collectShares_holds
end Go.Proofs.Ytngaamjkegeioaa

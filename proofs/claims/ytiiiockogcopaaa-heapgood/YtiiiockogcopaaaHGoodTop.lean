/- Whatever is put on a heap, it stays one that may be: HeapGood returns true for all raw things and every number that can be read, and leaves them as they were. No condition. -/
import Derived.Test.YtiiiockogcopaaaRows
import Derived.Test.YtiiiockogcopaaaHBuilt
import Derived.Test.YtiiiockogcopaaaHRaws
namespace Go.Proofs.Ytiiiockogcopaaa
set_option maxRecDepth 100000
open Go.ChangeShapes Go.WideShapes Go.ChangeAt Go.RowKit
set_option maxHeartbeats 4000000 in
theorem good_walk (ar : Option Addr) (R : List Rw4) (nr cr : Nat) (i : Int) (w : World) (hnr : nr = R.length) (hnb : nr ≤ 9223372036854775807) (hR : RawS w w.heap.size ar R) (hi : wfI i) :
    Calls Try.prog 6 #[.slice ar nr cr, .int .i64 i] w fun e w' => e = .returned (.bool true) ∧ Below w.heap.size w w' := by
  have hi2 := i64_of hi
  have HC := hid (built_any w w.heap.size ar nr cr R 30 hR (Nat.le_refl _) hnr hnb (by omega))
  clear hR hnr hnb hi
  go_enter Try.func6, Try.ntmps6
  go_wp2_with fail
  have hcall := HC.out
  rw [show ((30 : Nat) : Int) = 30 from rfl] at hcall
  go_fit hcall
  clear hcall
  rintro e w1 ⟨l, M, a, cap, am, capm, rfl, hMd, hcap, hWl, hWm, hwl, hwm, h2, h40, hcm, hb1⟩
  obtain ⟨mm, hmm⟩ : ∃ mm, mm = M.length := ⟨_, rfl⟩
  obtain ⟨ln, hln⟩ : ∃ ln, ln = l.length := ⟨_, rfl⟩
  rw [← hmm, ← hln]
  rw [← hln] at hcap
  have hl6 : ln ≤ 600 := by obtain ⟨acc, ms, hok, _⟩ := hMd; have := hok.room; omega
  obtain ⟨w2, hw2⟩ : ∃ w2, w2 = w1.alloc (.cells #[.slice a ln cap, .int .i64 600] 24) := ⟨_, rfl⟩
  obtain ⟨hz2, hb2⟩ := new1 w1 _ w2 hw2
  have c0 : w2.cell? ⟨w1.heap.size, 0, none⟩ = some (.slice a ln cap) := by rw [hw2]; go_simp
  have c1 : w2.cell? ⟨w1.heap.size, 1, none⟩ = some (.int .i64 600) := by rw [hw2]; go_simp
  have hz1 := hb1.size
  have hWm2 := (hWm.below hb2).mono (show w1.heap.size ≤ w2.heap.size by omega)
  obtain ⟨q, hq, hp⟩ := pick_nat i mm (by omega)
  have hqM : q < M.length := by omega
  obtain ⟨gm, om, rfl, hgm, a0, a1, a2⟩ := hWm2 q hqM
  have hmem : M[q]'hqM ∈ M := List.getElem_mem hqM
  have hwq := hwm q hqM
  generalize M[q]'hqM = x at a0 a1 a2 hmem hwq
  obtain ⟨xk, xn, xs⟩ := x
  dsimp only at a0 a1 a2 hwq
  obtain ⟨w3, hw3⟩ : ∃ w3, w3 = w2.alloc (.cells #[.int .i64 xk, .int .i64 xn, .string xs] 42) := ⟨_, rfl⟩
  obtain ⟨⟨t0, t1, t2⟩, _, hz3, hb3⟩ := box3 w2 _ _ _ _ w3 hw3
  have c0' := (hb3.cell (p := ⟨w1.heap.size, 0, none⟩) (by dsimp only; omega)).trans c0
  have c1' := (hb3.cell (p := ⟨w1.heap.size, 1, none⟩) (by dsimp only; omega)).trans c1
  have hWl3 := ((hWl.below hb2).below (hb3.mono (by omega))).mono (show w1.heap.size ≤ w3.heap.size by omega)
  have HPk := hid (by have h := picked_any i mm w2 hi2.1 hi2.2 (by omega) (by omega); rw [hp] at h; exact h : Calls Try.prog 20 #[.int .i64 i, .int .i64 (mm : Int)] w2 fun e w' => e = .returned (.int .i64 (q : Int)) ∧ w' = w2)
  have HFd := hid (Find_any w3 w3.heap.size a ln cap l 600 xk xn xs hWl3 (Nat.le_refl _) hln hcap (by omega) hwl hwq.1 hwq.2)
  have HB3 := hid ((hb1.trans (hb2.mono hz1)).trans (hb3.mono (by omega)))
  have HG := hid (fun k' n' s' r h => good_find hMd hmem (k' := k') (n' := n') (s' := s') (r := r) h)
  have HCv := hid (fun r h => good_cv hMd hmem (r := r) h)
  have HNb := hid (good_ok hMd)
  have HWl := hid hWl3
  have H2 := hid hw2
  have H3 := hid hw3
  have hqi : (q : Int) < mm := by omega
  have HLn := hid hln
  have hzz : w.heap.size ≤ w3.heap.size := by omega
  have hz13 : w1.heap.size < w2.heap.size ∧ w2.heap.size < w3.heap.size := by omega
  have HZ := hid hz13
  have hWq := hid hwq
  clear hw2 hw3 hb1 hb2 hb3 hz1 hz2 hz3 hWl hWm hWm2 hWl3 hMd hmem hwm hmm hln hp hqM hwq hz13 h2 h40 hcm
  go_upto_region 2 with fail
  rw [← H2.out]
  go_wp2_with fail
  have hcall := HPk.out
  go_fit hcall
  clear hcall
  rintro e w0 ⟨rfl, h0⟩; subst w0
  go_upto_region 3 with fail
  rw [← H3.out]
  clear a0 a1 a2 c0 c1
  go_wp2_with fail
  have hcall := HFd.out
  go_fit hcall
  clear hcall
  rintro e w4 ⟨k', n', s', r, rfl, hfd, hb4⟩
  obtain ⟨rfl, rfl, rfl, rfl⟩ := HG.out _ _ _ _ hfd
  have hz4 := hb4.size
  obtain ⟨w5, hw5⟩ : ∃ w5, w5 = w4.alloc (.cells #[.int .i64 k', .int .i64 n', .string s'] 42) := ⟨_, rfl⟩
  obtain ⟨⟨s0, s1, s2⟩, _, hz5, hb5⟩ := box3 w4 _ _ _ _ w5 hw5
  have hb35 := hb4.trans (hb5.mono hz4)
  have hz := HZ.out
  have d0 := (hb35.cell (p := ⟨w1.heap.size, 0, none⟩) (by dsimp only; omega)).trans c0'
  have d1 := (hb35.cell (p := ⟨w1.heap.size, 1, none⟩) (by dsimp only; omega)).trans c1'
  have e0 := (hb35.cell (p := ⟨w2.heap.size, 0, none⟩) (by dsimp only; omega)).trans t0
  have e1 := (hb35.cell (p := ⟨w2.heap.size, 1, none⟩) (by dsimp only; omega)).trans t1
  have e2 := (hb35.cell (p := ⟨w2.heap.size, 2, none⟩) (by dsimp only; omega)).trans t2
  have hWl5 := (HWl.out.below hb35).mono (show w3.heap.size ≤ w5.heap.size by omega)
  have HCk := hid (Check_any w5 w5.heap.size a ln cap l 600 hWl5 (Nat.le_refl _) HLn.out hcap (by omega) hwl)
  have HB5 := hid (HB3.out.trans (hb35.mono hzz))
  have HWl5 := hid hWl5
  have H5 := hid hw5
  have HZ5 := hid (show w1.heap.size < w4.heap.size ∧ w2.heap.size < w4.heap.size ∧ w4.heap.size < w5.heap.size ∧ w.heap.size ≤ w5.heap.size by omega)
  clear hw5 hb4 hb5 hb35 hz hz4 hz5 hfd hWl5 c0' c1' t0 t1 t2
  go_upto_region 4 with fail
  rw [← H5.out]
  go_wp2_with fail
  have hcall := HCk.out
  go_fit hcall
  clear hcall
  rintro e w6 ⟨r, rfl, hr, hb6⟩
  obtain rfl : r = 0 := by
    rcases hr with ⟨h, _⟩ | ⟨_, h⟩
    · exact h
    · exact absurd h HNb.out
  have hz := HZ5.out
  have hz6 := hb6.size
  have f0 := (hb6.cell (p := ⟨w1.heap.size, 0, none⟩) (by dsimp only; omega)).trans d0
  have f1 := (hb6.cell (p := ⟨w1.heap.size, 1, none⟩) (by dsimp only; omega)).trans d1
  have g0 := (hb6.cell (p := ⟨w2.heap.size, 0, none⟩) (by dsimp only; omega)).trans e0
  have g1 := (hb6.cell (p := ⟨w2.heap.size, 1, none⟩) (by dsimp only; omega)).trans e1
  have g2 := (hb6.cell (p := ⟨w2.heap.size, 2, none⟩) (by dsimp only; omega)).trans e2
  have i0 := (hb6.cell (p := ⟨w4.heap.size, 0, none⟩) (by dsimp only; omega)).trans s0
  have i1 := (hb6.cell (p := ⟨w4.heap.size, 1, none⟩) (by dsimp only; omega)).trans s1
  have i2 := (hb6.cell (p := ⟨w4.heap.size, 2, none⟩) (by dsimp only; omega)).trans s2
  have hWl6 := (HWl5.out.below hb6).mono hz6
  have HCw := hid (CheckValue_any w6 w6.heap.size a ln cap l 600 k' n' s' hWl6 (Nat.le_refl _) HLn.out hcap (by omega) hwl hWq.out.1 hWq.out.2)
  have HB6 := hid (HB5.out.trans (hb6.mono (by omega)))
  have HZ6 := hid (show w1.heap.size < w6.heap.size ∧ w2.heap.size < w6.heap.size ∧ w4.heap.size < w6.heap.size ∧ w.heap.size ≤ w6.heap.size by omega)
  clear hb6 hz hz6 hr hWl6 d0 d1 e0 e1 e2 s0 s1 s2
  go_wp2_with fail
  have hcall := HCw.out
  go_fit hcall
  clear hcall
  rintro e w7 ⟨r, rfl, hr, hb7⟩
  obtain rfl := HCv.out _ hr
  have hz := HZ6.out
  have hz7 := hb7.size
  have p0 := (hb7.cell (p := ⟨w2.heap.size, 0, none⟩) (by dsimp only; omega)).trans g0
  have p1 := (hb7.cell (p := ⟨w2.heap.size, 1, none⟩) (by dsimp only; omega)).trans g1
  have p2 := (hb7.cell (p := ⟨w2.heap.size, 2, none⟩) (by dsimp only; omega)).trans g2
  have q0 := (hb7.cell (p := ⟨w4.heap.size, 0, none⟩) (by dsimp only; omega)).trans i0
  have q1 := (hb7.cell (p := ⟨w4.heap.size, 1, none⟩) (by dsimp only; omega)).trans i1
  have q2 := (hb7.cell (p := ⟨w4.heap.size, 2, none⟩) (by dsimp only; omega)).trans i2
  have HB7 := hid (HB6.out.trans (hb7.mono (by omega)))
  have HCz := hid (Check_any w7 w7.heap.size none 0 0 [] 0 (wds_nil _ _ _) (Nat.le_refl _) rfl (Nat.le_refl _) (by omega) wfL_nil0)
  have hzw : w.heap.size ≤ w7.heap.size := by omega
  clear hb7 hz hz7 hr f0 f1 g0 g1 g2 i0 i1 i2
  go_wp2_with fail
  have hcall := HCz.out
  go_fit hcall
  clear hcall
  rintro e w8 ⟨r, rfl, hr, hb8⟩
  obtain rfl : r = 9 := by
    rcases hr with ⟨_, acc, ms, h⟩ | ⟨h, _⟩
    · have := h.lo; omega
    · exact h
  have HB8 := hid (HB7.out.trans (hb8.mono hzw))
  clear hb8 hr
  go_wp2_with fail
  go_ret
  exact ⟨by simp, HB8.out⟩
set_option maxRecDepth 100000 in
theorem heapGood_lifted (os : Os) (started : os.Started) (H : Type) (enc : TypeId × Value → H) :
    ReturnsInHanded {} Try.checked os 6 .any (Rows.heapGoodSpec.pre6 enc Try.prog Try.f6 Rows.heapGoodRow.domain false) (Rows.heapGoodSpec.post enc Try.prog Try.f6 false true false false) := by
  refine returnsInHanded_of_change_sized (C := Try.checked) own started (by kernel_rfl) Try.func6
    (ChangeSpec.witness6 (enc := enc) (C := Try.checked) false ⟨#[], #[.slice none 0 0, .int .i64 0], []⟩ 8 (by kernel_rfl) (by kernel_rfl) (by kernel_rfl) (by kernel_rfl)) ?_
  intro W base args ds gs before hval0 hW hcnd hsz0 _
  have hval : ∀ (j : Nat) t v, Try.f6.params[j]? = some t → args[j]? = some v → Value.okWide Try.prog W .any base t v := hval0
  have hsz : (DataW.weightsEach Try.prog (Try.f6.params.toList ++ Rows.heapGoodSpec.plain.varTypes Try.prog) (ds ++ gs)).all (· ≤ reachBytes) = true := hsz0
  have hW' := hW
  obtain ⟨p, q, hA0, hV, rfl, hfz, hnd⟩ := hW
  have hA : DataW.TrodAll enc Try.prog W 0 (fun _ => true) true Try.f6.params.toList args.toList ds p := hA0
  rw [Try.params6] at hA hval hsz
  obtain ⟨v0, vs0, d0, ds0, p0, q0, hargs0, rfl, rfl, h0, r0⟩ := trodAll_cons hA
  obtain ⟨v1, vs1, d1, ds1, p1, q1, hargs1, rfl, rfl, h1, r1⟩ := trodAll_cons r0
  obtain ⟨rfl, rfl, rfl⟩ := trodAll_nil r1
  obtain rfl : args = #[v0, v1] := by cases args; simp_all
  obtain ⟨rfl, rfl⟩ := trodVars_none hV
  have k0 := h0
  have lt0 : ∀ x ∈ p0, x.block < W.heap.size := by obtain ⟨m, hm⟩ := k0; exact DataW.trod_lt m _ _ _ hm
  obtain ⟨a0, cap0, R0, rfl, gm0, hRw0⟩ := raws_in (hval 0 38 v0 rfl rfl) h0
  obtain ⟨i1, rfl, rfl, rfl, wn1⟩ := open_int Try.underlying3 (hval 1 3 v1 rfl rfl) h1
  clear hA0 hval0 hsz0 hsz
  refine (good_walk a0 R0 R0.length cap0 i1 W rfl gm0 hRw0 wn1).mono fun e W' ⟨he, bel⟩ => ?_
  subst he
  exact ⟨_, rfl, _, _, _, [], _, [], hW', trodAll_mk1 (shut_bool Try.underlying4 _), (trodAll_cons_mk (Below.trod laidOut (by kernel_rfl) (of_decide_eq_true (by kernel_rfl)) k0 bel lt0) (trodAll_cons_mk (shut_int Try.underlying3 wn1) trodAll_mk0)), rfl, bel.frame _, fun h => by cases h⟩
theorem heapGood_holds : Rows.HeapGoodSaid :=
  OpenClaim.holds_of_wide 6 Try.f6 rfl rfl rfl rfl rfl rfl rfl ⟨rfl, rfl, rfl, rfl, rfl⟩ rfl rfl rfl rfl rfl (by kernel_rfl) Try.func6 (by kernel_rfl)
    (of_decide_eq_true (by kernel_rfl)) (by unfold Func.isWrapper; first | (rw [if_pos (by decide +kernel)]; kernel_rfl) | (rw [if_neg (by decide +kernel)]; exact ⟨rfl, rfl⟩))
    (fun os started H enc _ => heapGood_lifted os started H enc)
#print axioms heapGood_holds
end Go.Proofs.Ytiiiockogcopaaa

/- Without roots nothing is left, with all that was made nothing is gone: CollectAll returns true for all raw things that can be read, and leaves them as they were. No condition. -/
import Derived.Test.YtngaamjkegeioaaRows
import Derived.Test.YtngaamjkegeioaaHAllP
namespace Go.Proofs.Ytngaamjkegeioaa
set_option maxRecDepth 100000
open Go.ChangeShapes Go.WideShapes Go.ChangeAt Go.RowKit
set_option maxHeartbeats 4000000 in
theorem all_walk (ar : Option Addr) (R : List Rw4) (nr cr : Nat) (w : World) (hnr : nr = R.length) (hnb : nr ≤ 9223372036854775807) (hR : RawS w w.heap.size ar R) :
    Calls Try.prog 8 #[.slice ar nr cr] w fun e w' => e = .returned (.bool true) ∧ Below w.heap.size w w' := by
  have HC := hid (built_any w w.heap.size ar nr cr R 30 hR (Nat.le_refl _) hnr hnb (by omega))
  clear hR hnr hnb
  go_enter Try.func8, Try.ntmps8
  go_wp2_with fail
  have hcall := HC.out
  rw [show ((30 : Nat) : Int) = 30 from rfl] at hcall
  go_fit hcall
  clear hcall
  rintro e w1 ⟨l, M, a, cap, am, capm, rfl, hMd, hcap, hWl, hWm, hwl, hwm, h2, h40, hcm, h5, hb1⟩
  obtain ⟨mm, hmm⟩ : ∃ mm, mm = M.length := ⟨_, rfl⟩
  obtain ⟨ln, hln⟩ : ∃ ln, ln = l.length := ⟨_, rfl⟩
  rw [← hmm, ← hln]
  rw [← hln] at hcap
  have hl6 : ln ≤ 190 := by omega
  have hm6 : mm ≤ 40 := by omega
  have hz1 := hb1.size
  obtain ⟨w2, hw2⟩ : ∃ w2, w2 = w1.alloc (.cells #[.slice a ln cap, .int .i64 600] 24) := ⟨_, rfl⟩
  obtain ⟨B2, hz2, hb2⟩ := bx2_born w1 _ _ _ w2 hw2
  have HCol := hid (fun (wx : World) (hb : Below w2.heap.size w2 wx) (ra : Option Addr) (rl rc : Nat) (Q : List Wd) (hQ : Wds wx wx.heap.size ra Q) (hrl : rl = Q.length) (hrb : rl ≤ 100) (hwq : wfL Q) => Collect_any wx wx.heap.size a ln cap l 600 ((hWl.below (hb2.trans (hb.mono (by omega)))).mono (by have := hb.size; omega)) (Nat.le_refl _) hln hcap (by omega) hwl ra rl rc Q hQ hrl (by omega) hwq)
  have HWm := hid (fun (wx : World) (hb : Below w2.heap.size w2 wx) => (hWm.below (hb2.trans (hb.mono (by omega)))).mono (show w1.heap.size ≤ wx.heap.size by have := hb.size; omega))
  have HMd := hid hMd
  have HWl := hid hwl
  have HWfm := hid hwm
  have HMm := hid hmm
  have HLn := hid hln
  have HB2 := hid (hb1.trans (hb2.mono (by omega)))
  have HB := hid B2
  have H2 := hid hw2
  obtain ⟨r0, r1, _, _⟩ := B2
  have HZ := hid (show w.heap.size ≤ w1.heap.size ∧ w2.heap.size = w1.heap.size + 1 by omega)
  have HC1 := hid (HCol.out w2 (Below.refl _ _) none 0 0 [] (fun i hi => absurd hi (by simp)) rfl (by omega) wfL_nil0)
  clear hMd hwl hwm hmm hln hw2 hb1 hb2 hz1 hz2 hWl hWm h2 h40 h5 hcm hcap
  go_upto_region 2 with fail
  rw [← H2.out]
  go_wp2_with fail
  have hcall := HC1.out
  go_fit hcall
  clear hcall
  rintro e w3 ⟨l3, lim3, R3, r3, a3, cap3, ra3, rcap3, rfl, hco3, _, _, _, hb3⟩
  obtain ⟨rfl, rfl⟩ := none_left HMd.out hco3
  have hz := HZ.out
  have hz3 := hb3.size
  obtain ⟨w4, hw4⟩ : ∃ w4, w4 = w3.alloc (.cells #[.slice a3 0 cap3, .int .i64 lim3] 24) := ⟨_, rfl⟩
  obtain ⟨B4, hz4, hb4⟩ := bx2_born w3 _ _ _ w4 hw4
  have hb24 := hb3.trans (hb4.mono hz3)
  obtain ⟨s0, s1, _, _⟩ := HB.out.below hb24 (by omega)
  have HC2 := hid (HCol.out w4 hb24 am mm capm M (HWm.out w4 hb24) HMm.out (by omega) HWfm.out)
  have H4 := hid hw4
  have HB4 := hid B4
  have HB24 := hid hb24
  clear hco3 r0 r1 hw4 hb24 hb4 hb3 B4
  go_upto_region 3 with fail
  rw [← H4.out]
  go_wp2_with fail
  have hcall := HC2.out
  go_fit hcall
  clear hcall
  rintro e w5 ⟨l5, lim5, R5, r5, a5, cap5, ra5, rcap5, rfl, hco5, _, _, _, hb5⟩
  obtain ⟨rfl, hl5⟩ := all_kept HMd.out HWl.out hco5
  have hz5 := hb5.size
  rw [hl5, ← HLn.out]
  obtain ⟨w6, hw6⟩ : ∃ w6, w6 = w5.alloc (.cells #[.slice a5 ln cap5, .int .i64 lim5] 24) := ⟨_, rfl⟩
  obtain ⟨B6, hz6, hb6⟩ := bx2_born w5 _ _ _ w6 hw6
  have hb46 := hb5.trans (hb6.mono hz5)
  have hb26 := HB24.out.trans (hb46.mono (by omega))
  obtain ⟨t0, t1, _, _⟩ := HB.out.below hb26 (by omega)
  obtain ⟨w7, hw7⟩ : ∃ w7, w7 = w6.alloc (.cells #[.int .i64 5, .int .i64 (ln : Int), .string ⟨#[]⟩] 37) := ⟨_, rfl⟩
  obtain ⟨hz7, hb7⟩ := new1 w6 _ w7 hw7
  have hX : Wds w7 w7.heap.size (some ⟨w6.heap.size, 0, none⟩) [⟨5, (ln : Int), ⟨#[]⟩⟩] := by
    have h := wds_n w6 [⟨5, (ln : Int), ⟨#[]⟩⟩] #[.int .i64 5, .int .i64 (ln : Int), .string ⟨#[]⟩] 37 (by simp [wcs])
    rw [← hw7] at h
    exact h.mono (by omega)
  have hwx : wfL [⟨5, (ln : Int), ⟨#[]⟩⟩] := by
    intro i hi
    have hi0 : i = 0 := by simp at hi; omega
    subst hi0
    exact ⟨WalkArith.wf_i64 (by simp; omega), by show (ByteArray.size ⟨#[]⟩) ≤ 9223372036854775807; decide⟩
  have hb27 := hb26.trans (hb7.mono (by omega))
  rw [hz6] at hX
  have HC3 := hid (HCol.out w7 hb27 (some ⟨w5.heap.size + 1, 0, none⟩) 1 1 [⟨5, (ln : Int), ⟨#[]⟩⟩] hX rfl (by omega) hwx)
  have H6 := hid hw6
  have H7 := hid hw7
  have HB6 := hid (B6.below hb7 (by omega))
  have HB47 := hid (HB4.out.below (hb46.trans (hb7.mono (by omega))) (by omega))
  have HB27 := hid hb27
  have HB7 := hid (HB.out.below hb27 (by omega))
  clear hwx hco5 s0 s1 hw6 hw7 hb26 hb27 hb46 hb5 hb6 hb7 hX B6 hl5
  go_upto_region 4 with fail
  rw [← H6.out]
  go_wp2_with fail
  rw [← H7.out]
  have hcall := HC3.out
  go_fit hcall
  clear hcall
  rintro e w8 ⟨l8, lim8, R8, r8, a8, cap8, ra8, rcap8, rfl, hco8, _, _, _, hb8⟩
  have e8 : r8 = 3 := by
    rw [HLn.out] at hco8
    exact bad_root HMd.out hco8
  subst e8
  have hz8 := hb8.size
  obtain ⟨x0, x1, _, _⟩ := HB7.out.below hb8 (by omega)
  obtain ⟨y0, y1, _, _⟩ := HB47.out.below hb8 (by omega)
  obtain ⟨v0, v1, _, _⟩ := HB6.out.below hb8 (by omega)
  have HBf := hid (HB2.out.trans ((HB27.out.trans (hb8.mono (by omega))).mono (by omega)))
  have k1 : w1.heap.size < w8.heap.size := by omega
  have k2 : w3.heap.size < w8.heap.size := by omega
  have k3 : w5.heap.size < w8.heap.size := by omega
  generalize List.length l8 = n8
  generalize List.length R8 = m8
  clear hco8 t0 t1 hb8
  go_wp2_with fail
  go_ret
  exact ⟨by simp, HBf.out.alloc (by omega) _⟩
set_option maxRecDepth 100000 in
theorem collectAll_lifted (os : Os) (started : os.Started) (H : Type) (enc : TypeId × Value → H) :
    ReturnsInHanded {} Try.checked os 8 .any (Rows.collectAllSpec.pre6 enc Try.prog Try.f8 Rows.collectAllRow.domain false) (Rows.collectAllSpec.post enc Try.prog Try.f8 false true false false) := by
  refine returnsInHanded_of_change_sized (C := Try.checked) own started (by kernel_rfl) Try.func8
    (ChangeSpec.witness6 (enc := enc) (C := Try.checked) false ⟨#[], #[.slice none 0 0], []⟩ 8 (by kernel_rfl) (by kernel_rfl) (by kernel_rfl) (by kernel_rfl)) ?_
  intro W base args ds gs before hval0 hW hcnd hsz0 _
  have hval : ∀ (j : Nat) t v, Try.f8.params[j]? = some t → args[j]? = some v → Value.okWide Try.prog W .any base t v := hval0
  have hsz : (DataW.weightsEach Try.prog (Try.f8.params.toList ++ Rows.collectAllSpec.plain.varTypes Try.prog) (ds ++ gs)).all (· ≤ reachBytes) = true := hsz0
  have hW' := hW
  obtain ⟨p, q, hA0, hV, rfl, hfz, hnd⟩ := hW
  have hA : DataW.TrodAll enc Try.prog W 0 (fun _ => true) true Try.f8.params.toList args.toList ds p := hA0
  rw [Try.params8] at hA hval hsz
  obtain ⟨v0, vs0, d0, ds0, p0, q0, hargs0, rfl, rfl, h0, r0⟩ := trodAll_cons hA
  obtain ⟨rfl, rfl, rfl⟩ := trodAll_nil r0
  obtain rfl : args = #[v0] := by cases args; simp_all
  obtain ⟨rfl, rfl⟩ := trodVars_none hV
  have k0 := h0
  have lt0 : ∀ x ∈ p0, x.block < W.heap.size := by obtain ⟨m, hm⟩ := k0; exact DataW.trod_lt m _ _ _ hm
  obtain ⟨a0, cap0, R0, rfl, gm0, hRw0⟩ := raws_in (hval 0 33 v0 rfl rfl) h0
  clear hA0 hval0 hsz0 hsz
  refine (all_walk a0 R0 R0.length cap0 W rfl gm0 hRw0).mono fun e W' ⟨he, bel⟩ => ?_
  subst he
  exact ⟨_, rfl, _, _, _, [], _, [], hW', trodAll_mk1 (shut_bool Try.underlying4 _), (trodAll_cons_mk (Below.trod laidOut (by kernel_rfl) (of_decide_eq_true (by kernel_rfl)) k0 bel lt0) trodAll_mk0), rfl, bel.frame _, fun h => by cases h⟩
theorem collectAll_holds : Rows.CollectAllSaid :=
  OpenClaim.holds_of_wide 8 Try.f8 rfl rfl rfl rfl rfl rfl rfl ⟨rfl, rfl, rfl, rfl, rfl⟩ rfl rfl rfl rfl rfl (by kernel_rfl) Try.func8 (by kernel_rfl)
    (of_decide_eq_true (by kernel_rfl)) (by unfold Func.isWrapper; first | (rw [if_pos (by decide +kernel)]; kernel_rfl) | (rw [if_neg (by decide +kernel)]; exact ⟨rfl, rfl⟩))
    (fun os started H enc _ => collectAll_lifted os started H enc)
#print axioms collectAll_holds
end Go.Proofs.Ytngaamjkegeioaa

/- unit.Shapes answers what P2.4 says: UnitBehind returns true for every environment and every unit that can be read and are together of bulk at most 1048576, and leaves them as they were. -/
import Derived.Test.YtgdeomdnpgedbabRows
import Derived.Test.YtgdeomdnpgedbabUBulk
import Derived.Test.YtgdeomdnpgedbabURefBehind
import Derived.JoinedCond
namespace Go.Proofs.Ytgdeomdnpgedbab
open Go.ChangeShapes Go.WideShapes Go.ChangeAt Go.RowKit
theorem cellsEnv : Try.prog.cellsOf 30 = 2 := by kernel_rfl
theorem cellsUnit : Try.prog.cellsOf 36 = 3 := by kernel_rfl
theorem pairs_len {l l' : List Sh} (h : l.map pairOf = l'.map pairOf) : l.length = l'.length := by
  have := congrArg List.length h
  simpa using this
theorem cells23 {w w1 : World} {v0 v1 u0 u1 u2 : Value} {t t' : TypeId} (hb : Below (w.heap.size + 1 + 1) ((w.alloc (.cells #[v0, v1] t)).alloc (.cells #[u0, u1, u2] t')) w1) :
    w1.cell? ⟨w.heap.size, 0, none⟩ = some v0 ∧ w1.cell? ⟨w.heap.size, 1, none⟩ = some v1 ∧ w1.cell? ⟨w.heap.size + 1, 0, none⟩ = some u0 ∧ w1.cell? ⟨w.heap.size + 1, 1, none⟩ = some u1 ∧ w1.cell? ⟨w.heap.size + 1, 2, none⟩ = some u2 := by
  refine ⟨?_, ?_, ?_, ?_, ?_⟩
  · rw [hb.cell (p := ⟨w.heap.size, 0, none⟩) (show w.heap.size < w.heap.size + 1 + 1 by omega)]; go_simp
  · rw [hb.cell (p := ⟨w.heap.size, 1, none⟩) (show w.heap.size < w.heap.size + 1 + 1 by omega)]; go_simp
  · rw [hb.cell (p := ⟨w.heap.size + 1, 0, none⟩) (show w.heap.size + 1 < w.heap.size + 1 + 1 by omega)]; go_simp
  · rw [hb.cell (p := ⟨w.heap.size + 1, 1, none⟩) (show w.heap.size + 1 < w.heap.size + 1 + 1 by omega)]; go_simp
  · rw [hb.cell (p := ⟨w.heap.size + 1, 2, none⟩) (show w.heap.size + 1 < w.heap.size + 1 + 1 by omega)]; go_simp
set_option maxHeartbeats 1000000 in
theorem behind_walk (va ua ga da pa : Option Addr) (V U : List Sh) (vl vc ul uc gl gc dl dc pl pc : Nat) (w : World) (hV : Shs w w.heap.size va V) (hU : Shs w w.heap.size ua U) (hvl : vl = V.length) (hul : ul = U.length)
    (hsum : vl + ul ≤ 2097152) (hfs : ∀ s ∈ V ++ U, s.fs.length ≤ 2097152) :
    Calls Try.prog 5 #[.agg #[.slice ga gl gc, .slice va vl vc], .agg #[.slice ua ul uc, .slice da dl dc, .slice pa pl pc]] w fun e w' => e = .returned (.bool true) ∧ Below w.heap.size w w' := by
  have hb0 := hid (below2 w (.cells #[.slice ga gl gc, .slice va vl vc] 30) (.cells #[.slice ua ul uc, .slice da dl dc, .slice pa pl pc] 36))
  have HV := hid hvl
  have HU := hid hul
  clear hvl hul
  go_enter Try.func5, Try.ntmps5
  go_wp2_with fail
  have hcall := Shapes_any w.heap.size va ua ga da pa V U vl vc ul uc gl gc dl dc pl pc _ (hV.below hb0.out) (hU.below hb0.out) (by simp; omega) HV.out HU.out hsum hfs
  go_fit hcall
  clear hcall
  rintro e w1 ⟨a1, c1, l1, rfl, hp1, hs1, hb⟩
  have hb1 : Below (w.heap.size + 1 + 1) ((w.alloc (.cells #[.slice ga gl gc, .slice va vl vc] 30)).alloc (.cells #[.slice ua ul uc, .slice da dl dc, .slice pa pl pc] 36)) w1 := hb.mono (by simp)
  have hz : w.heap.size + 1 + 1 ≤ w1.heap.size := by have h := hb1.size; simpa using h
  obtain ⟨g0, g1, g2, g3, g4⟩ := cells23 hb1
  have hB1 := hid (hb0.out.trans (hb1.mono (by omega)))
  have HP1 := hid hp1
  have HS1 := hid hs1
  clear hb hp1 hs1
  go_wp2_with fail
  have hcall := ShapesBehind_any w.heap.size va ua ga da pa V U vl vc ul uc gl gc dl dc pl pc w1 (hV.below hB1.out) (hU.below hB1.out) (by omega) HV.out HU.out hsum hfs
  go_fit hcall
  clear hcall
  rintro e w2 ⟨a2, c2, l2, rfl, hp2, hs2, hb2⟩
  have hz2 := hb2.size
  have hpp := HP1.out.trans hp2.symm
  have hS1' := HS1.out.below hb2
  have hlen1 : l1.length ≤ 2097152 := by
    have h1 := behindP_len ((V ++ U).map pairOf)
    rw [← HP1.out] at h1
    have h3 := HV.out
    have h4 := HU.out
    simp at h1
    omega
  have hll := pairs_len hpp
  have hcall := sameShapes_any w2 w1.heap.size w2.heap.size a1 a2 l1 l2 l1.length c1 c2 rfl hll (by omega) hpp hS1' hs2
  rw [← hll]
  have HC := hid hcall
  clear hcall hll hpp hS1' hs2 hp2 hlen1
  generalize l1.length = n1 at HC
  go_wp2_with fail
  have hcall := HC.out
  go_fit hcall
  clear hcall
  rintro e w3 ⟨rfl, m, rfl⟩
  go_wp2_with fail
  go_ret
  exact ⟨rfl, bdrew (hB1.out.trans (hb2.mono (by omega))) _⟩
set_option maxRecDepth 100000 in
theorem behind_lifted (os : Os) (started : os.Started) (H : Type) (enc : TypeId × Value → H) (F : Stop.Interp) :
    ReturnsInHanded {} Try.checked os 5 .any ((Rows.OpenSpec.upto Rows.unitBehindSpec).pre6 enc Try.prog Try.f5 Rows.unitBehindUptoRow.domain false) (((Rows.OpenSpec.upto Rows.unitBehindSpec).at F).post enc Try.prog Try.f5 false true false false) := by
  refine returnsInHanded_of_cond (C := Try.checked) (s := Rows.OpenSpec.upto Rows.unitBehindSpec) (k := Rows.uptoSmall) rfl own started (by kernel_rfl) Try.func5
    (OpenSpec.witness (enc := enc) (C := Try.checked) (s := Rows.OpenSpec.upto Rows.unitBehindSpec) (k := Rows.uptoSmall) rfl false ⟨#[], #[.agg #[.slice none 0 0, .slice none 0 0], .agg #[.slice none 0 0, .slice none 0 0, .slice none 0 0]], []⟩ 8 (by kernel_rfl) (by kernel_rfl) (by kernel_rfl)
      (x := ([.agg [.nil, .nil], .agg [.nil, .nil, .nil]], [], [])) (by kernel_rfl) rfl (by kernel_rfl)) ?_
  intro W base args ds gs before hval0 hW _ hk _
  have hval : ∀ (j : Nat) t v, Try.f5.params[j]? = some t → args[j]? = some v → Value.okWide Try.prog W .any base t v := hval0
  have hW' := hW
  obtain ⟨p, q, hA0, hV, rfl, hfz, hnd⟩ := hW
  have hA : DataW.TrodAll enc Try.prog W 0 (fun _ => true) true Try.f5.params.toList args.toList ds p := hA0
  rw [Try.params5] at hA hval
  obtain ⟨v0, vs0, d0, ds0, p0, q0, hargs, rfl, rfl, h0, r0⟩ := trodAll_cons hA
  obtain ⟨v1, vs1, d1, ds1, p1, q1, hargs1, rfl, rfl, h1, r1⟩ := trodAll_cons r0
  obtain ⟨rfl, rfl, rfl⟩ := trodAll_nil r1
  obtain rfl : args = #[v0, v1] := by cases args; simp_all
  obtain ⟨rfl, rfl⟩ := trodVars_none hV
  have k0 := h0
  have k1 := h1
  have lt0 : ∀ x ∈ p0, x.block < W.heap.size := by obtain ⟨m, hm⟩ := k0; exact DataW.trod_lt m _ _ _ hm
  have lt1 : ∀ x ∈ p1, x.block < W.heap.size := by obtain ⟨m, hm⟩ := k1; exact DataW.trod_lt m _ _ _ hm
  obtain ⟨u0, u1, y0, y1, m, rfl, hd0, hp0, t0, t1⟩ := Joins.open_agg2 Try.underlying30 (by kernel_rfl) cellsEnv (hval 0 30 v0 rfl rfl) h0
  obtain ⟨x0, x1, x2, z0, z1, z2, m2, rfl, hd1, hp1, s0, s1, s2⟩ := Joins.open_agg3 Try.underlying36 (by kernel_rfl) cellsUnit (hval 1 36 v1 rfl rfl) h1
  obtain ⟨ga, gl, gc, hg⟩ := Joins.slice_form Try.underlying22 t0
  obtain ⟨da, dl, dc, hd⟩ := Joins.slice_form Try.underlying33 s1
  obtain ⟨pa, pl, pc, hp⟩ := Joins.slice_form Try.underlying34 s2
  simp at hg hd hp
  subst hg hd hp
  obtain ⟨va, vc, V, rfl, i1, i2, hVs, i3, i4⟩ := shs_ofB t1
  obtain ⟨ua, uc, U, rfl, j1, j2, hUs, j3, j4⟩ := shs_ofB s0
  have hbound : Rows.uptoBulkAll [d0, d1] ≤ 1048576 := by
    have h := of_decide_eq_true hk
    simpa using h
  subst hd0 hd1
  simp only [Rows.uptoBulkAll, Rows.uptoBulk] at hbound
  clear hA0 hval0
  refine (behind_walk va ua ga da pa V U V.length vc U.length uc gl gc dl dc pl pc W hVs hUs rfl rfl (by omega) (fun s hs => ?_)).mono fun e W' ⟨he, bel⟩ => ?_
  · rcases List.mem_append.1 hs with h | h
    · have := i4 s h; omega
    · have := j4 s h; omega
  subst he
  exact ⟨_, rfl, _, _, _, [], _, [], hW', trodAll_mk1 (shut_bool Try.underlying4 _), (trodAll_cons_mk (Below.trod laidOut (by kernel_rfl) (of_decide_eq_true (by kernel_rfl)) k0 bel lt0) (trodAll_cons_mk (Below.trod laidOut (by kernel_rfl) (of_decide_eq_true (by kernel_rfl)) k1 bel lt1) trodAll_mk0)), rfl, bel.frame _, fun h => by cases h⟩
theorem unitBehind_over : Rows.unitBehindUptoRow.holds Try.pinned (Rows.OpenSpec.upto Rows.unitBehindSpec) :=
  OpenClaim.holds_of_cond 5 Try.f5 rfl rfl rfl rfl rfl rfl rfl ⟨rfl, rfl, rfl, rfl, rfl⟩ rfl rfl rfl rfl rfl (by kernel_rfl) Try.func5 (by kernel_rfl)
    (of_decide_eq_true (by kernel_rfl)) (by unfold Func.isWrapper; first | (rw [if_pos (by decide +kernel)]; kernel_rfl) | (rw [if_neg (by decide +kernel)]; exact ⟨rfl, rfl⟩))
    (fun os started H enc _ F => behind_lifted os started H enc F)
theorem unitBehind_upto : Rows.UnitBehindUptoSaid := unitBehind_over
#print axioms unitBehind_upto
end Go.Proofs.Ytgdeomdnpgedbab

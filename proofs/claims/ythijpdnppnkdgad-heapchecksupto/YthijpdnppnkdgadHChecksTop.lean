/- heap.Check answers at every heap what P3.3 says: HeapChecks returns true for every heap that can be read, and leaves it as it was; its condition: the heap's bulk is at most 1048576 (the second form). -/
import Derived.Test.YthijpdnppnkdgadRows
import Derived.Test.YthijpdnppnkdgadHChecks
import Derived.Test.YthijpdnppnkdgadHBulk
namespace Go.Proofs.Ythijpdnppnkdgad
open Go.ChangeShapes Go.WideShapes Go.ChangeAt Go.RowKit
set_option maxHeartbeats 1000000 in
theorem checks_walk (a : Option Addr) (l : List Wd) (len cap : Nat) (lim : Int) (w : World) (hlen : len = l.length) (hl : len ≤ 1048576) (hW : Wds w w.heap.size a l) (hwf : wfL l) :
    Calls Try.prog 3 #[.agg #[.slice a len cap, .int .i64 lim]] w fun e w' => e = .returned (.bool true) ∧ Below w.heap.size w w' := by
  have HL := hid hlen
  clear hlen
  obtain ⟨w2, hw2⟩ : ∃ w2, w2 = w.alloc (.cells #[.slice a len cap, .int .i64 lim] 24) := ⟨_, rfl⟩
  have hb2 : Below w.heap.size w w2 := by rw [hw2]; exact (Below.refl _ _).alloc (Nat.le_refl _) _
  have hz2 : w2.heap.size = w.heap.size + 1 := by rw [hw2]; simp
  have tt : w2.cell? ⟨w.heap.size, 0, none⟩ = some (.slice a len cap) ∧ w2.cell? ⟨w.heap.size, 1, none⟩ = some (.int .i64 lim) := by
    rw [hw2]; refine ⟨?_, ?_⟩ <;> go_simp
  have HC := hid (heaps_any w2 w.heap.size a len cap l lim (hW.below hb2) (by omega) HL.out hl)
  have H2 := hid hw2
  have HB2 := hid hb2
  clear hw2 hb2
  go_enter Try.func3, Try.ntmps3
  go_wp2_with fail
  rw [← H2.out]
  have hcall := HC.out
  go_fit hcall
  clear hcall
  rintro e w3 ⟨a', cap', rfl, hc', hb3, hW', hN'⟩
  have hB3 := hid (HB2.out.trans (hb3.mono (by omega)))
  obtain ⟨y0, y1⟩ := tt
  have x0 := (hb3.cell (p := ⟨w.heap.size, 0, none⟩) (by dsimp only; omega)).trans y0
  have x1 := (hb3.cell (p := ⟨w.heap.size, 1, none⟩) (by dsimp only; omega)).trans y1
  have hz3 := hb3.size
  clear hb3 y0 y1
  go_wp2_with fail
  have hcall := Check_any w3 w3.heap.size a' len cap' l lim hW' (Nat.le_refl _) HL.out hc' (by omega) hwf
  go_fit hcall
  clear hcall
  rintro e w4 ⟨r, rfl, hr, hb4⟩
  have hB4 := hid (hB3.out.trans (hb4.mono (by omega)))
  have z0 := (hb4.cell (p := ⟨w.heap.size, 0, none⟩) (by dsimp only; omega)).trans x0
  have z1 := (hb4.cell (p := ⟨w.heap.size, 1, none⟩) (by dsimp only; omega)).trans x1
  have hz4 := hb4.size
  clear hb4 x0 x1
  go_wp2_with fail
  have hcall := HeapMay_any w4 w.heap.size a len cap l lim (hW.below hB4.out) (by omega) HL.out (by omega)
  go_fit hcall
  clear hcall
  rintro e w5 ⟨hb5, ⟨rfl, hok⟩ | ⟨rfl, hbad⟩⟩
  · rcases hr with ⟨rfl, _⟩ | ⟨rfl, hb⟩
    · have hB5 := hid (hB4.out.trans (hb5.mono (by omega)))
      go_wp2_with fail
      go_ret
      exact ⟨by simp, hB5.out⟩
    · exact (bad_not_ok hb hok).elim
  · rcases hr with ⟨rfl, acc, ms, hok⟩ | ⟨rfl, _⟩
    · exact (ok_not_bad hok hbad).elim
    · have hB5 := hid (hB4.out.trans (hb5.mono (by omega)))
      go_wp2_with fail
      go_ret
      exact ⟨by simp, hB5.out⟩
set_option maxRecDepth 100000 in
theorem checks_lifted (os : Os) (started : os.Started) (H : Type) (enc : TypeId × Value → H) (F : Stop.Interp) :
    ReturnsInHanded {} Try.checked os 3 .any ((Rows.OpenSpec.upto Rows.heapChecksSpec).pre6 enc Try.prog Try.f3 Rows.heapChecksUptoRow.domain false) (((Rows.OpenSpec.upto Rows.heapChecksSpec).at F).post enc Try.prog Try.f3 false true false false) := by
  refine returnsInHanded_of_cond (C := Try.checked) (s := Rows.OpenSpec.upto Rows.heapChecksSpec) (k := Rows.uptoSmall) rfl own started (by kernel_rfl) Try.func3
    (OpenSpec.witness (enc := enc) (C := Try.checked) (s := Rows.OpenSpec.upto Rows.heapChecksSpec) (k := Rows.uptoSmall) rfl false ⟨#[], #[.agg #[.slice none 0 0, .int .i64 0]], []⟩ 8 (by kernel_rfl) (by kernel_rfl) (by kernel_rfl)
      (x := ([.agg [.nil, .lit (.int .i64 0)]], [], [])) (by kernel_rfl) rfl (by kernel_rfl)) ?_
  intro W base args ds gs before hval0 hW _ hk _
  have hval : ∀ (j : Nat) t v, Try.f3.params[j]? = some t → args[j]? = some v → Value.okWide Try.prog W .any base t v := hval0
  have hW' := hW
  obtain ⟨p, q, hA0, hV, rfl, hfz, hnd⟩ := hW
  have hA : DataW.TrodAll enc Try.prog W 0 (fun _ => true) true Try.f3.params.toList args.toList ds p := hA0
  rw [Try.params3] at hA hval
  obtain ⟨v0, vs0, d0, ds0, p0, q0, hargs, rfl, rfl, h0, r0⟩ := trodAll_cons hA
  obtain ⟨rfl, rfl, rfl⟩ := trodAll_nil r0
  obtain rfl : args = #[v0] := by cases args; simp_all
  obtain ⟨rfl, rfl⟩ := trodVars_none hV
  have k0 := h0
  have lt0 : ∀ x ∈ p0, x.block < W.heap.size := by obtain ⟨m, hm⟩ := k0; exact DataW.trod_lt m _ _ _ hm
  obtain ⟨u0, u1, y0, y1, m, rfl, hd0, hp0, t0, t1⟩ := Joins.open_agg2 Try.underlying24 (by kernel_rfl) cellsHp (hval 0 24 v0 rfl rfl) h0
  obtain ⟨a, cap, l, rfl, g1, g2, hWd, hwf, g3⟩ := wds_ofB t0
  obtain ⟨lim, e1, _, _⟩ := DataW.trod_int Try.underlying3 t1
  simp at e1
  subst e1
  have hbound : Rows.uptoBulkAll [d0] ≤ 1048576 := by
    have h := of_decide_eq_true hk
    simpa using h
  subst hd0
  simp only [Rows.uptoBulkAll, Rows.uptoBulk] at hbound
  clear hA0 hval0
  refine (checks_walk a l l.length cap lim W rfl (by omega) hWd hwf).mono fun e W' ⟨he, bel⟩ => ?_
  subst he
  exact ⟨_, rfl, _, _, _, [], _, [], hW', trodAll_mk1 (shut_bool Try.underlying4 _), (trodAll_cons_mk (Below.trod laidOut (by kernel_rfl) (of_decide_eq_true (by kernel_rfl)) k0 bel lt0) trodAll_mk0), rfl, bel.frame _, fun h => by cases h⟩
theorem heapChecks_over : Rows.heapChecksUptoRow.holds Try.pinned (Rows.OpenSpec.upto Rows.heapChecksSpec) :=
  OpenClaim.holds_of_cond 3 Try.f3 rfl rfl rfl rfl rfl rfl rfl ⟨rfl, rfl, rfl, rfl, rfl⟩ rfl rfl rfl rfl rfl (by kernel_rfl) Try.func3 (by kernel_rfl)
    (of_decide_eq_true (by kernel_rfl)) (by unfold Func.isWrapper; first | (rw [if_pos (by decide +kernel)]; kernel_rfl) | (rw [if_neg (by decide +kernel)]; exact ⟨rfl, rfl⟩))
    (fun os started H enc _ F => checks_lifted os started H enc F)
theorem heapChecks_upto : Rows.HeapChecksUptoSaid := heapChecks_over
#print axioms heapChecks_upto
end Go.Proofs.Ythijpdnppnkdgad

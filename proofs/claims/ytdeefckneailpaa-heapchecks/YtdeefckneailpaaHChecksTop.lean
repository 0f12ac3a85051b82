/- heap.Check answers at every heap what P3.3 says: HeapChecks returns true for every heap that can be read, and leaves it as it was. No condition. -/
import Derived.Test.YtdeefckneailpaaRows
import Derived.Test.YtdeefckneailpaaHChecks
import Derived.Test.YtdeefckneailpaaHFull
namespace Go.Proofs.Ytdeefckneailpaa
set_option maxRecDepth 100000
open Go.ChangeShapes Go.WideShapes Go.ChangeAt Go.RowKit
set_option maxHeartbeats 1000000 in
theorem checks_walk (a : Option Addr) (l : List Wd) (len cap : Nat) (lim : Int) (w : World) (hlen : len = l.length) (hl : len ≤ 4398046511104) (hW : Wds w w.heap.size a l) (hwf : wfL l) :
    Calls Try.prog 3 #[.agg #[.slice a len cap, .int .i64 lim]] w fun e w' => e = .returned (.bool true) ∧ Below w.heap.size w w' := by
  have HL := hid hlen
  clear hlen
  obtain ⟨w2, hw2⟩ : ∃ w2, w2 = w.alloc (.cells #[.slice a len cap, .int .i64 lim] 24) := ⟨_, rfl⟩
  have hb2 : Below w.heap.size w w2 := by rw [hw2]; exact (Below.refl _ _).alloc (Nat.le_refl _) _
  have hz2 : w2.heap.size = w.heap.size + 1 := by rw [hw2]; simp
  have tt : w2.cell? ⟨w.heap.size, 0, none⟩ = some (.slice a len cap) ∧ w2.cell? ⟨w.heap.size, 1, none⟩ = some (.int .i64 lim) := by
    rw [hw2]; refine ⟨?_, ?_⟩ <;> go_simp
  have HC := hid (heaps_any w2 w.heap.size a len cap l lim (hW.below hb2) (by omega) HL.out hl)
  have H2 := hid hw2
  have HB2 := hid hb2
  clear hw2 hb2
  go_enter Try.func3, Try.ntmps3
  go_wp2_with fail
  rw [← H2.out]
  have hcall := HC.out
  go_fit hcall
  clear hcall
  rintro e w3 ⟨a', cap', rfl, hc', hb3, hW', hN'⟩
  have hB3 := hid (HB2.out.trans (hb3.mono (by omega)))
  obtain ⟨y0, y1⟩ := tt
  have x0 := (hb3.cell (p := ⟨w.heap.size, 0, none⟩) (by dsimp only; omega)).trans y0
  have x1 := (hb3.cell (p := ⟨w.heap.size, 1, none⟩) (by dsimp only; omega)).trans y1
  have hz3 := hb3.size
  clear hb3 y0 y1
  go_wp2_with fail
  have hcall := Check_any w3 w3.heap.size a' len cap' l lim hW' (Nat.le_refl _) HL.out hc' (by omega) hwf
  go_fit hcall
  clear hcall
  rintro e w4 ⟨r, rfl, hr, hb4⟩
  have hB4 := hid (hB3.out.trans (hb4.mono (by omega)))
  have z0 := (hb4.cell (p := ⟨w.heap.size, 0, none⟩) (by dsimp only; omega)).trans x0
  have z1 := (hb4.cell (p := ⟨w.heap.size, 1, none⟩) (by dsimp only; omega)).trans x1
  have hz4 := hb4.size
  clear hb4 x0 x1
  go_wp2_with fail
  have hcall := HeapMay_any w4 w.heap.size a len cap l lim (hW.below hB4.out) (by omega) HL.out (by omega)
  go_fit hcall
  clear hcall
  rintro e w5 ⟨hb5, ⟨rfl, hok⟩ | ⟨rfl, hbad⟩⟩
  · rcases hr with ⟨rfl, _⟩ | ⟨rfl, hb⟩
    · have hB5 := hid (hB4.out.trans (hb5.mono (by omega)))
      go_wp2_with fail
      go_ret
      exact ⟨by simp, hB5.out⟩
    · exact (bad_not_ok hb hok).elim
  · rcases hr with ⟨rfl, acc, ms, hok⟩ | ⟨rfl, _⟩
    · exact (ok_not_bad hok hbad).elim
    · have hB5 := hid (hB4.out.trans (hb5.mono (by omega)))
      go_wp2_with fail
      go_ret
      exact ⟨by simp, hB5.out⟩
set_option maxRecDepth 100000 in
theorem heapChecks_lifted (os : Os) (started : os.Started) (H : Type) (enc : TypeId × Value → H) :
    ReturnsInHanded {} Try.checked os 3 .any (Rows.heapChecksSpec.pre6 enc Try.prog Try.f3 Rows.heapChecksRow.domain false) (Rows.heapChecksSpec.post enc Try.prog Try.f3 false true false false) := by
  refine returnsInHanded_of_change_sized (C := Try.checked) own started (by kernel_rfl) Try.func3
    (ChangeSpec.witness6 (enc := enc) (C := Try.checked) false ⟨#[], #[.agg #[.slice none 0 0, .int .i64 0]], []⟩ 8 (by kernel_rfl) (by kernel_rfl) (by kernel_rfl) (by kernel_rfl)) ?_
  intro W base args ds gs before hval0 hW hcnd hsz0 _
  have hval : ∀ (j : Nat) t v, Try.f3.params[j]? = some t → args[j]? = some v → Value.okWide Try.prog W .any base t v := hval0
  have hsz : (DataW.weightsEach Try.prog (Try.f3.params.toList ++ Rows.heapChecksSpec.plain.varTypes Try.prog) (ds ++ gs)).all (· ≤ reachBytes) = true := hsz0
  have hW' := hW
  obtain ⟨p, q, hA0, hV, rfl, hfz, hnd⟩ := hW
  have hA : DataW.TrodAll enc Try.prog W 0 (fun _ => true) true Try.f3.params.toList args.toList ds p := hA0
  rw [Try.params3] at hA hval hsz
  obtain ⟨v0, vs0, d0, ds0, p0, q0, hargs0, rfl, rfl, h0, r0⟩ := trodAll_cons hA
  obtain ⟨rfl, rfl, rfl⟩ := trodAll_nil r0
  obtain rfl : args = #[v0] := by cases args; simp_all
  obtain ⟨rfl, rfl⟩ := trodVars_none hV
  have hw0 : InR Try.prog 24 d0 := fun n hn => of_decide_eq_true (List.all_eq_true.1 hsz n (DataW.weights_mem_each (j := 0) rfl rfl n hn))
  have k0 := h0
  have lt0 : ∀ x ∈ p0, x.block < W.heap.size := by obtain ⟨m, hm⟩ := k0; exact DataW.trod_lt m _ _ _ hm
  obtain ⟨u00, u01, y00, y01, m0, rfl, hd0, hp0, t00, t01⟩ := Joins.open_agg2 Try.underlying24 (by kernel_rfl) cellsHp (hval 0 24 v0 rfl rfl) h0
  subst hd0
  obtain ⟨a0, cap0, l0, rfl, gc0, gm0, hWd0, hwf0, gb0⟩ := wds_ofR t00 (hw0.field Try.underlying24 (j := 0) rfl rfl)
  obtain ⟨lim0, e0, _, _⟩ := DataW.trod_int Try.underlying3 t01
  simp at e0
  subst e0
  have gz0 : l0.length ≤ 4398046511104 := by omega
  clear hA0 hval0 hsz0 hsz
  refine (checks_walk a0 l0 l0.length cap0 lim0 W rfl gz0 hWd0 hwf0).mono fun e W' ⟨he, bel⟩ => ?_
  subst he
  exact ⟨_, rfl, _, _, _, [], _, [], hW', trodAll_mk1 (shut_bool Try.underlying4 _), (trodAll_cons_mk (Below.trod laidOut (by kernel_rfl) (of_decide_eq_true (by kernel_rfl)) k0 bel lt0) trodAll_mk0), rfl, bel.frame _, fun h => by cases h⟩
theorem heapChecks_holds : Rows.HeapChecksSaid :=
  OpenClaim.holds_of_wide 3 Try.f3 rfl rfl rfl rfl rfl rfl rfl ⟨rfl, rfl, rfl, rfl, rfl⟩ rfl rfl rfl rfl rfl (by kernel_rfl) Try.func3 (by kernel_rfl)
    (of_decide_eq_true (by kernel_rfl)) (by unfold Func.isWrapper; first | (rw [if_pos (by decide +kernel)]; kernel_rfl) | (rw [if_neg (by decide +kernel)]; exact ⟨rfl, rfl⟩))
    (fun os started H enc _ => heapChecks_lifted os started H enc)
#print axioms heapChecks_holds
end Go.Proofs.Ytdeefckneailpaa

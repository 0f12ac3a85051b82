/- code.Check answers at every expression what P5.1 says: CodeChecks returns true for every expression that can be read, and leaves it as it was. No condition. -/
import Derived.Test.YteblglkmkakcjaaRows
import Derived.Test.YteblglkmkakcjaaCFace
import Derived.Test.YteblglkmkakcjaaCAll
import Derived.SizedLaws
namespace Go.Proofs.Yteblglkmkakcjaa
set_option maxRecDepth 100000
open Go.ChangeShapes Go.WideShapes Go.ChangeAt Go.RowKit Go.Maps
set_option maxHeartbeats 400000 in
theorem CodeFault_any (W : World) (B : Nat) (x : Xn) (ks : List Ex) (d : Nat) (w : World) (hW : Below B W w) (hB : B ≤ w.heap.size) (hF : FineX W B d (.mk x ks)) :
    Calls Try.prog 6 #[xv x ks.length] w fun e w' => e = .returned (.int .i64 (exI W false 0 d [] (.mk x ks))) ∧ Below w.heap.size w w' := by
  have hb0 := hid ((Below.refl w.heap.size w).alloc (Nat.le_refl _) (.cells (xcs x ks.length) 28))
  have HC := hid (rf_all W B false 0 (-1) (Or.inl ⟨rfl, rfl, rfl⟩) d x ks none [] 0 0 (w.alloc (.cells (xcs x ks.length) 28)) (hW.trans (hb0.out.mono hB)) (by simp; omega) hF (no_strs _ _ _) rfl (by omega) (by omega))
  generalize exI W false 0 d [] (.mk x ks) = R at HC ⊢
  generalize ks.length = m at *
  clear hF
  obtain ⟨k, dk, dn, ds, da, dl, dc, s, n, na, ns, nc, aa, ac⟩ := x
  dsimp only [xv, xcs] at *
  generalize ns.length = nl at *
  go_enter Try.func6, Try.ntmps6
  go_wp2_with fail
  have hcall := HC.out
  go_fit hcall
  clear hcall
  rintro e w1 ⟨rfl, hb1⟩
  go_wp2_with fail
  go_ret
  exact ⟨rfl, hb0.out.trans (hb1.mono (by simp))⟩
set_option maxHeartbeats 400000 in
theorem codeChecks_walk (x : Xn) (ks : List Ex) (d : Nat) (w : World) (hF : FineX w w.heap.size d (.mk x ks)) :
    Calls Try.prog 3 #[xv x ks.length] w fun e w' => e = .returned (.bool true) ∧ Below w.heap.size w w' := by
  have hb0 := hid ((Below.refl w.heap.size w).alloc (Nat.le_refl _) (.cells (xcs x ks.length) 28))
  have HBx := hid (fun (w' : World) (h : Below (w.heap.size + 1) (w.alloc (.cells (xcs x ks.length) 28)) w') => lies_new h)
  have HC := hid (cCheck_any w w.heap.size x ks d (w.alloc (.cells (xcs x ks.length) 28)) hb0.out (by simp) hF)
  have HD := hid (fun (w' : World) (h : Below (w.heap.size + 1) (w.alloc (.cells (xcs x ks.length) 28)) w') => CodeFault_any w w.heap.size x ks d w' (hb0.out.trans (h.mono (by omega))) (by have := h.size; simp at this; omega) hF)
  generalize exI w false 0 d [] (.mk x ks) = R at HC HD
  generalize ks.length = m at *
  clear hF
  obtain ⟨k, dk, dn, ds, da, dl, dc, s, n, na, ns, nc, aa, ac⟩ := x
  dsimp only [xv, xcs] at *
  generalize hnn : ns.length = nl at *
  have HNl := hid hnn
  clear hnn
  go_enter Try.func3, Try.ntmps3
  go_wp2_with fail
  have hcall := HC.out
  go_fit hcall
  clear hcall
  rintro e w1 ⟨rfl, hb1⟩
  have hb2 : Below (w.heap.size + 1) (w.alloc (.cells #[.int .i64 k, .int .i64 dk, .int .i64 dn, .string ds, .slice da dl dc, .string s, .int .i64 n, .slice na nl nc, .slice aa m ac] 28)) w1 := hb1.mono (by simp)
  obtain ⟨c0, c1, c2, c3, c4, c5, c6, c7, c8⟩ := HBx.out _ hb2
  dsimp only at c0 c1 c2 c3 c4 c5 c6 c7 c8; rw [HNl.out] at c7
  have hz := hb2.size
  simp at hz
  go_wp2_with fail
  have hcall := HD.out _ hb2
  go_fit hcall
  clear hcall
  rintro e w2 ⟨rfl, hb3⟩
  go_wp2_with fail
  go_ret
  exact ⟨by simp, (hb0.out.trans (hb2.mono (by omega))).trans (hb3.mono (by omega))⟩
set_option maxRecDepth 100000 in
theorem codeChecks_lifted (os : Os) (started : os.Started) (H : Type) (enc : TypeId × Value → H) :
    ReturnsInHanded {} Try.checked os 3 .any (Rows.codeChecksSpec.pre6 enc Try.prog Try.f3 Rows.codeChecksRow.domain false) (Rows.codeChecksSpec.post enc Try.prog Try.f3 false true false false) := by
  refine returnsInHanded_of_change_sized (C := Try.checked) own started (by kernel_rfl) Try.func3
    (ChangeSpec.witness6 (enc := enc) (C := Try.checked) false ⟨#[], #[.agg #[.int .i64 0, .int .i64 0, .int .i64 0, .string ⟨#[]⟩, .slice none 0 0, .string ⟨#[]⟩, .int .i64 0, .slice none 0 0, .slice none 0 0]], []⟩ 8 (by kernel_rfl) (by kernel_rfl) (by kernel_rfl) (by kernel_rfl)) ?_
  intro W base args ds gs before hval0 hW hcnd hsz0 _
  have hval : ∀ (j : Nat) t v, Try.f3.params[j]? = some t → args[j]? = some v → Value.okWide Try.prog W .any base t v := hval0
  have hsz : (DataW.weightsEach Try.prog (Try.f3.params.toList ++ Rows.codeChecksSpec.plain.varTypes Try.prog) (ds ++ gs)).all (· ≤ reachBytes) = true := hsz0
  have hW' := hW
  obtain ⟨p, q, hA0, hV, rfl, hfz, hnd⟩ := hW
  have hA : DataW.TrodAll enc Try.prog W 0 (fun _ => true) true Try.f3.params.toList args.toList ds p := hA0
  rw [Try.params3] at hA hval hsz
  obtain ⟨v0, vs0, d0, ds0, p0, q0, hargs0, rfl, rfl, h0, r0⟩ := trodAll_cons hA
  obtain ⟨rfl, rfl, rfl⟩ := trodAll_nil r0
  obtain rfl : args = #[v0] := by cases args; simp_all
  obtain ⟨rfl, rfl⟩ := trodVars_none hV
  have hw0 : InR Try.prog 28 d0 := fun n hn => of_decide_eq_true (List.all_eq_true.1 hsz n (DataW.weights_mem_each (j := 0) rfl rfl n hn))
  have k0 := h0
  have lt0 : ∀ x ∈ p0, x.block < W.heap.size := by obtain ⟨m, hm⟩ := k0; exact DataW.trod_lt m _ _ _ hm
  obtain ⟨x0, ks0, e0, rfl, hF0⟩ := expr_in (hval 0 28 v0 rfl rfl) h0 hw0
  clear hA0 hval0 hsz0 hsz
  refine (codeChecks_walk x0 ks0 e0 W hF0).mono fun e W' ⟨he, bel⟩ => ?_
  subst he
  exact ⟨_, rfl, _, _, _, [], _, [], hW', trodAll_mk1 (shut_bool Try.underlying4 _), (trodAll_cons_mk (Below.trod laidOut (by kernel_rfl) (of_decide_eq_true (by kernel_rfl)) k0 bel lt0) trodAll_mk0), rfl, bel.frame _, fun h => by cases h⟩
theorem codeChecks_holds : Rows.CodeChecksSaid :=
  OpenClaim.holds_of_wide 3 Try.f3 rfl rfl rfl rfl rfl rfl rfl ⟨rfl, rfl, rfl, rfl, rfl⟩ rfl rfl rfl rfl rfl (by kernel_rfl) Try.func3 (by kernel_rfl)
    (of_decide_eq_true (by kernel_rfl)) (by unfold Func.isWrapper; first | (rw [if_pos (by decide +kernel)]; kernel_rfl) | (rw [if_neg (by decide +kernel)]; exact ⟨rfl, rfl⟩))
    (fun os started H enc _ => codeChecks_lifted os started H enc)
#print axioms codeChecks_holds
end Go.Proofs.Yteblglkmkakcjaa

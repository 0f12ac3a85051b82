/- code.CheckMove answers at every expression and number of old fields what P5.1 says: CodeMoveChecks returns true for every expression and number that can be read, and leaves them as they were. No condition. -/
import Derived.Test.YteblglkmkakcjaaRows
import Derived.Test.YteblglkmkakcjaaCFace
import Derived.Test.YteblglkmkakcjaaCAll
import Derived.SizedLaws
namespace Go.Proofs.Yteblglkmkakcjaa
set_option maxRecDepth 100000
open Go.ChangeShapes Go.WideShapes Go.ChangeAt Go.RowKit Go.Maps
set_option maxHeartbeats 1000000 in
theorem MoveFault_any (W : World) (B : Nat) (x : Xn) (ks : List Ex) (d : Nat) (olds : Int) (w : World) (hW : Below B W w) (hB : B ≤ w.heap.size) (hF : FineX W B d (.mk x ks)) :
    Calls Try.prog 8 #[xv x ks.length, .int .i64 olds] w fun e w' => e = .returned (.int .i64 (if olds < 0 ∨ 6 < olds then 2 else exI W true olds d [] (.mk x ks))) ∧ Below w.heap.size w w' := by
  have hb0 := hid ((Below.refl w.heap.size w).alloc (Nat.le_refl _) (.cells (xcs x ks.length) 28))
  have HC := hid (fun (h0 : 0 ≤ olds) (h6 : olds ≤ 6) => rf_all W B true olds olds (Or.inr ⟨rfl, rfl, h0, h6⟩) d x ks none [] 0 0 (w.alloc (.cells (xcs x ks.length) 28)) (hW.trans (hb0.out.mono hB)) (by simp; omega) hF (no_strs _ _ _) rfl (by omega) (by omega))
  generalize exI W true olds d [] (.mk x ks) = R at HC ⊢
  generalize ks.length = m at *
  clear hF
  obtain ⟨k, dk, dn, ds, da, dl, dc, s, n, na, ns, nc, aa, ac⟩ := x
  dsimp only [xv, xcs] at *
  generalize ns.length = nl at *
  have HI := hid (In_any olds 0 6 (w.alloc (.cells #[.int .i64 k, .int .i64 dk, .int .i64 dn, .string ds, .slice da dl dc, .string s, .int .i64 n, .slice na nl nc, .slice aa m ac] 28)))
  cases hi : inI 0 olds 6
  · rw [hi] at HI
    have HR := hid (show (if olds < 0 ∨ 6 < olds then 2 else R) = 2 from if_pos (by simp [inI] at hi; omega))
    rw [HR.out]
    go_enter Try.func8, Try.ntmps8
    go_wp2_with fail
    have hcall := HI.out
    go_fit hcall
    clear hcall
    rintro e w1 ⟨rfl, hw1⟩
    obtain rfl := hw1.symm
    go_wp2_with fail
    go_ret
    exact ⟨rfl, hb0.out⟩
  · rw [hi] at HI
    have h06 : 0 ≤ olds ∧ olds ≤ 6 := by simpa [inI] using hi
    have HR := hid (show (if olds < 0 ∨ 6 < olds then 2 else R) = R from if_neg (by omega))
    rw [HR.out]
    have HC2 := hid (HC.out h06.1 h06.2)
    go_enter Try.func8, Try.ntmps8
    go_wp2_with fail
    have hcall := HI.out
    go_fit hcall
    clear hcall
    rintro e w1 ⟨rfl, hw1⟩
    obtain rfl := hw1.symm
    go_wp2_with fail
    have hcall := HC2.out
    go_fit hcall
    clear hcall
    rintro e w1 ⟨rfl, hb1⟩
    go_wp2_with fail
    go_ret
    exact ⟨rfl, hb0.out.trans (hb1.mono (by simp))⟩
set_option maxHeartbeats 400000 in
theorem codeMoveChecks_walk (x : Xn) (ks : List Ex) (d : Nat) (olds : Int) (w : World) (hF : FineX w w.heap.size d (.mk x ks)) :
    Calls Try.prog 4 #[xv x ks.length, .int .i64 olds] w fun e w' => e = .returned (.bool true) ∧ Below w.heap.size w w' := by
  have hb0 := hid ((Below.refl w.heap.size w).alloc (Nat.le_refl _) (.cells (xcs x ks.length) 28))
  have HBx := hid (fun (w' : World) (h : Below (w.heap.size + 1) (w.alloc (.cells (xcs x ks.length) 28)) w') => lies_new h)
  have HC := hid (cMove_any w w.heap.size x ks d olds (w.alloc (.cells (xcs x ks.length) 28)) hb0.out (by simp) hF)
  have HD := hid (fun (w' : World) (h : Below (w.heap.size + 1) (w.alloc (.cells (xcs x ks.length) 28)) w') => MoveFault_any w w.heap.size x ks d olds w' (hb0.out.trans (h.mono (by omega))) (by have := h.size; simp at this; omega) hF)
  generalize (if olds < 0 ∨ 6 < olds then 2 else exI w true olds d [] (.mk x ks)) = R at HC HD
  generalize ks.length = m at *
  clear hF
  obtain ⟨k, dk, dn, ds, da, dl, dc, s, n, na, ns, nc, aa, ac⟩ := x
  dsimp only [xv, xcs] at *
  generalize hnn : ns.length = nl at *
  have HNl := hid hnn
  clear hnn
  go_enter Try.func4, Try.ntmps4
  go_wp2_with fail
  have hcall := HC.out
  go_fit hcall
  clear hcall
  rintro e w1 ⟨rfl, hb1⟩
  have hb2 : Below (w.heap.size + 1) (w.alloc (.cells #[.int .i64 k, .int .i64 dk, .int .i64 dn, .string ds, .slice da dl dc, .string s, .int .i64 n, .slice na nl nc, .slice aa m ac] 28)) w1 := hb1.mono (by simp)
  obtain ⟨c0, c1, c2, c3, c4, c5, c6, c7, c8⟩ := HBx.out _ hb2
  dsimp only at c0 c1 c2 c3 c4 c5 c6 c7 c8; rw [HNl.out] at c7
  have hz := hb2.size
  simp at hz
  go_wp2_with fail
  have hcall := HD.out _ hb2
  go_fit hcall
  clear hcall
  rintro e w2 ⟨rfl, hb3⟩
  go_wp2_with fail
  go_ret
  exact ⟨by simp, (hb0.out.trans (hb2.mono (by omega))).trans (hb3.mono (by omega))⟩
set_option maxRecDepth 100000 in
theorem codeMoveChecks_lifted (os : Os) (started : os.Started) (H : Type) (enc : TypeId × Value → H) :
    ReturnsInHanded {} Try.checked os 4 .any (Rows.codeMoveChecksSpec.pre6 enc Try.prog Try.f4 Rows.codeMoveChecksRow.domain false) (Rows.codeMoveChecksSpec.post enc Try.prog Try.f4 false true false false) := by
  refine returnsInHanded_of_change_sized (C := Try.checked) own started (by kernel_rfl) Try.func4
    (ChangeSpec.witness6 (enc := enc) (C := Try.checked) false ⟨#[], #[.agg #[.int .i64 0, .int .i64 0, .int .i64 0, .string ⟨#[]⟩, .slice none 0 0, .string ⟨#[]⟩, .int .i64 0, .slice none 0 0, .slice none 0 0], .int .i64 0], []⟩ 8 (by kernel_rfl) (by kernel_rfl) (by kernel_rfl) (by kernel_rfl)) ?_
  intro W base args ds gs before hval0 hW hcnd hsz0 _
  have hval : ∀ (j : Nat) t v, Try.f4.params[j]? = some t → args[j]? = some v → Value.okWide Try.prog W .any base t v := hval0
  have hsz : (DataW.weightsEach Try.prog (Try.f4.params.toList ++ Rows.codeMoveChecksSpec.plain.varTypes Try.prog) (ds ++ gs)).all (· ≤ reachBytes) = true := hsz0
  have hW' := hW
  obtain ⟨p, q, hA0, hV, rfl, hfz, hnd⟩ := hW
  have hA : DataW.TrodAll enc Try.prog W 0 (fun _ => true) true Try.f4.params.toList args.toList ds p := hA0
  rw [Try.params4] at hA hval hsz
  obtain ⟨v0, vs0, d0, ds0, p0, q0, hargs0, rfl, rfl, h0, r0⟩ := trodAll_cons hA
  obtain ⟨v1, vs1, d1, ds1, p1, q1, hargs1, rfl, rfl, h1, r1⟩ := trodAll_cons r0
  obtain ⟨rfl, rfl, rfl⟩ := trodAll_nil r1
  obtain rfl : args = #[v0, v1] := by cases args; simp_all
  obtain ⟨rfl, rfl⟩ := trodVars_none hV
  have hw0 : InR Try.prog 28 d0 := fun n hn => of_decide_eq_true (List.all_eq_true.1 hsz n (DataW.weights_mem_each (j := 0) rfl rfl n hn))
  have k0 := h0
  have lt0 : ∀ x ∈ p0, x.block < W.heap.size := by obtain ⟨m, hm⟩ := k0; exact DataW.trod_lt m _ _ _ hm
  obtain ⟨x0, ks0, e0, rfl, hF0⟩ := expr_in (hval 0 28 v0 rfl rfl) h0 hw0
  obtain ⟨i1, rfl, rfl, rfl, wn1⟩ := open_int Try.underlying3 (hval 1 3 v1 rfl rfl) h1
  clear hA0 hval0 hsz0 hsz
  refine (codeMoveChecks_walk x0 ks0 e0 i1 W hF0).mono fun e W' ⟨he, bel⟩ => ?_
  subst he
  exact ⟨_, rfl, _, _, _, [], _, [], hW', trodAll_mk1 (shut_bool Try.underlying4 _), (trodAll_cons_mk (Below.trod laidOut (by kernel_rfl) (of_decide_eq_true (by kernel_rfl)) k0 bel lt0) (trodAll_cons_mk (shut_int Try.underlying3 wn1) trodAll_mk0)), rfl, bel.frame _, fun h => by cases h⟩
theorem codeMoveChecks_holds : Rows.CodeMoveChecksSaid :=
  OpenClaim.holds_of_wide 4 Try.f4 rfl rfl rfl rfl rfl rfl rfl ⟨rfl, rfl, rfl, rfl, rfl⟩ rfl rfl rfl rfl rfl (by kernel_rfl) Try.func4 (by kernel_rfl)
    (of_decide_eq_true (by kernel_rfl)) (by unfold Func.isWrapper; first | (rw [if_pos (by decide +kernel)]; kernel_rfl) | (rw [if_neg (by decide +kernel)]; exact ⟨rfl, rfl⟩))
    (fun os started H enc _ => codeMoveChecks_lifted os started H enc)
#print axioms codeMoveChecks_holds
end Go.Proofs.Yteblglkmkakcjaa

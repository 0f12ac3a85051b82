/- unit.Check answers at every environment what P2.3 says: UnitChecks returns true for every environment that can be read, and leaves it as it was. No condition. -/
import Derived.Test.YtgdeomdnpgedbabRows
import Derived.Test.YtgdeomdnpgedbabUOpenEnv
import Derived.Test.YtgdeomdnpgedbabURefEnv
import Derived.RegionTactic
import Derived.Deep.RegionWith
namespace Go.Proofs.Ytgdeomdnpgedbab
open Go.ChangeShapes Go.WideShapes Go.ChangeAt Go.RowKit
theorem cellsEnv : Try.prog.cellsOf 30 = 2 := by kernel_rfl
theorem Fill2.words {w0 w : World} {k p : Nat} (h : Fill2 w0 w k keyws p prims) : Words w k p := ⟨h.one.own, h.own⟩
set_option maxHeartbeats 400000 in
theorem Check_any (W : World) (B : Nat) (ga sa : Option Addr) (gs : List ByteArray) (l : List Sh) (gl gc sl sc : Nat) (w : World) (hgl : gl = gs.length) (hsl : sl = l.length) (hg : gl ≤ 9223372036854775807) (hs : sl ≤ 9223372036854775807) (hgc : gl ≤ gc) (hsc : sl ≤ sc)
    (hB : Below B W w) (hBw : B ≤ w.heap.size) (hG : Strs W B ga gs) (hS : Shs W B sa l) :
    Calls Try.prog 8 #[.agg #[.slice ga gl gc, .slice sa sl sc]] w fun e w' => e = .returned (.int .i64 (envI gs l)) ∧ Below w.heap.size w w' := by
  have hb0 := hid ((Below.refl w.heap.size w).alloc (Nat.le_refl _) (.cells #[.slice ga gl gc, .slice sa sl sc] 30))
  have hL := hid hgl
  have hM := hid hsl
  clear hgl hsl
  go_enter Try.func8, Try.ntmps8
  go_wp2_with fail
  go_region_with (first
    | (go_at_call 13; refine (newWords_any _).mono ?_; rintro e w1 ⟨k, p, rfl, hF⟩
       have hb1 : Below (w.heap.size + 1) (w.alloc (.cells #[.slice ga gl gc, .slice sa sl sc] 30)) w1 := by
         have h := hF.one.bel
         exact ⟨h.os, h.tape, h.output, h.size, fun k hk => h.block k (by simpa using hk)⟩
       have hz : w.heap.size + 1 ≤ w1.heap.size := by have h := hb1.size; simpa using h
       obtain ⟨g2, g3⟩ := box22 hb1
       have hW := hid (hF.words)
       have hB1 := hid (hB.trans ((hb0.out.trans (hb1.mono (by omega))).mono hBw))
       clear hF)
    | (go_at_call 18; refine (checkEnv_any W B k p ga sa gs l gl gc sl sc w1 hL.out hM.out hg hs hgc hsc hW.out hB1.out (by omega) hG hS).mono ?_; rintro e w2 ⟨rfl, hb2⟩))
  all_goals (go_wp2; go_ret; exact ⟨rfl, (hb0.out.trans (hb1.mono (by omega))).trans (hb2.mono (by omega))⟩)
set_option maxHeartbeats 400000 in
theorem checks_walk (ga sa : Option Addr) (gs : List ByteArray) (l : List Sh) (gl gc sl sc : Nat) (w : World) (hgl : gl = gs.length) (hsl : sl = l.length) (hg : gl ≤ 9223372036854775807) (hs : sl ≤ 9223372036854775807) (hgc : gl ≤ gc) (hsc : sl ≤ sc) (hG : Strs w w.heap.size ga gs) (hS : Shs w w.heap.size sa l) :
    Calls Try.prog 4 #[.agg #[.slice ga gl gc, .slice sa sl sc]] w fun e w' => e = .returned (.bool true) ∧ Below w.heap.size w w' := by
  have hb0 := hid ((Below.refl w.heap.size w).alloc (Nat.le_refl _) (.cells #[.slice ga gl gc, .slice sa sl sc] 30))
  have hL := hid hgl
  have hM := hid hsl
  clear hgl hsl
  go_enter Try.func4, Try.ntmps4
  go_wp2_with fail
  have hcall := Check_any w w.heap.size ga sa gs l gl gc sl sc _ hL.out hM.out hg hs hgc hsc hb0.out (by simp) hG hS
  go_fit hcall
  clear hcall
  rintro e w1 ⟨rfl, hb⟩
  have hb1 : Below (w.heap.size + 1) (w.alloc (.cells #[.slice ga gl gc, .slice sa sl sc] 30)) w1 := hb.mono (by simp)
  have hz := hb1.size
  simp at hz
  obtain ⟨g2, g3⟩ := box22 hb1
  have hB1 := hid (hb0.out.trans (hb1.mono (by omega)))
  clear hb
  generalize hr : envI gs l = r
  have HR := hid hr
  clear hr
  go_wp2_with fail
  have hcall := EnvFault_any w w.heap.size ga sa gs l gl gc sl sc w1 hL.out hM.out hg hs hgc hsc hB1.out (by omega) hG hS
  rw [HR.out] at hcall
  go_fit hcall
  clear hcall
  rintro e w2 ⟨rfl, hb2⟩
  go_wp2_with fail
  go_ret
  exact ⟨by simp, hB1.out.trans (hb2.mono (by omega))⟩
set_option maxRecDepth 100000 in
theorem checks_lifted (os : Os) (started : os.Started) (H : Type) (enc : TypeId × Value → H) :
    ReturnsInHanded {} Try.checked os 4 .any (Rows.unitChecksSpec.pre6 enc Try.prog Try.f4 Rows.unitChecksRow.domain false) (Rows.unitChecksSpec.post enc Try.prog Try.f4 false true false false) := by
  refine returnsInHanded_of_change (C := Try.checked) own started (by kernel_rfl) Try.func4
    (ChangeSpec.witness6 (enc := enc) (C := Try.checked) false ⟨#[], #[.agg #[.slice none 0 0, .slice none 0 0]], []⟩ 8 (by kernel_rfl) (by kernel_rfl) (by kernel_rfl) (by kernel_rfl)) ?_
  intro W base args ds gs before hval0 hW hcnd _
  have hval : ∀ (j : Nat) t v, Try.f4.params[j]? = some t → args[j]? = some v → Value.okWide Try.prog W .any base t v := hval0
  have hW' := hW
  obtain ⟨p, q, hA0, hV, rfl, hfz, hnd⟩ := hW
  have hA : DataW.TrodAll enc Try.prog W 0 (fun _ => true) true Try.f4.params.toList args.toList ds p := hA0
  rw [Try.params4] at hA hval
  obtain ⟨v0, vs0, d0, ds0, p0, q0, hargs, rfl, rfl, h0, r0⟩ := trodAll_cons hA
  obtain ⟨rfl, rfl, rfl⟩ := trodAll_nil r0
  obtain rfl : args = #[v0] := by cases args; simp_all
  obtain ⟨rfl, rfl⟩ := trodVars_none hV
  have k0 := h0
  have lt0 : ∀ x ∈ p0, x.block < W.heap.size := by obtain ⟨m, hm⟩ := k0; exact DataW.trod_lt m _ _ _ hm
  obtain ⟨u0, u1, y0, y1, m, rfl, hd0, hp0, t0, t1⟩ := Joins.open_agg2 Try.underlying30 (by kernel_rfl) cellsEnv (hval 0 30 v0 rfl rfl) h0
  obtain ⟨ga, gc, gs, rfl, q1, q2, hG⟩ := strs_of t0
  obtain ⟨sa, sc, l, rfl, q3, q4, hS⟩ := shs_of t1
  clear hA0 hval0
  refine (checks_walk ga sa gs l gs.length gc l.length sc W rfl rfl (by unfold maxLen at q2; omega) (by unfold maxLen at q4; omega) q1 q3 hG hS).mono fun e W' ⟨he, bel⟩ => ?_
  subst he
  exact ⟨_, rfl, _, _, _, [], _, [], hW', trodAll_mk1 (shut_bool Try.underlying4 _), (trodAll_cons_mk (Below.trod laidOut (by kernel_rfl) (of_decide_eq_true (by kernel_rfl)) k0 bel lt0) trodAll_mk0), rfl, bel.frame _, fun h => by cases h⟩
theorem unitChecks_holds : Rows.UnitChecksSaid :=
  OpenClaim.holds_of_wide 4 Try.f4 rfl rfl rfl rfl rfl rfl rfl ⟨rfl, rfl, rfl, rfl, rfl⟩ rfl rfl rfl rfl rfl (by kernel_rfl) Try.func4 (by kernel_rfl)
    (of_decide_eq_true (by kernel_rfl)) (by unfold Func.isWrapper; first | (rw [if_pos (by decide +kernel)]; kernel_rfl) | (rw [if_neg (by decide +kernel)]; exact ⟨rfl, rfl⟩))
    (fun os started H enc _ => checks_lifted os started H enc)
#print axioms unitChecks_holds
end Go.Proofs.Ytgdeomdnpgedbab

/- unit.CheckShape answers at every record what P2.3 says: UnitShapes returns true for every record that can be read, and leaves it as it was. No condition. -/
import Derived.Test.YtgdeomdnpgedbabRows
import Derived.Test.YtgdeomdnpgedbabUOpen
import Derived.RegionTactic
import Derived.Deep.RegionWith
namespace Go.Proofs.Ytgdeomdnpgedbab
open Go.ChangeShapes Go.WideShapes Go.ChangeAt Go.RowKit
theorem Fill2.words {w0 w : World} {k p : Nat} (h : Fill2 w0 w k keyws p prims) : Words w k p := ⟨h.one.own, h.own⟩
set_option maxHeartbeats 400000 in
theorem CheckShape_any (W : World) (B : Nat) (n : ByteArray) (a : Option Addr) (ss : List ByteArray) (len cap : Nat) (w : World) (hn : n.size ≤ maxLen) (hlen : len = ss.length) (hl : len ≤ 9223372036854775807) (hcap : len ≤ cap)
    (hB : Below B W w) (hBw : B ≤ w.heap.size) (hS : Strs W B a ss) :
    Calls Try.prog 6 #[.agg #[.string n, .slice a len cap]] w fun e w' => e = .returned (.int .i64 (shapeI n ss)) ∧ Below w.heap.size w w' := by
  have hb0 := hid ((Below.refl w.heap.size w).alloc (Nat.le_refl _) (.cells #[.string n, .slice a len cap] 24))
  have hL := hid hlen
  clear hlen
  go_enter Try.func6, Try.ntmps6
  go_wp2_with fail
  go_region_with (first
    | (go_at_call 13; refine (newWords_any _).mono ?_; rintro e w1 ⟨k, p, rfl, hF⟩
       have hb1 : Below (w.heap.size + 1) (w.alloc (.cells #[.string n, .slice a len cap] 24)) w1 := by
         have h := hF.one.bel
         exact ⟨h.os, h.tape, h.output, h.size, fun k hk => h.block k (by simpa using hk)⟩
       have hz : w.heap.size + 1 ≤ w1.heap.size := by have h := hb1.size; simpa using h
       obtain ⟨g2, g3⟩ := box22 hb1
       have hW := hid (hF.words)
       have hB1 := hid (hB.trans ((hb0.out.trans (hb1.mono (by omega))).mono hBw))
       clear hF)
    | (go_at_call 14; refine (checkShape_any W B k p n a ss len cap w1 hn hL.out hl hcap hW.out hB1.out (by omega) hS).mono ?_; rintro e w2 ⟨rfl, hb2⟩))
  all_goals (go_wp2; go_ret; exact ⟨rfl, (hb0.out.trans (hb1.mono (by omega))).trans (hb2.mono (by omega))⟩)
set_option maxHeartbeats 400000 in
theorem shapes_walk (n : ByteArray) (a : Option Addr) (ss : List ByteArray) (len cap : Nat) (w : World) (hn : n.size ≤ maxLen) (hlen : len = ss.length) (hl : len ≤ 9223372036854775807) (hcap : len ≤ cap) (hS : Strs w w.heap.size a ss) :
    Calls Try.prog 3 #[.agg #[.string n, .slice a len cap]] w fun e w' => e = .returned (.bool true) ∧ Below w.heap.size w w' := by
  have hb0 := hid ((Below.refl w.heap.size w).alloc (Nat.le_refl _) (.cells #[.string n, .slice a len cap] 24))
  have hL := hid hlen
  clear hlen
  go_enter Try.func3, Try.ntmps3
  go_wp2_with fail
  have hcall := CheckShape_any w w.heap.size n a ss len cap _ hn hL.out hl hcap hb0.out (by simp) hS
  go_fit hcall
  clear hcall
  rintro e w1 ⟨rfl, hb⟩
  have hb1 : Below (w.heap.size + 1) (w.alloc (.cells #[.string n, .slice a len cap] 24)) w1 := hb.mono (by simp)
  have hz := hb1.size
  simp at hz
  obtain ⟨g2, g3⟩ := box22 hb1
  have hB1 := hid (hb0.out.trans (hb1.mono (by omega)))
  clear hb
  generalize hr : shapeI n ss = r
  have HR := hid hr
  clear hr
  go_wp2_with fail
  have hcall := ShapeFault_any w w.heap.size n a ss len cap w1 hn hL.out hl hcap hB1.out (by omega) hS
  rw [HR.out] at hcall
  go_fit hcall
  clear hcall
  rintro e w2 ⟨rfl, hb2⟩
  go_wp2_with fail
  go_ret
  exact ⟨by simp, hB1.out.trans (hb2.mono (by omega))⟩
set_option maxRecDepth 100000 in
theorem shapes_lifted (os : Os) (started : os.Started) (H : Type) (enc : TypeId × Value → H) :
    ReturnsInHanded {} Try.checked os 3 .any (Rows.unitShapesSpec.pre6 enc Try.prog Try.f3 Rows.unitShapesRow.domain false) (Rows.unitShapesSpec.post enc Try.prog Try.f3 false true false false) := by
  refine returnsInHanded_of_change (C := Try.checked) own started (by kernel_rfl) Try.func3
    (ChangeSpec.witness6 (enc := enc) (C := Try.checked) false ⟨#[], #[.agg #[.string ⟨#[]⟩, .slice none 0 0]], []⟩ 8 (by kernel_rfl) (by kernel_rfl) (by kernel_rfl) (by kernel_rfl)) ?_
  intro W base args ds gs before hval0 hW hcnd _
  have hval : ∀ (j : Nat) t v, Try.f3.params[j]? = some t → args[j]? = some v → Value.okWide Try.prog W .any base t v := hval0
  have hW' := hW
  obtain ⟨p, q, hA0, hV, rfl, hfz, hnd⟩ := hW
  have hA : DataW.TrodAll enc Try.prog W 0 (fun _ => true) true Try.f3.params.toList args.toList ds p := hA0
  rw [Try.params3] at hA hval
  obtain ⟨v0, vs0, d0, ds0, p0, q0, hargs, rfl, rfl, h0, r0⟩ := trodAll_cons hA
  obtain ⟨rfl, rfl, rfl⟩ := trodAll_nil r0
  obtain rfl : args = #[v0] := by cases args; simp_all
  obtain ⟨rfl, rfl⟩ := trodVars_none hV
  have k0 := h0
  have lt0 : ∀ x ∈ p0, x.block < W.heap.size := by obtain ⟨m, hm⟩ := k0; exact DataW.trod_lt m _ _ _ hm
  obtain ⟨u0, u1, y0, y1, m, rfl, hd0, hp0, t0, t1⟩ := Joins.open_agg2 Try.underlying24 (by kernel_rfl) cellsSh (hval 0 24 v0 rfl rfl) h0
  obtain ⟨nm, e0, _, hnm⟩ := DataW.trod_string Try.underlying9 t0
  simp at e0
  subst e0
  obtain ⟨a', cap', ss, rfl, hcap, hlen, hS⟩ := strs_of t1
  clear hA0 hval0
  refine (shapes_walk nm a' ss ss.length cap' W hnm rfl (by unfold maxLen at hlen; omega) hcap hS).mono fun e W' ⟨he, bel⟩ => ?_
  subst he
  exact ⟨_, rfl, _, _, _, [], _, [], hW', trodAll_mk1 (shut_bool Try.underlying4 _), (trodAll_cons_mk (Below.trod laidOut (by kernel_rfl) (of_decide_eq_true (by kernel_rfl)) k0 bel lt0) trodAll_mk0), rfl, bel.frame _, fun h => by cases h⟩
theorem unitShapes_holds : Rows.UnitShapesSaid :=
  OpenClaim.holds_of_wide 3 Try.f3 rfl rfl rfl rfl rfl rfl rfl ⟨rfl, rfl, rfl, rfl, rfl⟩ rfl rfl rfl rfl rfl (by kernel_rfl) Try.func3 (by kernel_rfl)
    (of_decide_eq_true (by kernel_rfl)) (by unfold Func.isWrapper; first | (rw [if_pos (by decide +kernel)]; kernel_rfl) | (rw [if_neg (by decide +kernel)]; exact ⟨rfl, rfl⟩))
    (fun os started H enc _ => shapes_lifted os started H enc)
#print axioms unitShapes_holds
end Go.Proofs.Ytgdeomdnpgedbab

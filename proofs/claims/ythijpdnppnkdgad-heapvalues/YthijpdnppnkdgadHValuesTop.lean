/- heap.CheckValue answers at every heap and every word what P3.4 says: HeapValues returns true for every heap and word that can be read, and leaves them as they were. No condition. -/
import Derived.Test.YthijpdnppnkdgadRows
import Derived.Test.YthijpdnppnkdgadHValue
import Derived.Test.YthijpdnppnkdgadHOpen
namespace Go.Proofs.Ythijpdnppnkdgad
open Go.ChangeShapes Go.WideShapes Go.ChangeAt Go.RowKit
set_option maxHeartbeats 1000000 in
theorem values_walk (a : Option Addr) (l : List Wd) (len cap : Nat) (lim k n : Int) (s : ByteArray) (w : World) (hlen : len = l.length) (hl : len ≤ 9223372036854775807) (hcap : len ≤ cap) (hW : Wds w w.heap.size a l) (hwf : wfL l) (hn : wfI n) (hs : s.size ≤ 9223372036854775807) :
    Calls Try.prog 4 #[.agg #[.slice a len cap, .int .i64 lim], .agg #[.int .i64 k, .int .i64 n, .string s]] w fun e w' => e = .returned (.bool true) ∧ Below w.heap.size w w' := by
  have HL := hid hlen
  clear hlen
  obtain ⟨w2, hw2⟩ : ∃ w2, w2 = (w.alloc (.cells #[.slice a len cap, .int .i64 lim] 24)).alloc (.cells #[.int .i64 k, .int .i64 n, .string s] 30) := ⟨_, rfl⟩
  have hb2 : Below w.heap.size w w2 := by rw [hw2]; exact below_2 _ _ _
  have hz2 : w2.heap.size = w.heap.size + 2 := by rw [hw2]; simp
  have tt : (w2.cell? ⟨w.heap.size, 0, none⟩ = some (.slice a len cap) ∧ w2.cell? ⟨w.heap.size, 1, none⟩ = some (.int .i64 lim)) ∧ w2.cell? ⟨w.heap.size + 1, 0, none⟩ = some (.int .i64 k) ∧ w2.cell? ⟨w.heap.size + 1, 1, none⟩ = some (.int .i64 n) ∧ w2.cell? ⟨w.heap.size + 1, 2, none⟩ = some (.string s) := by
    rw [hw2]; refine ⟨⟨?_, ?_⟩, ?_, ?_, ?_⟩ <;> go_simp
  have HC := hid (CheckValue_any w2 w.heap.size a len cap l lim k n s (hW.below hb2) (by omega) HL.out hcap hl hwf hn hs)
  have H2 := hid hw2
  have HB2 := hid hb2
  clear hw2 hb2
  go_enter Try.func4, Try.ntmps4
  go_wp2_with fail
  rw [← H2.out]
  have hcall := HC.out
  go_fit hcall
  clear hcall
  rintro e w3 ⟨r, rfl, hr, hb3⟩
  have hB3 := hid (HB2.out.trans (hb3.mono (by omega)))
  obtain ⟨⟨y0, y1⟩, y2, y3, y4⟩ := tt
  have x0 := (hb3.cell (p := ⟨w.heap.size, 0, none⟩) (by dsimp only; omega)).trans y0
  have x1 := (hb3.cell (p := ⟨w.heap.size, 1, none⟩) (by dsimp only; omega)).trans y1
  have x2 := (hb3.cell (p := ⟨w.heap.size + 1, 0, none⟩) (by dsimp only; omega)).trans y2
  have x3 := (hb3.cell (p := ⟨w.heap.size + 1, 1, none⟩) (by dsimp only; omega)).trans y3
  have x4 := (hb3.cell (p := ⟨w.heap.size + 1, 2, none⟩) (by dsimp only; omega)).trans y4
  have hz3 := hb3.size
  clear hb3 y0 y1 y2 y3 y4
  go_wp2_with fail
  have hcall := ValueFault_any w3 w.heap.size a len cap l lim k n s (hW.below hB3.out) (by omega) HL.out hl
  go_fit hcall
  clear hcall
  rintro e w4 ⟨r', rfl, hr', hb4⟩
  obtain rfl := cv_vf hr hr'
  go_wp2_with fail
  go_ret
  exact ⟨by simp, hB3.out.trans (hb4.mono (by omega))⟩
set_option maxRecDepth 100000 in
theorem values_lifted (os : Os) (started : os.Started) (H : Type) (enc : TypeId × Value → H) :
    ReturnsInHanded {} Try.checked os 4 .any (Rows.heapValuesSpec.pre6 enc Try.prog Try.f4 Rows.heapValuesRow.domain false) (Rows.heapValuesSpec.post enc Try.prog Try.f4 false true false false) := by
  refine returnsInHanded_of_change (C := Try.checked) own started (by kernel_rfl) Try.func4
    (ChangeSpec.witness6 (enc := enc) (C := Try.checked) false ⟨#[], #[.agg #[.slice none 0 0, .int .i64 0], .agg #[.int .i64 0, .int .i64 0, .string ⟨#[]⟩]], []⟩ 8 (by kernel_rfl) (by kernel_rfl) (by kernel_rfl) (by kernel_rfl)) ?_
  intro W base args ds gs before hval0 hW hcnd _
  have hval : ∀ (j : Nat) t v, Try.f4.params[j]? = some t → args[j]? = some v → Value.okWide Try.prog W .any base t v := hval0
  have hW' := hW
  obtain ⟨p, q, hA0, hV, rfl, hfz, hnd⟩ := hW
  have hA : DataW.TrodAll enc Try.prog W 0 (fun _ => true) true Try.f4.params.toList args.toList ds p := hA0
  rw [Try.params4] at hA hval
  obtain ⟨v0, vs0, d0, ds0, p0, q0, hargs, rfl, rfl, h0, r0⟩ := trodAll_cons hA
  obtain ⟨v1, vs1, d1, ds1, p1, q1, hargs1, rfl, rfl, h1, r1⟩ := trodAll_cons r0
  obtain ⟨rfl, rfl, rfl⟩ := trodAll_nil r1
  obtain rfl : args = #[v0, v1] := by cases args; simp_all
  obtain ⟨rfl, rfl⟩ := trodVars_none hV
  have k0 := h0
  have k1 := h1
  have lt0 : ∀ x ∈ p0, x.block < W.heap.size := by obtain ⟨m, hm⟩ := k0; exact DataW.trod_lt m _ _ _ hm
  have lt1 : ∀ x ∈ p1, x.block < W.heap.size := by obtain ⟨m, hm⟩ := k1; exact DataW.trod_lt m _ _ _ hm
  obtain ⟨u0, u1, y0, y1, m, rfl, hd0, hp0, t0, t1⟩ := Joins.open_agg2 Try.underlying24 (by kernel_rfl) cellsHp (hval 0 24 v0 rfl rfl) h0
  obtain ⟨z0, z1, z2, x0, x1, x2, m', rfl, hd1, hp1, s0, s1, s2⟩ := Joins.open_agg3 Try.underlying30 (by kernel_rfl) cellsWd (hval 1 30 v1 rfl rfl) h1
  obtain ⟨a, cap, l, rfl, g1, g2, hWd, hwf⟩ := wds_of t0
  obtain ⟨lim, e1, _, _⟩ := DataW.trod_int Try.underlying3 t1
  obtain ⟨k, e2, _, _⟩ := DataW.trod_int Try.underlying3 s0
  obtain ⟨n, e3, _, hn⟩ := DataW.trod_int Try.underlying3 s1
  obtain ⟨s, e4, _, hs⟩ := DataW.trod_string Try.underlying9 s2
  simp at e1 e2 e3 e4
  subst e1 e2 e3 e4
  clear hA0 hval0
  refine (values_walk a l l.length cap lim k n s W rfl (by unfold maxLen at g2; omega) g1 hWd hwf hn (by unfold maxLen at hs; omega)).mono fun e W' ⟨he, bel⟩ => ?_
  subst he
  exact ⟨_, rfl, _, _, _, [], _, [], hW', trodAll_mk1 (shut_bool Try.underlying4 _), (trodAll_cons_mk (Below.trod laidOut (by kernel_rfl) (of_decide_eq_true (by kernel_rfl)) k0 bel lt0) (trodAll_cons_mk (Below.trod laidOut (by kernel_rfl) (of_decide_eq_true (by kernel_rfl)) k1 bel lt1) trodAll_mk0)), rfl, bel.frame _, fun h => by cases h⟩
theorem heapValues_holds : Rows.HeapValuesSaid :=
  OpenClaim.holds_of_wide 4 Try.f4 rfl rfl rfl rfl rfl rfl rfl ⟨rfl, rfl, rfl, rfl, rfl⟩ rfl rfl rfl rfl rfl (by kernel_rfl) Try.func4 (by kernel_rfl)
    (of_decide_eq_true (by kernel_rfl)) (by unfold Func.isWrapper; first | (rw [if_pos (by decide +kernel)]; kernel_rfl) | (rw [if_neg (by decide +kernel)]; exact ⟨rfl, rfl⟩))
    (fun os started H enc _ => values_lifted os started H enc)
#print axioms heapValues_holds
end Go.Proofs.Ythijpdnppnkdgad

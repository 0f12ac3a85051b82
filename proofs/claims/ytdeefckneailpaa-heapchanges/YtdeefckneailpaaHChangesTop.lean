/- heap.Change answers at every heap, word, number and value what P3.8 says: HeapChanges returns true for all that can be read, and leaves them as they were. No condition. -/
import Derived.Test.YtdeefckneailpaaRows
import Derived.Test.YtdeefckneailpaaHChecks
import Derived.Test.YtdeefckneailpaaHChanged
import Derived.Test.YtdeefckneailpaaHSameW
import Derived.Test.YtdeefckneailpaaHFull
namespace Go.Proofs.Ytdeefckneailpaa
set_option maxRecDepth 100000
open Go.ChangeShapes Go.WideShapes Go.ChangeAt Go.RowKit
structure Hwv (W : World) (g : Nat) (x0 x1 t0 t1 t2 v0 v1 v2 : Value) : Prop where
  x0 : W.cell? ⟨g, 0, none⟩ = some x0
  x1 : W.cell? ⟨g, 1, none⟩ = some x1
  t0 : W.cell? ⟨g + 1, 0, none⟩ = some t0
  t1 : W.cell? ⟨g + 1, 1, none⟩ = some t1
  t2 : W.cell? ⟨g + 1, 2, none⟩ = some t2
  v0 : W.cell? ⟨g + 2, 0, none⟩ = some v0
  v1 : W.cell? ⟨g + 2, 1, none⟩ = some v1
  v2 : W.cell? ⟨g + 2, 2, none⟩ = some v2
theorem Hwv.below {W W' : World} {g N : Nat} {x0 x1 t0 t1 t2 v0 v1 v2 : Value} (h : Hwv W g x0 x1 t0 t1 t2 v0 v1 v2) (hb : Below N W W') (hN : g + 3 ≤ N) : Hwv W' g x0 x1 t0 t1 t2 v0 v1 v2 := by
  have c : ∀ b o, b < g + 3 → W'.cell? ⟨b, o, none⟩ = W.cell? ⟨b, o, none⟩ := fun b o hb' => hb.cell (p := ⟨b, o, none⟩) (by dsimp only; omega)
  exact ⟨(c _ _ (by omega)).trans h.x0, (c _ _ (by omega)).trans h.x1, (c _ _ (by omega)).trans h.t0, (c _ _ (by omega)).trans h.t1, (c _ _ (by omega)).trans h.t2, (c _ _ (by omega)).trans h.v0, (c _ _ (by omega)).trans h.v1, (c _ _ (by omega)).trans h.v2⟩
theorem box2 (w : World) (u0 u1 : Value) (t : TypeId) (W : World) (hW : W = w.alloc (.cells #[u0, u1] t)) :
    (W.cell? ⟨w.heap.size, 0, none⟩ = some u0 ∧ W.cell? ⟨w.heap.size, 1, none⟩ = some u1) ∧ W.heap.size = w.heap.size + 1 ∧ Below w.heap.size w W := by
  subst hW
  refine ⟨⟨?_, ?_⟩, by simp, (Below.refl _ _).alloc (Nat.le_refl _) _⟩ <;> go_simp
theorem ChI.len {lim : Int} {l : List Wd} {k n : Int} {s : ByteArray} {i : Int} {x : Wd} {l' : List Wd} {lim' r : Int} (h : ChI lim l k n s i x l' lim' r) : l'.length ≤ l.length := by
  rcases h with ⟨_, _, _, _, _, _, _, ⟨_, rfl, _⟩ | ⟨_, _, rfl, _⟩ | ⟨_, _, _, _, q, _, _, rfl⟩⟩ | ⟨rfl, _⟩
  · simp
  · simp
  · simp
  · simp
set_option maxHeartbeats 4000000 in
theorem changes_walk (a : Option Addr) (l : List Wd) (len cap : Nat) (lim k n : Int) (s : ByteArray) (i k2 n2 : Int) (s2 : ByteArray) (w : World) (hlen : len = l.length) (hl : len ≤ 4398046511104) (hW : Wds w w.heap.size a l) (hwf : wfL l) (hn : wfI n) (hs : s.size ≤ 9223372036854775807) (hn2 : wfI n2) (hs2 : s2.size ≤ 9223372036854775807) :
    Calls Try.prog 7 #[.agg #[.slice a len cap, .int .i64 lim], .agg #[.int .i64 k, .int .i64 n, .string s], .int .i64 i, .agg #[.int .i64 k2, .int .i64 n2, .string s2]] w fun e w' => e = .returned (.bool true) ∧ Below w.heap.size w w' := by
  have HL := hid hlen
  clear hlen
  obtain ⟨w2, hw2⟩ : ∃ w2, w2 = ((w.alloc (.cells #[.slice a len cap, .int .i64 lim] 24)).alloc (.cells #[.int .i64 k, .int .i64 n, .string s] 30)).alloc (.cells #[.int .i64 k2, .int .i64 n2, .string s2] 30) := ⟨_, rfl⟩
  obtain ⟨⟨q0, q1⟩, ⟨q2, q3, q4⟩, ⟨q5, q6, q7⟩, _, hz2, hb2⟩ := boxes233 w _ _ _ _ _ _ _ _ _ _ _ w2 hw2
  have HK2 := hid (Hwv.mk q0 q1 q2 q3 q4 q5 q6 q7)
  have HC := hid (heaps_any w2 w.heap.size a len cap l lim (hW.below hb2) (by omega) HL.out hl)
  have H2 := hid hw2
  have HB2 := hid hb2
  clear hw2 hb2
  go_enter Try.func7, Try.ntmps7
  go_wp2_with fail
  rw [← H2.out]
  have hcall := HC.out
  go_fit hcall
  clear hcall q0 q1 q2 q3 q4 q5 q6 q7
  rintro e w3 ⟨a', cap', rfl, hc3, hb3, hW3, hN3⟩
  have K3 := HK2.out.below hb3 (by omega)
  have HB3 := hid (HB2.out.trans (hb3.mono (by omega)))
  have hz3 := hb3.size
  obtain ⟨w4, hw4⟩ : ∃ w4, w4 = w3.alloc (.cells #[.slice a' len cap', .int .i64 lim] 24) := ⟨_, rfl⟩
  obtain ⟨⟨c0, c1⟩, hz4, hb4⟩ := box2 w3 _ _ _ w4 hw4
  have HK4 := hid (K3.below hb4 (by omega))
  have HW4 := hid ((hW3.below hb4).mono (show w3.heap.size ≤ w4.heap.size by omega))
  have HB4 := hid (HB3.out.trans (hb4.mono (by omega)))
  have H4 := hid hw4
  have HCh := hid (Change_any w4 w4.heap.size a' len cap' l lim k n s i k2 n2 s2 HW4.out (Nat.le_refl _) HL.out hc3 (by omega) hwf hn hs hn2 hs2)
  obtain ⟨x0, x1, t0, t1, t2, v0, v1, v2⟩ := K3
  have hl0 : w.heap.size < w3.heap.size := by omega
  have hl1 : w.heap.size + 1 < w3.heap.size := by omega
  have hl2 : w.heap.size + 2 < w3.heap.size := by omega
  have HZ4 := hid hz4
  clear hw4 hb4 hb3 hW3 hz4
  go_wp2_with fail
  rw [← H4.out]
  have hcall := HCh.out
  go_fit hcall
  clear hcall x0 x1 t0 t1 t2 v0 v1 v2
  rintro e w5 ⟨l', lim', r, a1, cap1, rfl, hch, hc5, hW5, hb5⟩
  have hz4 := HZ4.out
  have K5 := HK4.out.below hb5 (by omega)
  have HB5 := hid (HB4.out.trans (hb5.mono (by omega)))
  have hz5 := hb5.size
  have d0 := (hb5.cell (p := ⟨w3.heap.size, 0, none⟩) (by dsimp only; omega)).trans c0
  have d1 := (hb5.cell (p := ⟨w3.heap.size, 1, none⟩) (by dsimp only; omega)).trans c1
  have HW45 := hid (HW4.out.below hb5)
  obtain ⟨len', hlen'⟩ : ∃ len', len' = l'.length := ⟨_, rfl⟩
  rw [← hlen']
  obtain ⟨w6, hw6⟩ : ∃ w6, w6 = w5.alloc (.cells #[.slice a1 len' cap1, .int .i64 lim'] 24) := ⟨_, rfl⟩
  obtain ⟨⟨e0, e1⟩, hz6, hb6⟩ := box2 w5 _ _ _ w6 hw6
  have HK6 := hid (K5.below hb6 (by omega))
  have HW6 := hid ((hW5.below hb6).mono (show w5.heap.size ≤ w6.heap.size by omega))
  have HW46 := hid (HW45.out.below (hb6.mono (by omega)))
  have HB6 := hid (HB5.out.trans (hb6.mono (by omega)))
  have H6 := hid hw6
  have d2 := (hb6.cell (p := ⟨w3.heap.size, 0, none⟩) (by dsimp only; omega)).trans d0
  have d3 := (hb6.cell (p := ⟨w3.heap.size, 1, none⟩) (by dsimp only; omega)).trans d1
  have HCd := hid (ChangedOf_any w6 w.heap.size a len cap l lim k n s i k2 n2 s2 (hW.below HB6.out) (by omega) HL.out (by omega) l' lim' r hch)
  rw [← hlen'] at HCd
  have HL' := hid hlen'
  have HLe := hid (show len' ≤ 4398046511104 by have := hch.len; have := HL.out; omega)
  obtain ⟨x0, x1, t0, t1, t2, v0, v1, v2⟩ := K5
  have hl0 : w.heap.size < w5.heap.size := by omega
  have hl1 : w.heap.size + 1 < w5.heap.size := by omega
  have hl2 : w.heap.size + 2 < w5.heap.size := by omega
  have HZ6 := hid hz6
  clear hw6 hb6 hb5 hW5 hz6 hz4 hlen' hch
  go_wp2_with fail
  rw [← H6.out]
  have hcall := HCd.out
  go_fit hcall
  clear hcall x0 x1 t0 t1 t2 v0 v1 v2
  rintro e w7 ⟨a2, cap2, rfl, hW7, hb7⟩
  have hz4 := HZ4.out
  have hz6 := HZ6.out
  have K7 := HK6.out.below hb7 (by omega)
  have HB7 := hid (HB6.out.trans (hb7.mono (by omega)))
  have hz7 := hb7.size
  obtain ⟨w8, hw8⟩ : ∃ w8, w8 = w7.alloc (.cells #[.slice a2 len' cap2, .int .i64 lim'] 24) := ⟨_, rfl⟩
  obtain ⟨⟨g0, g1⟩, hz8, hb8⟩ := box2 w7 _ _ _ w8 hw8
  have HB8 := hid (HB7.out.trans (hb8.mono (by omega)))
  have HK8 := hid (K7.below hb8 (by omega))
  have hb78 := hb7.trans (hb8.mono (by omega))
  have HW68 := hid ((HW6.out.below hb78).mono (show w6.heap.size ≤ w8.heap.size by omega))
  have HW78 := hid ((hW7.below hb8).mono (show w7.heap.size ≤ w8.heap.size by omega))
  have HW48 := hid ((HW46.out.below (hb78.mono (by omega))).mono (show w4.heap.size ≤ w8.heap.size by omega))
  have y0 := (hb7.cell (p := ⟨w5.heap.size, 0, none⟩) (by dsimp only; omega)).trans e0
  have y1 := (hb7.cell (p := ⟨w5.heap.size, 1, none⟩) (by dsimp only; omega)).trans e1
  have y2 := (hb78.cell (p := ⟨w3.heap.size, 0, none⟩) (by dsimp only; omega)).trans d2
  have y3 := (hb78.cell (p := ⟨w3.heap.size, 1, none⟩) (by dsimp only; omega)).trans d3
  have H8 := hid hw8
  have HS1 := hid (sameHeap_true w8 w8.heap.size a1 a2 len' cap1 cap2 l' lim' HW68.out HW78.out (Nat.le_refl _) HL'.out (by have := HLe.out; omega))
  have hl5 : w5.heap.size < w7.heap.size := by omega
  have HZ8 := hid hz8
  clear hw8 hb7 hb8 hb78 hz4 hz6 hz8 c0 c1 d0 d1 d2 d3 e0 e1 g0 g1
  go_wp2_with fail
  rw [← H8.out]
  have hcall := HS1.out
  go_fit hcall
  clear hcall
  rintro e w9 ⟨rfl, hb9⟩
  have hz4 := HZ4.out
  have hz6 := HZ6.out
  have hz8 := HZ8.out
  have K9 := HK8.out.below hb9 (by omega)
  have HB9 := hid (HB8.out.trans (hb9.mono (by omega)))
  have hz9 := hb9.size
  have z2 := (hb9.cell (p := ⟨w3.heap.size, 0, none⟩) (by dsimp only; omega)).trans y2
  have z3 := (hb9.cell (p := ⟨w3.heap.size, 1, none⟩) (by dsimp only; omega)).trans y3
  have HS2 := hid (sameHeap_true w9 w9.heap.size a' a len cap' cap l lim ((HW48.out.below hb9).mono (by omega)) ((hW.below HB9.out).mono (by omega)) (Nat.le_refl _) HL.out (by omega))
  obtain ⟨x0, x1, t0, t1, t2, v0, v1, v2⟩ := K9
  have hzw : w.heap.size ≤ w9.heap.size := by omega
  clear hb9 hz4 hz6 hz8 y0 y1 y2 y3
  go_wp2_with fail
  have hcall := HS2.out
  go_fit hcall
  clear hcall
  rintro e w10 ⟨rfl, hb10⟩
  have HB10 := hid (HB9.out.trans (hb10.mono hzw))
  go_wp2_with fail
  go_ret
  exact ⟨by simp, HB10.out⟩
set_option maxRecDepth 100000 in
theorem heapChanges_lifted (os : Os) (started : os.Started) (H : Type) (enc : TypeId × Value → H) :
    ReturnsInHanded {} Try.checked os 7 .any (Rows.heapChangesSpec.pre6 enc Try.prog Try.f7 Rows.heapChangesRow.domain false) (Rows.heapChangesSpec.post enc Try.prog Try.f7 false true false false) := by
  refine returnsInHanded_of_change_sized (C := Try.checked) own started (by kernel_rfl) Try.func7
    (ChangeSpec.witness6 (enc := enc) (C := Try.checked) false ⟨#[], #[.agg #[.slice none 0 0, .int .i64 0], .agg #[.int .i64 0, .int .i64 0, .string ⟨#[]⟩], .int .i64 0, .agg #[.int .i64 0, .int .i64 0, .string ⟨#[]⟩]], []⟩ 8 (by kernel_rfl) (by kernel_rfl) (by kernel_rfl) (by kernel_rfl)) ?_
  intro W base args ds gs before hval0 hW hcnd hsz0 _
  have hval : ∀ (j : Nat) t v, Try.f7.params[j]? = some t → args[j]? = some v → Value.okWide Try.prog W .any base t v := hval0
  have hsz : (DataW.weightsEach Try.prog (Try.f7.params.toList ++ Rows.heapChangesSpec.plain.varTypes Try.prog) (ds ++ gs)).all (· ≤ reachBytes) = true := hsz0
  have hW' := hW
  obtain ⟨p, q, hA0, hV, rfl, hfz, hnd⟩ := hW
  have hA : DataW.TrodAll enc Try.prog W 0 (fun _ => true) true Try.f7.params.toList args.toList ds p := hA0
  rw [Try.params7] at hA hval hsz
  obtain ⟨v0, vs0, d0, ds0, p0, q0, hargs0, rfl, rfl, h0, r0⟩ := trodAll_cons hA
  obtain ⟨v1, vs1, d1, ds1, p1, q1, hargs1, rfl, rfl, h1, r1⟩ := trodAll_cons r0
  obtain ⟨v2, vs2, d2, ds2, p2, q2, hargs2, rfl, rfl, h2, r2⟩ := trodAll_cons r1
  obtain ⟨v3, vs3, d3, ds3, p3, q3, hargs3, rfl, rfl, h3, r3⟩ := trodAll_cons r2
  obtain ⟨rfl, rfl, rfl⟩ := trodAll_nil r3
  obtain rfl : args = #[v0, v1, v2, v3] := by cases args; simp_all
  obtain ⟨rfl, rfl⟩ := trodVars_none hV
  have hw0 : InR Try.prog 24 d0 := fun n hn => of_decide_eq_true (List.all_eq_true.1 hsz n (DataW.weights_mem_each (j := 0) rfl rfl n hn))
  have k0 := h0
  have lt0 : ∀ x ∈ p0, x.block < W.heap.size := by obtain ⟨m, hm⟩ := k0; exact DataW.trod_lt m _ _ _ hm
  obtain ⟨u00, u01, y00, y01, m0, rfl, hd0, hp0, t00, t01⟩ := Joins.open_agg2 Try.underlying24 (by kernel_rfl) cellsHp (hval 0 24 v0 rfl rfl) h0
  subst hd0
  obtain ⟨a0, cap0, l0, rfl, gc0, gm0, hWd0, hwf0, gb0⟩ := wds_ofR t00 (hw0.field Try.underlying24 (j := 0) rfl rfl)
  obtain ⟨lim0, e0, _, _⟩ := DataW.trod_int Try.underlying3 t01
  simp at e0
  subst e0
  have gz0 : l0.length ≤ 4398046511104 := by omega
  have k1 := h1
  have lt1 : ∀ x ∈ p1, x.block < W.heap.size := by obtain ⟨m, hm⟩ := k1; exact DataW.trod_lt m _ _ _ hm
  obtain ⟨z10, z11, z12, x10, x11, x12, m1, rfl, hd1, hp1, s10, s11, s12⟩ := Joins.open_agg3 Try.underlying30 (by kernel_rfl) cellsWd (hval 1 30 v1 rfl rfl) h1
  obtain ⟨k1k, ek1, _, _⟩ := DataW.trod_int Try.underlying3 s10
  obtain ⟨n1, en1, _, hn1⟩ := DataW.trod_int Try.underlying3 s11
  obtain ⟨s1, es1, _, hs1⟩ := DataW.trod_string Try.underlying9 s12
  simp at ek1 en1 es1
  subst ek1 en1 es1
  obtain ⟨i2, rfl, rfl, rfl, wn2⟩ := open_int Try.underlying3 (hval 2 3 v2 rfl rfl) h2
  have k3 := h3
  have lt3 : ∀ x ∈ p3, x.block < W.heap.size := by obtain ⟨m, hm⟩ := k3; exact DataW.trod_lt m _ _ _ hm
  obtain ⟨z30, z31, z32, x30, x31, x32, m3, rfl, hd3, hp3, s30, s31, s32⟩ := Joins.open_agg3 Try.underlying30 (by kernel_rfl) cellsWd (hval 3 30 v3 rfl rfl) h3
  obtain ⟨k3k, ek3, _, _⟩ := DataW.trod_int Try.underlying3 s30
  obtain ⟨n3, en3, _, hn3⟩ := DataW.trod_int Try.underlying3 s31
  obtain ⟨s3, es3, _, hs3⟩ := DataW.trod_string Try.underlying9 s32
  simp at ek3 en3 es3
  subst ek3 en3 es3
  clear hA0 hval0 hsz0 hsz
  refine (changes_walk a0 l0 l0.length cap0 lim0 k1k n1 s1 i2 k3k n3 s3 W rfl gz0 hWd0 hwf0 hn1 (by unfold maxLen at hs1; omega) hn3 (by unfold maxLen at hs3; omega)).mono fun e W' ⟨he, bel⟩ => ?_
  subst he
  exact ⟨_, rfl, _, _, _, [], _, [], hW', trodAll_mk1 (shut_bool Try.underlying4 _), (trodAll_cons_mk (Below.trod laidOut (by kernel_rfl) (of_decide_eq_true (by kernel_rfl)) k0 bel lt0) (trodAll_cons_mk (Below.trod laidOut (by kernel_rfl) (of_decide_eq_true (by kernel_rfl)) k1 bel lt1) (trodAll_cons_mk (shut_int Try.underlying3 wn2) (trodAll_cons_mk (Below.trod laidOut (by kernel_rfl) (of_decide_eq_true (by kernel_rfl)) k3 bel lt3) trodAll_mk0)))), rfl, bel.frame _, fun h => by cases h⟩
theorem heapChanges_holds : Rows.HeapChangesSaid :=
  OpenClaim.holds_of_wide 7 Try.f7 rfl rfl rfl rfl rfl rfl rfl ⟨rfl, rfl, rfl, rfl, rfl⟩ rfl rfl rfl rfl rfl (by kernel_rfl) Try.func7 (by kernel_rfl)
    (of_decide_eq_true (by kernel_rfl)) (by unfold Func.isWrapper; first | (rw [if_pos (by decide +kernel)]; kernel_rfl) | (rw [if_neg (by decide +kernel)]; exact ⟨rfl, rfl⟩))
    (fun os started H enc _ => heapChanges_lifted os started H enc)
#print axioms heapChanges_holds
end Go.Proofs.Ytdeefckneailpaa

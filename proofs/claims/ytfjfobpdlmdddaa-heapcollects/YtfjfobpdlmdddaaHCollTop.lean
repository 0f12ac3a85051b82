/- heap.Collect answers at every heap and all words what P3.7 says: HeapCollects returns true for all that can be read, and leaves them as they were. No condition. -/
import Derived.Test.YtfjfobpdlmdddaaRows
import Derived.Test.YtfjfobpdlmdddaaHGatC
import Derived.Test.YtfjfobpdlmdddaaHCollN
import Derived.Test.YtfjfobpdlmdddaaHSameW
import Derived.Test.YtfjfobpdlmdddaaHFull
namespace Go.Proofs.Ytfjfobpdlmdddaa
set_option maxRecDepth 100000
open Go.ChangeShapes Go.WideShapes Go.ChangeAt Go.RowKit
structure Hb2 (W : World) (g : Nat) (x0 x1 : Value) : Prop where
  x0 : W.cell? ⟨g, 0, none⟩ = some x0
  x1 : W.cell? ⟨g, 1, none⟩ = some x1
theorem Hb2.below {W W' : World} {g N : Nat} {x0 x1 : Value} (h : Hb2 W g x0 x1) (hb : Below N W W') (hN : g + 1 ≤ N) : Hb2 W' g x0 x1 :=
  ⟨(hb.cell (p := ⟨g, 0, none⟩) (by dsimp only; omega)).trans h.x0, (hb.cell (p := ⟨g, 1, none⟩) (by dsimp only; omega)).trans h.x1⟩
theorem box2 (w : World) (u0 u1 : Value) (t : TypeId) (W : World) (hW : W = w.alloc (.cells #[u0, u1] t)) :
    Hb2 W w.heap.size u0 u1 ∧ W.heap.size = w.heap.size + 1 ∧ Below w.heap.size w W := by
  subst hW
  refine ⟨⟨?_, ?_⟩, by simp, (Below.refl _ _).alloc (Nat.le_refl _) _⟩ <;> go_simp
set_option maxHeartbeats 4000000 in
theorem collects_walk (a : Option Addr) (l : List Wd) (len cap : Nat) (lim : Int) (ax : Option Addr) (x : List Wd) (nx cx : Nat) (w : World) (hlen : len = l.length) (hl : len ≤ 4398046511104) (hcap : len ≤ cap) (hW : Wds w w.heap.size a l) (hwf : wfL l) (hnx : nx = x.length) (hlx : nx ≤ 4398046511104) (hX : Wds w w.heap.size ax x) (hwx : wfL x) :
    Calls Try.prog 3 #[.agg #[.slice a len cap, .int .i64 lim], .slice ax nx cx] w fun e w' => e = .returned (.bool true) ∧ Below w.heap.size w w' := by
  have HL := hid hlen
  have HX := hid hnx
  clear hlen hnx
  obtain ⟨w2, hw2⟩ : ∃ w2, w2 = w.alloc (.cells #[.slice a len cap, .int .i64 lim] 24) := ⟨_, rfl⟩
  obtain ⟨K2, hz2, hb2⟩ := box2 w _ _ _ w2 hw2
  have HK2 := hid K2
  have HC := hid (heaps_any w2 w.heap.size a len cap l lim (hW.below hb2) (by omega) HL.out hl)
  have H2 := hid hw2
  have HB2 := hid hb2
  clear hw2 hb2 K2
  go_enter Try.func3, Try.ntmps3
  go_wp2_with fail
  rw [← H2.out]
  have hcall := HC.out
  go_fit hcall
  clear hcall
  rintro e w3 ⟨a', cap', rfl, hc3, hb3, hW3, hN3⟩
  have K3 := HK2.out.below hb3 (by omega)
  have HB3 := hid (HB2.out.trans (hb3.mono (by omega)))
  have hz3 := hb3.size
  obtain ⟨w4, hw4⟩ : ∃ w4, w4 = w3.alloc (.cells #[.slice a' len cap', .int .i64 lim] 24) := ⟨_, rfl⟩
  obtain ⟨K4b, hz4, hb4⟩ := box2 w3 _ _ _ w4 hw4
  have HK4 := hid (K3.below hb4 (by omega))
  have HK4b := hid K4b
  have HW4 := hid ((hW3.below hb4).mono (show w3.heap.size ≤ w4.heap.size by omega))
  have HB4 := hid (HB3.out.trans (hb4.mono (by omega)))
  have H4 := hid hw4
  have hzw : w.heap.size ≤ w4.heap.size := by omega
  have HPw := hid (words_any w4 w.heap.size ax nx cx x (hX.below HB4.out) HX.out hlx)
  have HZ4 := hid hz4
  clear hw4 hb4 hb3 hW3 hz4 K3 K4b
  go_wp2_with fail
  rw [← H4.out]
  have hcall := HPw.out
  go_fit hcall
  clear hcall
  rintro e w5 ⟨a2, cap2, rfl, hc2, hb5, hW5, _⟩
  have hz4 := HZ4.out
  have hz5 := hb5.size
  have HK5 := hid (HK4.out.below hb5 (by omega))
  have HK5b := hid (HK4b.out.below hb5 (by omega))
  have HW45 := hid ((HW4.out.below hb5).mono hz5)
  have HW5 := hid hW5
  have HB5 := hid (HB4.out.trans (hb5.mono hzw))
  have HCo := hid ((Collect_any w5 w5.heap.size a' len cap' l lim HW45.out (Nat.le_refl _) HL.out hc3 (by omega) hwf a2 nx cap2 x HW5.out HX.out (by omega) hwx).mono (fun e w' (h : ∃ l' lim' R' r a1 cap1 x1 xcap1, e = .returned (.tuple #[.agg #[.slice a1 (List.length l') cap1, .int .i64 lim'], .slice x1 (List.length R') xcap1, .int .i64 r]) ∧ CoI lim l x l' lim' R' r ∧ l'.length ≤ cap1 ∧ Wds w' w'.heap.size a1 l' ∧ Wds w' w'.heap.size x1 R' ∧ Below w5.heap.size w5 w') => (by
    obtain ⟨l', lim', R', r, a1, cap1, x1, xcap1, h1, h2, _, h4, h5, h6⟩ := h
    exact ⟨l', l'.length, lim', R', R'.length, r, a1, cap1, x1, xcap1, h1, ⟨rfl, rfl, h2⟩, h4, h5, h6⟩ : ∃ l' n' lim' R' m' r a1 cap1 x1 xcap1, e = .returned (.tuple #[.agg #[.slice a1 n' cap1, .int .i64 lim'], .slice x1 m' xcap1, .int .i64 r]) ∧ Hid (n' = List.length l' ∧ m' = List.length R' ∧ CoI lim l x l' lim' R' r) ∧ Wds w' w'.heap.size a1 l' ∧ Wds w' w'.heap.size x1 R' ∧ Below w5.heap.size w5 w')))
  obtain ⟨y0, y1⟩ := HK5b.out
  have hzw5 : w.heap.size ≤ w5.heap.size := by omega
  have hl3 : w3.heap.size < w5.heap.size := by omega
  clear hb5 hW5 hz4
  go_wp2_with fail
  have hcall := HCo.out
  go_fit hcall
  clear hcall y0 y1
  rintro e w6 ⟨l', n', lim', R', m', r, a1, cap1, x1, xcap1, rfl, hco, hW6, hX6, hb6⟩
  have hz6 := hb6.size
  have HK6 := hid (HK5.out.below hb6 (by have := HZ4.out; omega))
  have HK6b := hid (HK5b.out.below hb6 (by have := HZ4.out; omega))
  obtain ⟨w7, hw7⟩ : ∃ w7, w7 = w6.alloc (.cells #[.slice a1 n' cap1, .int .i64 lim'] 24) := ⟨_, rfl⟩
  obtain ⟨K7c, hz7, hb7⟩ := box2 w6 _ _ _ w7 hw7
  have HK7 := hid (HK6.out.below hb7 (by have := HZ4.out; omega))
  have HK7b := hid (HK6b.out.below hb7 (by have := HZ4.out; omega))
  have HK7c := hid K7c
  have hb67 := hb6.trans (hb7.mono hz6)
  have HW47 := hid ((HW45.out.below hb67).mono (show w5.heap.size ≤ w7.heap.size by omega))
  have HW57 := hid ((HW5.out.below hb67).mono (show w5.heap.size ≤ w7.heap.size by omega))
  have HW7 := hid ((hW6.below hb7).mono (show w6.heap.size ≤ w7.heap.size by omega))
  have HX7 := hid ((hX6.below hb7).mono (show w6.heap.size ≤ w7.heap.size by omega))
  have HB7 := hid (HB5.out.trans (hb67.mono hzw5))
  have HLe := hid (hco.out.2.2.len hwf)
  have HCd := hid (CollectedOf_any w7 w.heap.size a len cap l lim (hW.below HB7.out) (by omega) HL.out hcap (by omega) ax nx cx x (hX.below HB7.out) HX.out (by omega) l' lim' R' r hco.out.2.2)
  rw [← hco.out.1, ← hco.out.2.1] at HCd
  have HCo2 := hid hco.out
  have H7 := hid hw7
  have HZ7 := hid hz7
  obtain ⟨y0, y1⟩ := HK6.out
  have hlw6 : w.heap.size < w6.heap.size := by have := HZ4.out; omega
  have hzw7 : w.heap.size ≤ w7.heap.size := by omega
  have hlw7 : w.heap.size < w7.heap.size := by omega
  have hl37 : w3.heap.size < w7.heap.size := by omega
  clear hw7 hb7 hb6 hb67 hW6 hX6 hco K7c hz7
  go_wp2_with fail
  rw [← H7.out]
  have hcall := HCd.out
  go_fit hcall
  clear hcall y0 y1
  rintro e w8 ⟨a8, cap8, x8, xcap8, rfl, _, _, hW8, hX8, hb8⟩
  have hz8 := hb8.size
  have hz7 := HZ7.out
  obtain ⟨w9, hw9⟩ : ∃ w9, w9 = w8.alloc (.cells #[.slice a8 n' cap8, .int .i64 lim'] 24) := ⟨_, rfl⟩
  obtain ⟨K9d, hz9, hb9⟩ := box2 w8 _ _ _ w9 hw9
  have hb89 := hb8.trans (hb9.mono hz8)
  have HK9 := hid (HK7.out.below hb89 (by omega))
  have HK9b := hid (HK7b.out.below hb89 (by omega))
  have HK9c := hid (HK7c.out.below hb89 (by omega))
  have HK9d := hid K9d
  have HW49 := hid ((HW47.out.below hb89).mono (show w7.heap.size ≤ w9.heap.size by omega))
  have HW59 := hid ((HW57.out.below hb89).mono (show w7.heap.size ≤ w9.heap.size by omega))
  have HW79 := hid ((HW7.out.below hb89).mono (show w7.heap.size ≤ w9.heap.size by omega))
  have HX79 := hid ((HX7.out.below hb89).mono (show w7.heap.size ≤ w9.heap.size by omega))
  have HW89 := hid ((hW8.below hb9).mono (show w8.heap.size ≤ w9.heap.size by omega))
  have HX89 := hid ((hX8.below hb9).mono (show w8.heap.size ≤ w9.heap.size by omega))
  have HB9 := hid (HB7.out.trans (hb89.mono hzw7))
  have hnb : n' ≤ 60000 := by have := HLe.out.1; have := HCo2.out.1; omega
  have hmb : m' ≤ 4398046511104 := by have := HLe.out.2; have := HCo2.out.2.1; have := HX.out; omega
  have HS1 := hid (sameHeap_true w9 w9.heap.size a1 a8 n' cap1 cap8 l' lim' HW79.out HW89.out (Nat.le_refl _) HCo2.out.1 (by omega))
  obtain ⟨y0, y1⟩ := HK9c.out
  obtain ⟨y2, y3⟩ := HK9d.out
  have H9 := hid hw9
  have HZ9 := hid hz9
  have hl69 : w6.heap.size < w9.heap.size := by omega
  have hl89 : w8.heap.size < w9.heap.size := by omega
  have hzw9 : w.heap.size ≤ w9.heap.size := by omega
  have hl39 : w3.heap.size + 1 ≤ w9.heap.size := by omega
  have hlw9 : w.heap.size + 1 ≤ w9.heap.size := by omega
  have hl68 : w6.heap.size < w8.heap.size := by omega
  have y0' := ((show Below w8.heap.size w8 w9 from hb9).cell (p := ⟨w6.heap.size, 0, none⟩) hl68).symm.trans y0
  have y1' := ((show Below w8.heap.size w8 w9 from hb9).cell (p := ⟨w6.heap.size, 1, none⟩) hl68).symm.trans y1
  clear hw9 hb9 hb8 hb89 hW8 hX8 K9d hz7 hz9 y0 y1 y2 y3
  go_wp2_with fail
  rw [← H9.out]
  have hcall := HS1.out
  go_fit hcall
  clear hcall y0' y1'
  rintro e w10 ⟨rfl, hb10⟩
  have hz10 := hb10.size
  have HS2 := hid (sameWords_true w10 w10.heap.size x1 x8 m' xcap1 xcap8 R' ((HX79.out.below hb10).mono hz10) ((HX89.out.below hb10).mono hz10) (Nat.le_refl _) HCo2.out.2.1 (by omega))
  have HB10 := hid (HB9.out.trans (hb10.mono hzw9))
  have HK10 := hid (HK9.out.below hb10 hlw9)
  have HK10b := hid (HK9b.out.below hb10 hl39)
  have HW410 := hid ((HW49.out.below hb10).mono hz10)
  have HW510 := hid ((HW59.out.below hb10).mono hz10)
  clear hb10
  go_wp2_with fail
  have hcall := HS2.out
  go_fit hcall
  clear hcall
  rintro e w11 ⟨rfl, hb11⟩
  have hz11 := hb11.size
  have HB11 := hid (HB10.out.trans (hb11.mono (by omega)))
  have HK11 := hid (HK10.out.below hb11 (by omega))
  have HK11b := hid (HK10b.out.below hb11 (by omega))
  have HS3 := hid (sameHeap_true w11 w11.heap.size a' a len cap' cap l lim ((HW410.out.below hb11).mono hz11) ((hW.below HB11.out).mono (by omega)) (Nat.le_refl _) HL.out (by omega))
  have HW511 := hid ((HW510.out.below hb11).mono hz11)
  obtain ⟨y0, y1⟩ := HK11.out
  obtain ⟨y2, y3⟩ := HK11b.out
  have hl311 : w3.heap.size < w11.heap.size := by omega
  have hlw11 : w.heap.size < w11.heap.size := by omega
  clear hb11
  go_wp2_with fail
  have hcall := HS3.out
  go_fit hcall
  clear hcall y0 y1 y2 y3
  rintro e w12 ⟨rfl, hb12⟩
  have hz12 := hb12.size
  have HB12 := hid (HB11.out.trans (hb12.mono (by omega)))
  have HS4 := hid (sameWords_true w12 w12.heap.size a2 ax nx cap2 cx x ((HW511.out.below hb12).mono hz12) ((hX.below HB12.out).mono (by omega)) (Nat.le_refl _) HX.out (by omega))
  have hzw12 : w.heap.size ≤ w12.heap.size := by omega
  clear hb12
  go_wp2_with fail
  have hcall := HS4.out
  go_fit hcall
  clear hcall
  rintro e w13 ⟨rfl, hb13⟩
  have HB13 := hid (HB12.out.trans (hb13.mono hzw12))
  go_wp2_with fail
  go_ret
  exact ⟨by simp, HB13.out⟩
set_option maxRecDepth 100000 in
theorem heapCollects_lifted (os : Os) (started : os.Started) (H : Type) (enc : TypeId × Value → H) :
    ReturnsInHanded {} Try.checked os 3 .any (Rows.heapCollectsSpec.pre6 enc Try.prog Try.f3 Rows.heapCollectsRow.domain false) (Rows.heapCollectsSpec.post enc Try.prog Try.f3 false true false false) := by
  refine returnsInHanded_of_change_sized (C := Try.checked) own started (by kernel_rfl) Try.func3
    (ChangeSpec.witness6 (enc := enc) (C := Try.checked) false ⟨#[], #[.agg #[.slice none 0 0, .int .i64 0], .slice none 0 0], []⟩ 8 (by kernel_rfl) (by kernel_rfl) (by kernel_rfl) (by kernel_rfl)) ?_
  intro W base args ds gs before hval0 hW hcnd hsz0 _
  have hval : ∀ (j : Nat) t v, Try.f3.params[j]? = some t → args[j]? = some v → Value.okWide Try.prog W .any base t v := hval0
  have hsz : (DataW.weightsEach Try.prog (Try.f3.params.toList ++ Rows.heapCollectsSpec.plain.varTypes Try.prog) (ds ++ gs)).all (· ≤ reachBytes) = true := hsz0
  have hW' := hW
  obtain ⟨p, q, hA0, hV, rfl, hfz, hnd⟩ := hW
  have hA : DataW.TrodAll enc Try.prog W 0 (fun _ => true) true Try.f3.params.toList args.toList ds p := hA0
  rw [Try.params3] at hA hval hsz
  obtain ⟨v0, vs0, d0, ds0, p0, q0, hargs0, rfl, rfl, h0, r0⟩ := trodAll_cons hA
  obtain ⟨v1, vs1, d1, ds1, p1, q1, hargs1, rfl, rfl, h1, r1⟩ := trodAll_cons r0
  obtain ⟨rfl, rfl, rfl⟩ := trodAll_nil r1
  obtain rfl : args = #[v0, v1] := by cases args; simp_all
  obtain ⟨rfl, rfl⟩ := trodVars_none hV
  have hw0 : InR Try.prog 24 d0 := fun n hn => of_decide_eq_true (List.all_eq_true.1 hsz n (DataW.weights_mem_each (j := 0) rfl rfl n hn))
  have k0 := h0
  have lt0 : ∀ x ∈ p0, x.block < W.heap.size := by obtain ⟨m, hm⟩ := k0; exact DataW.trod_lt m _ _ _ hm
  obtain ⟨u00, u01, y00, y01, m0, rfl, hd0, hp0, t00, t01⟩ := Joins.open_agg2 Try.underlying24 (by kernel_rfl) cellsHp (hval 0 24 v0 rfl rfl) h0
  subst hd0
  obtain ⟨a0, cap0, l0, rfl, gc0, gm0, hWd0, hwf0, gb0⟩ := wds_ofR t00 (hw0.field Try.underlying24 (j := 0) rfl rfl)
  obtain ⟨lim0, e0, _, _⟩ := DataW.trod_int Try.underlying3 t01
  simp at e0
  subst e0
  have gz0 : l0.length ≤ 4398046511104 := by omega
  have hw1 : InR Try.prog 22 d1 := fun n hn => of_decide_eq_true (List.all_eq_true.1 hsz n (DataW.weights_mem_each (j := 1) rfl rfl n hn))
  have k1 := h1
  have lt1 : ∀ x ∈ p1, x.block < W.heap.size := by obtain ⟨m, hm⟩ := k1; exact DataW.trod_lt m _ _ _ hm
  obtain ⟨a1, cap1, l1, rfl, gc1, gm1, hWd1, hwf1, gb1⟩ := wds_inR (hval 1 22 v1 rfl rfl) h1 hw1
  have gz1 : l1.length ≤ 4398046511104 := by omega
  clear hA0 hval0 hsz0 hsz
  refine (collects_walk a0 l0 l0.length cap0 lim0 a1 l1 l1.length cap1 W rfl gz0 gc0 hWd0 hwf0 rfl gz1 hWd1 hwf1).mono fun e W' ⟨he, bel⟩ => ?_
  subst he
  exact ⟨_, rfl, _, _, _, [], _, [], hW', trodAll_mk1 (shut_bool Try.underlying4 _), (trodAll_cons_mk (Below.trod laidOut (by kernel_rfl) (of_decide_eq_true (by kernel_rfl)) k0 bel lt0) (trodAll_cons_mk (Below.trod laidOut (by kernel_rfl) (of_decide_eq_true (by kernel_rfl)) k1 bel lt1) trodAll_mk0)), rfl, bel.frame _, fun h => by cases h⟩
theorem heapCollects_holds : Rows.HeapCollectsSaid :=
  OpenClaim.holds_of_wide 3 Try.f3 rfl rfl rfl rfl rfl rfl rfl ⟨rfl, rfl, rfl, rfl, rfl⟩ rfl rfl rfl rfl rfl (by kernel_rfl) Try.func3 (by kernel_rfl)
    (of_decide_eq_true (by kernel_rfl)) (by unfold Func.isWrapper; first | (rw [if_pos (by decide +kernel)]; kernel_rfl) | (rw [if_neg (by decide +kernel)]; exact ⟨rfl, rfl⟩))
    (fun os started H enc _ => heapCollects_lifted os started H enc)
#print axioms heapCollects_holds
end Go.Proofs.Ytfjfobpdlmdddaa

/- heap.Put answers at every heap and all words what P3.6 says: HeapPuts returns true for all that can be read, and leaves them as they were. No condition. -/
import Derived.Test.YtiiiockogcopaaaRows
import Derived.Test.YtiiiockogcopaaaHPutOf
import Derived.Test.YtiiiockogcopaaaHSameW
import Derived.Test.YtiiiockogcopaaaHFull
namespace Go.Proofs.Ytiiiockogcopaaa
set_option maxRecDepth 100000
open Go.ChangeShapes Go.WideShapes Go.ChangeAt Go.RowKit
structure Hb2 (W : World) (g : Nat) (x0 x1 : Value) : Prop where
  x0 : W.cell? ⟨g, 0, none⟩ = some x0
  x1 : W.cell? ⟨g, 1, none⟩ = some x1
theorem Hb2.below {W W' : World} {g N : Nat} {x0 x1 : Value} (h : Hb2 W g x0 x1) (hb : Below N W W') (hN : g + 1 ≤ N) : Hb2 W' g x0 x1 :=
  ⟨(hb.cell (p := ⟨g, 0, none⟩) (by dsimp only; omega)).trans h.x0, (hb.cell (p := ⟨g, 1, none⟩) (by dsimp only; omega)).trans h.x1⟩
theorem box2 (w : World) (u0 u1 : Value) (t : TypeId) (W : World) (hW : W = w.alloc (.cells #[u0, u1] t)) :
    Hb2 W w.heap.size u0 u1 ∧ W.heap.size = w.heap.size + 1 ∧ Below w.heap.size w W := by
  subst hW
  refine ⟨⟨?_, ?_⟩, by simp, (Below.refl _ _).alloc (Nat.le_refl _) _⟩ <;> go_simp
theorem PuI.len {lim : Int} {l x l' : List Wd} {lim' p r : Int} (h : PuI lim l x l' lim' p r) : l'.length ≤ 60000 := by
  rcases h with ⟨_, rfl, _⟩ | ⟨_, _, hok, ⟨_, rfl, _⟩ | ⟨_, _, rfl, _⟩ | ⟨_, hr, ⟨_, rfl, _⟩ | ⟨_, rfl, _⟩⟩⟩
  · simp
  · simp
  · simp
  · simp
  · rw [List.length_append]; have := hok.hi; omega
/-- A new box with what Put told. -/
structure PutC (w4 wx : World) (g : Nat) (a1 : Option Addr) (cap1 n : Nat) (lim : Int) (l : List Wd) : Prop where
  bel : Below w4.heap.size w4 wx
  glt : g < wx.heap.size
  gge : w4.heap.size ≤ g
  c0 : wx.cell? ⟨g, 0, none⟩ = some (.slice a1 n cap1)
  c1 : wx.cell? ⟨g, 1, none⟩ = some (.int .i64 lim)
  wds : Wds wx wx.heap.size a1 l
theorem putC_alloc {w4 w7 : World} {a1 : Option Addr} {cap1 n : Nat} {lim : Int} {l : List Wd} {t : TypeId} (hb : Below w4.heap.size w4 w7) (hW : Wds w7 w7.heap.size a1 l) :
    PutC w4 (w7.alloc (.cells #[.slice a1 n cap1, .int .i64 lim] t)) w7.heap.size a1 cap1 n lim l := by
  refine ⟨hb.alloc hb.size _, by simp, hb.size, by go_simp, by go_simp, (hW.below ((Below.refl _ _).alloc (Nat.le_refl _) _)).mono (by simp)⟩
theorem putC_set {w4 w7 : World} {a1 : Option Addr} {cap1 n N g : Nat} {lim : Int} {l : List Wd} {y0 y1 : Value} (hb : Below w4.heap.size w4 w7) (hW : Wds w7 w7.heap.size a1 l) (hN : NewAt N a1) (hgN : g < N) (hgl : g < w7.heap.size) (hg4 : w4.heap.size ≤ g) (b0 : w7.cell? ⟨g, 0, none⟩ = some y0) (b1 : w7.cell? ⟨g, 1, none⟩ = some y1) :
    PutC w4 ((w7.setCell ⟨g, 0, none⟩ (.slice a1 n cap1)).setCell ⟨g, 1, none⟩ (.int .i64 lim)) g a1 cap1 n lim l := by
  refine ⟨below_set2s hb hg4, by simpa using hgl, hg4, ?_, ?_, hW.kept (by simp) (fun A hA => ?_)⟩
  · rw [World.cell?_setCell_other _ _ _ _ (by intro e; injection e with _ e; omega)]; exact World.cell?_setCell_same _ _ _ b0
  · exact World.cell?_setCell_same _ _ _ ((World.cell?_setCell_other _ _ _ _ (by intro e; injection e with _ e; omega)).trans b1)
  · have := hN A hA
    rw [Below.heap_setCell _ _ _ _ (by dsimp only; omega), Below.heap_setCell _ _ _ _ (by dsimp only; omega)]
theorem bx_plain {w w' : World} {u0 u1 : Value} {t : TypeId} (hb : Below (w.alloc (.cells #[u0, u1] t)).heap.size (w.alloc (.cells #[u0, u1] t)) w') :
    (w'.cell? ⟨w.heap.size, 0, none⟩ = some u0 ∧ w'.cell? ⟨w.heap.size, 1, none⟩ = some u1) ∧ (w'.frozen? ⟨w.heap.size, 0, none⟩ = false ∧ w'.frozen? ⟨w.heap.size, 1, none⟩ = false) ∧ w.heap.size < w'.heap.size := box2_kept w.heap.size rfl hb
theorem bx_carry {w w' : World} {g : Nat} {u0 u1 : Value} (b0 : w.cell? ⟨g, 0, none⟩ = some u0) (b1 : w.cell? ⟨g, 1, none⟩ = some u1) (e0 : w.frozen? ⟨g, 0, none⟩ = false) (e1 : w.frozen? ⟨g, 1, none⟩ = false) (bl : g < w.heap.size) (hb : Below w.heap.size w w') :
    (w'.cell? ⟨g, 0, none⟩ = some u0 ∧ w'.cell? ⟨g, 1, none⟩ = some u1) ∧ (w'.frozen? ⟨g, 0, none⟩ = false ∧ w'.frozen? ⟨g, 1, none⟩ = false) ∧ g < w'.heap.size :=
  ⟨⟨(hb.cell (p := ⟨g, 0, none⟩) bl).trans b0, (hb.cell (p := ⟨g, 1, none⟩) bl).trans b1⟩, ⟨(hb.frozen (p := ⟨g, 0, none⟩) bl).trans e0, (hb.frozen (p := ⟨g, 1, none⟩) bl).trans e1⟩, Nat.lt_of_lt_of_le bl hb.size⟩
set_option maxHeartbeats 8000000 in
theorem puts_walk (a : Option Addr) (l : List Wd) (len cap : Nat) (lim : Int) (ax : Option Addr) (x : List Wd) (nx cx : Nat) (w : World) (hlen : len = l.length) (hl : len ≤ 4398046511104) (hW : Wds w w.heap.size a l) (hwf : wfL l) (hnx : nx = x.length) (hlx : nx ≤ 4398046511104) (hX : Wds w w.heap.size ax x) (hwx : wfL x) :
    Calls Try.prog 3 #[.agg #[.slice a len cap, .int .i64 lim], .slice ax nx cx] w fun e w' => e = .returned (.bool true) ∧ Below w.heap.size w w' := by
  have HL := hid hlen
  have HX := hid hnx
  clear hlen hnx
  obtain ⟨w2, hw2⟩ : ∃ w2, w2 = w.alloc (.cells #[.slice a len cap, .int .i64 lim] 24) := ⟨_, rfl⟩
  obtain ⟨K2, hz2, hb2⟩ := box2 w _ _ _ w2 hw2
  have HK2 := hid K2
  have HC := hid (heaps_any w2 w.heap.size a len cap l lim (hW.below hb2) (by omega) HL.out hl)
  have H2 := hid hw2
  have HB2 := hid hb2
  clear hw2 hb2 K2
  go_enter Try.func3, Try.ntmps3
  go_wp2_with fail
  rw [← H2.out]
  have hcall := HC.out
  go_fit hcall
  clear hcall
  rintro e w3 ⟨a', cap', rfl, hc3, hb3, hW3, hN3⟩
  have K3 := HK2.out.below hb3 (by omega)
  have HB3 := hid (HB2.out.trans (hb3.mono (by omega)))
  have hz3 := hb3.size
  obtain ⟨w4, hw4⟩ : ∃ w4, w4 = w3.alloc (.cells #[.slice a' len cap', .int .i64 lim] 24) := ⟨_, rfl⟩
  obtain ⟨⟨c0, c1⟩, hz4, hb4⟩ := box2 w3 _ _ _ w4 hw4
  have HK4 := hid (K3.below hb4 (by omega))
  have HW4 := hid ((hW3.below hb4).mono (show w3.heap.size ≤ w4.heap.size by omega))
  have HB4 := hid (HB3.out.trans (hb4.mono (by omega)))
  have H4 := hid hw4
  have hzw : w.heap.size ≤ w4.heap.size := by omega
  have HPw := hid (fun (w' : World) (hb : Below w4.heap.size w4 w') => (words_any w' w.heap.size ax nx cx x (hX.below (HB4.out.trans (hb.mono hzw))) HX.out hlx).mono (fun e w'' (h : ∃ a2 cap2, e = .returned (.slice a2 nx cap2) ∧ nx ≤ cap2 ∧ Below w'.heap.size w' w'' ∧ Wds w'' w''.heap.size a2 x ∧ NewAt w'.heap.size a2) => (by
    obtain ⟨a2, cap2, q1, _, q3, q4, _⟩ := h
    exact ⟨a2, cap2, q1, hb.trans (q3.mono hb.size), (hb.trans (q3.mono hb.size)).size, q3, q4⟩ : ∃ a2 cap2, e = .returned (.slice a2 nx cap2) ∧ Below w4.heap.size w4 w'' ∧ w4.heap.size ≤ w''.heap.size ∧ Below w'.heap.size w' w'' ∧ Wds w'' w''.heap.size a2 x)))
  have HPp := hid (fun (w' : World) (a2 : Option Addr) (cap2 : Nat) (hb : Below w4.heap.size w4 w') (h2 : Wds w' w'.heap.size a2 x) => (Put_any w' w'.heap.size a' len cap' l lim a2 nx cap2 x ((HW4.out.below hb).mono hb.size) (Nat.le_refl _) HL.out hc3 (by omega) hwf h2 HX.out hwx hlx).mono (fun e w'' (h : ∃ l' lim' p r a1 cap1, e = .returned (.tuple #[.agg #[.slice a1 (List.length l') cap1, .int .i64 lim'], .int .i64 p, .int .i64 r]) ∧ PuI lim l x l' lim' p r ∧ l'.length ≤ cap1 ∧ Wds w'' w''.heap.size a1 l' ∧ Below w'.heap.size w' w'' ∧ NewAt w'.heap.size a1) => (by
    obtain ⟨l', lim', p, r, a1, cap1, q1, q2, _, q4, q5, q6⟩ := h
    exact ⟨l', l'.length, lim', p, r, a1, cap1, q1, ⟨rfl, q2⟩, hb.trans (q5.mono hb.size), (hb.trans (q5.mono hb.size)).size, q5, q4, q6⟩ : ∃ l' n' lim' p r a1 cap1, e = .returned (.tuple #[.agg #[.slice a1 n' cap1, .int .i64 lim'], .int .i64 p, .int .i64 r]) ∧ Hid (n' = l'.length ∧ PuI lim l x l' lim' p r) ∧ Below w4.heap.size w4 w'' ∧ w4.heap.size ≤ w''.heap.size ∧ Below w'.heap.size w' w'' ∧ Wds w'' w''.heap.size a1 l' ∧ NewAt w'.heap.size a1)))
  have HS := hid (fun w' (hb : Below w4.heap.size w4 w') => (⟨(hb.cell (p := ⟨w3.heap.size, 0, none⟩) (by dsimp only; omega)).trans c0, (hb.cell (p := ⟨w3.heap.size, 1, none⟩) (by dsimp only; omega)).trans c1⟩ : w'.cell? ⟨w3.heap.size, 0, none⟩ = some (.slice a' len cap') ∧ w'.cell? ⟨w3.heap.size, 1, none⟩ = some (.int .i64 lim)))
  have HZ4 := hid hz4
  clear hw4 hb4 hb3 hW3 hz4 c0 c1 K3
  go_upto_region 2 with fail
  rw [← H4.out]
  go_cut [6, 7, 8] (fun z6 z7 z8 wx => ∃ g l' n' lim' p r a1 cap1, z6 = .pointer (some ⟨g, 0, none⟩) ∧ z7 = .int .i64 p ∧ z8 = .int .i64 r ∧ Hid (n' = List.length l' ∧ PuI lim l x l' lim' p r) ∧ PutC w4 wx g a1 cap1 n' lim' l')
  case first =>
    go_region_held3 (fun w' => w'.cell? ⟨w3.heap.size, 0, none⟩ = some (.slice a' len cap') ∧ w'.cell? ⟨w3.heap.size, 1, none⟩ = some (.int .i64 lim))
      ((refine HS.out _ ?_; first | assumption | (repeat (first | exact bdrew (Below.refl _ _) 1 | exact bdrew ((Below.refl _ _).alloc (Nat.le_refl _) _) 1 | assumption | refine below_set2s ?_ (by first | exact Nat.le_refl _ | assumption | (simp; done) | (simp; omega)) | refine Below.alloc ?_ (by first | exact Nat.le_refl _ | assumption | (simp; omega)) _))))
      (first
      | (go_at_call 11; refine (HPw.out _ (by first | exact bdrew (Below.refl _ _) 1 | exact bdrew ((Below.refl _ _).alloc (Nat.le_refl _) _) 1)).mono ?_; rintro e w6 ⟨a2, cap2, rfl, hb6, hz6, hbx6, hW6⟩; first | (have bx := bx_one (u0 := .slice none 0 0) (u1 := .int .i64 0) hbx6; obtain ⟨⟨b0, b1⟩, ⟨e0, e1⟩, bl⟩ := bx) | skip)
      | (go_at_call 10; refine (HPp.out _ _ _ (by first | exact hb6 | exact hb6.alloc hz6 _) (by first | exact hW6 | exact (hW6.below ((Below.refl _ _).alloc (Nat.le_refl _) _)).mono (by simp))).mono ?_; rintro e w7 ⟨l', n', lim', p, r, a1, cap1, rfl, hpu, hb7, hz7, hbx7, hW7, hN7⟩; first | (have bx := bx_plain (u0 := .slice none 0 0) (u1 := .int .i64 0) hbx7; obtain ⟨⟨b0, b1⟩, ⟨e0, e1⟩, bl⟩ := bx) | (have bx := bx_carry b0 b1 e0 e1 bl hbx7; clear b0 b1 e0 e1; obtain ⟨⟨b0, b1⟩, ⟨e0, e1⟩, bl7⟩ := bx) | skip))
    all_goals (go_wp2_with fail; go_meet)
    all_goals first
      | exact ⟨_, l', n', lim', p, r, a1, cap1, rfl, rfl, rfl, hpu, putC_alloc hb7 hW7⟩
      | exact ⟨_, l', n', lim', p, r, a1, cap1, rfl, rfl, rfl, hpu, putC_set hb7 hW7 hN7 (by simp) bl (by omega) b0 b1⟩
      | exact ⟨_, l', n', lim', p, r, a1, cap1, rfl, rfl, rfl, hpu, putC_set hb7 hW7 hN7 bl bl7 (Nat.le_refl _) b0 b1⟩
  case rest =>
    obtain ⟨w5, rfl⟩ : ∃ w5, w5 = wc := ⟨_, rfl⟩
    obtain ⟨g, l', n', lim', p, r, a1, cap1, rfl, rfl, rfl, hpu, hc⟩ := hcut
    have hz4 := HZ4.out
    have hgl := hc.glt
    have hgg := hc.gge
    have hsz := hc.bel.size
    have HK5 := hid (HK4.out.below hc.bel (by omega))
    have HB5 := hid (HB4.out.trans (hc.bel.mono hzw))
    have HS5 := hid (HS.out _ hc.bel)
    have HC5 := hid hc
    have HCd := hid (PutOf_any w5 w.heap.size a len cap l lim ax nx cx x (hW.below HB5.out) (by omega) HL.out (by omega) (hX.below HB5.out) HX.out hlx l' lim' p r hpu.out.2)
    rw [← hpu.out.1] at HCd
    obtain ⟨x0, x1⟩ := HK5.out
    have HPu := hid hpu.out
    clear hc hpu HS HPp HPw hz4
    go_wp2_with fail
    have hcall := HCd.out
    go_fit hcall
    clear hcall x0 x1
    rintro e w7 ⟨a2, cap2, rfl, hW7, hb7⟩
    have hz4 := HZ4.out
    have hz7 := hb7.size
    obtain ⟨w8, hw8⟩ : ∃ w8, w8 = w7.alloc (.cells #[.slice a2 n' cap2, .int .i64 lim'] 24) := ⟨_, rfl⟩
    obtain ⟨⟨g0, g1⟩, hz8, hb8⟩ := box2 w7 _ _ _ w8 hw8
    have hb78 := hb7.trans (hb8.mono (by omega))
    have HB8 := hid (HB5.out.trans (hb78.mono (by omega)))
    have HK8 := hid (HK5.out.below hb78 (by omega))
    have HW68 := hid ((HC5.out.wds.below hb78).mono (show w5.heap.size ≤ w8.heap.size by omega))
    have HW78 := hid ((hW7.below hb8).mono (show w7.heap.size ≤ w8.heap.size by omega))
    have HW48 := hid ((HW4.out.below (HC5.out.bel.trans (hb78.mono hsz))).mono (show w4.heap.size ≤ w8.heap.size by omega))
    have y0 := (hb7.cell (p := ⟨g, 0, none⟩) hgl).trans HC5.out.c0
    have y1 := (hb7.cell (p := ⟨g, 1, none⟩) hgl).trans HC5.out.c1
    have y2 := (hb78.cell (p := ⟨w3.heap.size, 0, none⟩) (by dsimp only; omega)).trans HS5.out.1
    have y3 := (hb78.cell (p := ⟨w3.heap.size, 1, none⟩) (by dsimp only; omega)).trans HS5.out.2
    have H8 := hid hw8
    have HS1 := hid (sameHeap_true w8 w8.heap.size a1 a2 n' cap1 cap2 l' lim' HW68.out HW78.out (Nat.le_refl _) HPu.out.1 (by have := HPu.out.2.len; have := HPu.out.1; omega))
    have hl5 : g < w7.heap.size := by omega
    have HZ8 := hid hz8
    clear hw8 hb7 hb8 hb78 hz4 hz8 g0 g1
    go_wp2_with fail
    rw [← H8.out]
    have hcall := HS1.out
    go_fit hcall
    clear hcall
    rintro e w9 ⟨rfl, hb9⟩
    have hz4 := HZ4.out
    have hz8 := HZ8.out
    have K9 := HK8.out.below hb9 (by omega)
    have HB9 := hid (HB8.out.trans (hb9.mono (by omega)))
    have hz9 := hb9.size
    have z2 := (hb9.cell (p := ⟨w3.heap.size, 0, none⟩) (by dsimp only; omega)).trans y2
    have z3 := (hb9.cell (p := ⟨w3.heap.size, 1, none⟩) (by dsimp only; omega)).trans y3
    have HS2 := hid (sameHeap_true w9 w9.heap.size a' a len cap' cap l lim ((HW48.out.below hb9).mono (by omega)) ((hW.below HB9.out).mono (by omega)) (Nat.le_refl _) HL.out (by omega))
    obtain ⟨x0, x1⟩ := K9
    have hzw9 : w.heap.size ≤ w9.heap.size := by omega
    clear hb9 hz4 hz8 y0 y1 y2 y3
    go_wp2_with fail
    have hcall := HS2.out
    go_fit hcall
    clear hcall
    rintro e w10 ⟨rfl, hb10⟩
    have HB10 := hid (HB9.out.trans (hb10.mono hzw9))
    go_wp2_with fail
    go_ret
    exact ⟨by simp, HB10.out⟩
set_option maxRecDepth 100000 in
theorem heapPuts_lifted (os : Os) (started : os.Started) (H : Type) (enc : TypeId × Value → H) :
    ReturnsInHanded {} Try.checked os 3 .any (Rows.heapPutsSpec.pre6 enc Try.prog Try.f3 Rows.heapPutsRow.domain false) (Rows.heapPutsSpec.post enc Try.prog Try.f3 false true false false) := by
  refine returnsInHanded_of_change_sized (C := Try.checked) own started (by kernel_rfl) Try.func3
    (ChangeSpec.witness6 (enc := enc) (C := Try.checked) false ⟨#[], #[.agg #[.slice none 0 0, .int .i64 0], .slice none 0 0], []⟩ 8 (by kernel_rfl) (by kernel_rfl) (by kernel_rfl) (by kernel_rfl)) ?_
  intro W base args ds gs before hval0 hW hcnd hsz0 _
  have hval : ∀ (j : Nat) t v, Try.f3.params[j]? = some t → args[j]? = some v → Value.okWide Try.prog W .any base t v := hval0
  have hsz : (DataW.weightsEach Try.prog (Try.f3.params.toList ++ Rows.heapPutsSpec.plain.varTypes Try.prog) (ds ++ gs)).all (· ≤ reachBytes) = true := hsz0
  have hW' := hW
  obtain ⟨p, q, hA0, hV, rfl, hfz, hnd⟩ := hW
  have hA : DataW.TrodAll enc Try.prog W 0 (fun _ => true) true Try.f3.params.toList args.toList ds p := hA0
  rw [Try.params3] at hA hval hsz
  obtain ⟨v0, vs0, d0, ds0, p0, q0, hargs0, rfl, rfl, h0, r0⟩ := trodAll_cons hA
  obtain ⟨v1, vs1, d1, ds1, p1, q1, hargs1, rfl, rfl, h1, r1⟩ := trodAll_cons r0
  obtain ⟨rfl, rfl, rfl⟩ := trodAll_nil r1
  obtain rfl : args = #[v0, v1] := by cases args; simp_all
  obtain ⟨rfl, rfl⟩ := trodVars_none hV
  have hw0 : InR Try.prog 24 d0 := fun n hn => of_decide_eq_true (List.all_eq_true.1 hsz n (DataW.weights_mem_each (j := 0) rfl rfl n hn))
  have k0 := h0
  have lt0 : ∀ x ∈ p0, x.block < W.heap.size := by obtain ⟨m, hm⟩ := k0; exact DataW.trod_lt m _ _ _ hm
  obtain ⟨u00, u01, y00, y01, m0, rfl, hd0, hp0, t00, t01⟩ := Joins.open_agg2 Try.underlying24 (by kernel_rfl) cellsHp (hval 0 24 v0 rfl rfl) h0
  subst hd0
  obtain ⟨a0, cap0, l0, rfl, gc0, gm0, hWd0, hwf0, gb0⟩ := wds_ofR t00 (hw0.field Try.underlying24 (j := 0) rfl rfl)
  obtain ⟨lim0, e0, _, _⟩ := DataW.trod_int Try.underlying3 t01
  simp at e0
  subst e0
  have gz0 : l0.length ≤ 4398046511104 := by omega
  have hw1 : InR Try.prog 22 d1 := fun n hn => of_decide_eq_true (List.all_eq_true.1 hsz n (DataW.weights_mem_each (j := 1) rfl rfl n hn))
  have k1 := h1
  have lt1 : ∀ x ∈ p1, x.block < W.heap.size := by obtain ⟨m, hm⟩ := k1; exact DataW.trod_lt m _ _ _ hm
  obtain ⟨a1, cap1, l1, rfl, gc1, gm1, hWd1, hwf1, gb1⟩ := wds_inR (hval 1 22 v1 rfl rfl) h1 hw1
  have gz1 : l1.length ≤ 4398046511104 := by omega
  clear hA0 hval0 hsz0 hsz
  refine (puts_walk a0 l0 l0.length cap0 lim0 a1 l1 l1.length cap1 W rfl gz0 hWd0 hwf0 rfl gz1 hWd1 hwf1).mono fun e W' ⟨he, bel⟩ => ?_
  subst he
  exact ⟨_, rfl, _, _, _, [], _, [], hW', trodAll_mk1 (shut_bool Try.underlying4 _), (trodAll_cons_mk (Below.trod laidOut (by kernel_rfl) (of_decide_eq_true (by kernel_rfl)) k0 bel lt0) (trodAll_cons_mk (Below.trod laidOut (by kernel_rfl) (of_decide_eq_true (by kernel_rfl)) k1 bel lt1) trodAll_mk0)), rfl, bel.frame _, fun h => by cases h⟩
theorem heapPuts_holds : Rows.HeapPutsSaid :=
  OpenClaim.holds_of_wide 3 Try.f3 rfl rfl rfl rfl rfl rfl rfl ⟨rfl, rfl, rfl, rfl, rfl⟩ rfl rfl rfl rfl rfl (by kernel_rfl) Try.func3 (by kernel_rfl)
    (of_decide_eq_true (by kernel_rfl)) (by unfold Func.isWrapper; first | (rw [if_pos (by decide +kernel)]; kernel_rfl) | (rw [if_neg (by decide +kernel)]; exact ⟨rfl, rfl⟩))
    (fun os started H enc _ => heapPuts_lifted os started H enc)
#print axioms heapPuts_holds
end Go.Proofs.Ytiiiockogcopaaa

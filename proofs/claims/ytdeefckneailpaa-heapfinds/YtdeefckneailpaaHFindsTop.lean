/- heap.Find answers at every heap and every word what P3.5 says: HeapFinds returns true for every heap and word that can be read, and leaves them as they were. No condition. -/
import Derived.Test.YtdeefckneailpaaRows
import Derived.Test.YtdeefckneailpaaHChecks
import Derived.Test.YtdeefckneailpaaHFound
import Derived.Test.YtdeefckneailpaaHKeep
import Derived.Test.YtdeefckneailpaaHFull
import Derived.Deep.DeepCutAuto
namespace Go.Proofs.Ytdeefckneailpaa
set_option maxRecDepth 100000
open Go.ChangeShapes Go.WideShapes Go.ChangeAt Go.RowKit
set_option maxHeartbeats 2000000 in
theorem finds_walk (a : Option Addr) (l : List Wd) (len cap : Nat) (lim k n : Int) (s : ByteArray) (w : World) (hlen : len = l.length) (hl : len ≤ 4398046511104) (hW : Wds w w.heap.size a l) (hwf : wfL l) (hn : wfI n) (hs : s.size ≤ 9223372036854775807) :
    Calls Try.prog 5 #[.agg #[.slice a len cap, .int .i64 lim], .agg #[.int .i64 k, .int .i64 n, .string s]] w fun e w' => e = .returned (.bool true) ∧ Below w.heap.size w w' := by
  have HL := hid hlen
  clear hlen
  obtain ⟨w2, hw2⟩ : ∃ w2, w2 = (w.alloc (.cells #[.slice a len cap, .int .i64 lim] 24)).alloc (.cells #[.int .i64 k, .int .i64 n, .string s] 30) := ⟨_, rfl⟩
  have hb2 : Below w.heap.size w w2 := by rw [hw2]; exact below_2 _ _ _
  have hz2 : w2.heap.size = w.heap.size + 2 := by rw [hw2]; simp
  have tt : (w2.cell? ⟨w.heap.size, 0, none⟩ = some (.slice a len cap) ∧ w2.cell? ⟨w.heap.size, 1, none⟩ = some (.int .i64 lim)) ∧ w2.cell? ⟨w.heap.size + 1, 0, none⟩ = some (.int .i64 k) ∧ w2.cell? ⟨w.heap.size + 1, 1, none⟩ = some (.int .i64 n) ∧ w2.cell? ⟨w.heap.size + 1, 2, none⟩ = some (.string s) := by
    rw [hw2]; refine ⟨⟨?_, ?_⟩, ?_, ?_, ?_⟩ <;> go_simp
  obtain ⟨⟨y0, y1⟩, y2, y3, y4⟩ := tt
  have HC := hid (fun w' (hb : Below w2.heap.size w2 w') => (heaps_any w' w.heap.size a len cap l lim (hW.below (hb2.trans (hb.mono (by omega)))) (by have := hb.size; omega) HL.out hl).mono (fun e w'' (h : ∃ a' cap', e = .returned (.agg #[.slice a' len cap', .int .i64 lim]) ∧ len ≤ cap' ∧ Below w'.heap.size w' w'' ∧ Wds w'' w''.heap.size a' l ∧ NewAt w'.heap.size a') => (by
    obtain ⟨a', cap', h1, h2, h3, h4, _⟩ := h
    exact ⟨a', cap', h1, h2, hb.trans (h3.mono hb.size), (hb.trans (h3.mono hb.size)).size, h4, h3⟩ : ∃ a' cap', e = .returned (.agg #[.slice a' len cap', .int .i64 lim]) ∧ len ≤ cap' ∧ Below w2.heap.size w2 w'' ∧ w2.heap.size ≤ w''.heap.size ∧ Wds w'' w''.heap.size a' l ∧ Below w'.heap.size w' w'')))
  have HF := hid (fun w' a' cap' (hb : Below w2.heap.size w2 w') (hc : len ≤ cap') (hW' : Wds w' w'.heap.size a' l) => (Find_any w' w'.heap.size a' len cap' l lim k n s hW' (Nat.le_refl _) HL.out hc (by omega) hwf hn hs).mono (fun e w'' (h : ∃ k' n' s' r, e = .returned (.tuple #[.agg #[.int .i64 k', .int .i64 n', .string s'], .int .i64 r]) ∧ FdI lim l k n s k' n' s' r ∧ Below w'.heap.size w' w'') => (by
    obtain ⟨k', n', s', r, h1, h2, h3⟩ := h
    exact ⟨k', n', s', r, h1, h2, hb.trans (h3.mono hb.size), (hb.trans (h3.mono hb.size)).size, h3⟩ : ∃ k' n' s' r, e = .returned (.tuple #[.agg #[.int .i64 k', .int .i64 n', .string s'], .int .i64 r]) ∧ FdI lim l k n s k' n' s' r ∧ Below w2.heap.size w2 w'' ∧ w2.heap.size ≤ w''.heap.size ∧ Below w'.heap.size w' w'')))
  have H2 := hid hw2
  have HB2 := hid hb2
  clear hw2 hb2
  have HS := hid (fun w' (hb : Below w2.heap.size w2 w') => (⟨hb, (hb.cell (p := ⟨w.heap.size, 0, none⟩) (by dsimp only; omega)).trans y0, (hb.cell (p := ⟨w.heap.size, 1, none⟩) (by dsimp only; omega)).trans y1, (hb.cell (p := ⟨w.heap.size + 1, 0, none⟩) (by dsimp only; omega)).trans y2, (hb.cell (p := ⟨w.heap.size + 1, 1, none⟩) (by dsimp only; omega)).trans y3, (hb.cell (p := ⟨w.heap.size + 1, 2, none⟩) (by dsimp only; omega)).trans y4⟩ :
    Below w2.heap.size w2 w' ∧ w'.cell? ⟨w.heap.size, 0, none⟩ = some (.slice a len cap) ∧ w'.cell? ⟨w.heap.size, 1, none⟩ = some (.int .i64 lim) ∧ w'.cell? ⟨w.heap.size + 1, 0, none⟩ = some (.int .i64 k) ∧ w'.cell? ⟨w.heap.size + 1, 1, none⟩ = some (.int .i64 n) ∧ w'.cell? ⟨w.heap.size + 1, 2, none⟩ = some (.string s)))
  have HZ2 := hid hz2
  clear hz2
  go_enter Try.func5, Try.ntmps5
  go_wp2_with fail
  rw [← H2.out]
  clear y0 y1 y2 y3 y4
  go_cut [5, 6] (fun x y wx => ∃ g k' n' s' r, x = .pointer (some ⟨g, 0, none⟩) ∧ y = .int .i64 r ∧ FdI lim l k n s k' n' s' r ∧ Below w2.heap.size w2 wx ∧ g < wx.heap.size ∧ wx.cell? ⟨g, 0, none⟩ = some (.int .i64 k') ∧ wx.cell? ⟨g, 1, none⟩ = some (.int .i64 n') ∧ wx.cell? ⟨g, 2, none⟩ = some (.string s'))
  case first =>
    go_region_held3 (fun w' => Below w2.heap.size w2 w' ∧ w'.cell? ⟨w.heap.size, 0, none⟩ = some (.slice a len cap) ∧ w'.cell? ⟨w.heap.size, 1, none⟩ = some (.int .i64 lim) ∧ w'.cell? ⟨w.heap.size + 1, 0, none⟩ = some (.int .i64 k) ∧ w'.cell? ⟨w.heap.size + 1, 1, none⟩ = some (.int .i64 n) ∧ w'.cell? ⟨w.heap.size + 1, 2, none⟩ = some (.string s))
      ((refine HS.out _ ?_; repeat (first | exact bdrew (Below.refl _ _) 1 | exact bdrew ((Below.refl _ _).alloc (Nat.le_refl _) _) 1 | assumption | refine below_set3s ?_ (by first | exact Nat.le_refl _ | assumption | (simp; omega)) | refine Below.alloc ?_ (by first | exact Nat.le_refl _ | assumption | (simp; omega)) _)))
      (first
      | (go_at_call 9; refine (HC.out _ (by repeat (first | exact bdrew (Below.refl _ _) 1 | exact bdrew ((Below.refl _ _).alloc (Nat.le_refl _) _) 1 | assumption | refine Below.alloc ?_ (by first | exact Nat.le_refl _ | assumption | (simp; omega)) _))).mono ?_; rintro e w3 ⟨a', cap', rfl, hc3, hb3, hz3, hW3, hb3'⟩; first | (have bx := box_kept w2.heap.size rfl (undrew hb3'); have HBX := hid bx; obtain ⟨⟨bx0, bx1, bx2⟩, ⟨bf0, bf1, bf2⟩, bxl⟩ := bx) | skip)
      | (go_at_call 13; refine (HF.out _ a' cap' (by repeat (first | assumption | refine Below.alloc ?_ (by first | exact Nat.le_refl _ | assumption | (simp; omega)) _)) hc3 (by first | exact hW3 | exact (hW3.below ((Below.refl _ _).alloc (Nat.le_refl _) _)).mono (by simp))).mono ?_; rintro e w4 ⟨k', n', s', r, rfl, hr, hb4, hz4, hb4'⟩; first | (have bx := box_kept w3.heap.size rfl hb4'; obtain ⟨⟨bx0, bx1, bx2⟩, ⟨bf0, bf1, bf2⟩, bxl⟩ := bx) | (have bx := box_still HBX.out hb4'; obtain ⟨⟨bx0, bx1, bx2⟩, ⟨bf0, bf1, bf2⟩, bxl⟩ := bx) | skip))
    all_goals (go_wp2_with fail; go_meet)
    all_goals refine ⟨_, k', n', s', r, rfl, rfl, hr, ?_, ?_, ?_, ?_, ?_⟩
    all_goals first
      | exact hb4.alloc hz4 _
      | exact below_set3s hb4 hz3
      | exact below_set3s hb4 (Nat.le_refl _)
      | (simp; done)
      | (simp; exact bxl)
      | (go_simp; done)
      | simp [go_sem, bx0, bx1, bx2]
  case rest =>
    obtain ⟨g, k', n', s', r, rfl, rfl, hr, hbc, hgl, c0, c1, c2⟩ := hcut
    obtain ⟨_, x0, x1, x2, x3, x4⟩ := HS.out wc hbc
    have HR := hid hr
    have hB3 := hid (HB2.out.trans (hbc.mono (by have := HZ2.out; omega)))
    have hcall := FoundOf_any wc w.heap.size a len cap l lim k n s (hW.below hB3.out) (by have := hbc.size; have := HZ2.out; omega) HL.out (by omega) k' n' s' r HR.out
    have HC2 := hid hcall
    have hz3 := hbc.size
    have HG := hid (show w.heap.size + 2 ≤ wc.heap.size by have := HZ2.out; omega)
    clear hcall hr hbc
    go_wp2_with fail
    have hcall := HC2.out
    go_fit hcall
    clear hcall
    rintro e w5 ⟨rfl, hb5⟩
    have hB5 := hid (hB3.out.trans (hb5.mono (by have := HG.out; omega)))
    have d0 := (hb5.cell (p := ⟨g, 0, none⟩) hgl).trans c0
    have d1 := (hb5.cell (p := ⟨g, 1, none⟩) hgl).trans c1
    have d2 := (hb5.cell (p := ⟨g, 2, none⟩) hgl).trans c2
    have hgl5 : g < w5.heap.size := by have := hb5.size; omega
    clear hb5 x0 x1 x2 x3 x4 c0 c1 c2
    go_wp2_with fail
    go_ret
    exact ⟨by simp, hB5.out.alloc hB5.out.size _⟩
set_option maxRecDepth 100000 in
theorem heapFinds_lifted (os : Os) (started : os.Started) (H : Type) (enc : TypeId × Value → H) :
    ReturnsInHanded {} Try.checked os 5 .any (Rows.heapFindsSpec.pre6 enc Try.prog Try.f5 Rows.heapFindsRow.domain false) (Rows.heapFindsSpec.post enc Try.prog Try.f5 false true false false) := by
  refine returnsInHanded_of_change_sized (C := Try.checked) own started (by kernel_rfl) Try.func5
    (ChangeSpec.witness6 (enc := enc) (C := Try.checked) false ⟨#[], #[.agg #[.slice none 0 0, .int .i64 0], .agg #[.int .i64 0, .int .i64 0, .string ⟨#[]⟩]], []⟩ 8 (by kernel_rfl) (by kernel_rfl) (by kernel_rfl) (by kernel_rfl)) ?_
  intro W base args ds gs before hval0 hW hcnd hsz0 _
  have hval : ∀ (j : Nat) t v, Try.f5.params[j]? = some t → args[j]? = some v → Value.okWide Try.prog W .any base t v := hval0
  have hsz : (DataW.weightsEach Try.prog (Try.f5.params.toList ++ Rows.heapFindsSpec.plain.varTypes Try.prog) (ds ++ gs)).all (· ≤ reachBytes) = true := hsz0
  have hW' := hW
  obtain ⟨p, q, hA0, hV, rfl, hfz, hnd⟩ := hW
  have hA : DataW.TrodAll enc Try.prog W 0 (fun _ => true) true Try.f5.params.toList args.toList ds p := hA0
  rw [Try.params5] at hA hval hsz
  obtain ⟨v0, vs0, d0, ds0, p0, q0, hargs0, rfl, rfl, h0, r0⟩ := trodAll_cons hA
  obtain ⟨v1, vs1, d1, ds1, p1, q1, hargs1, rfl, rfl, h1, r1⟩ := trodAll_cons r0
  obtain ⟨rfl, rfl, rfl⟩ := trodAll_nil r1
  obtain rfl : args = #[v0, v1] := by cases args; simp_all
  obtain ⟨rfl, rfl⟩ := trodVars_none hV
  have hw0 : InR Try.prog 24 d0 := fun n hn => of_decide_eq_true (List.all_eq_true.1 hsz n (DataW.weights_mem_each (j := 0) rfl rfl n hn))
  have k0 := h0
  have lt0 : ∀ x ∈ p0, x.block < W.heap.size := by obtain ⟨m, hm⟩ := k0; exact DataW.trod_lt m _ _ _ hm
  obtain ⟨u00, u01, y00, y01, m0, rfl, hd0, hp0, t00, t01⟩ := Joins.open_agg2 Try.underlying24 (by kernel_rfl) cellsHp (hval 0 24 v0 rfl rfl) h0
  subst hd0
  obtain ⟨a0, cap0, l0, rfl, gc0, gm0, hWd0, hwf0, gb0⟩ := wds_ofR t00 (hw0.field Try.underlying24 (j := 0) rfl rfl)
  obtain ⟨lim0, e0, _, _⟩ := DataW.trod_int Try.underlying3 t01
  simp at e0
  subst e0
  have gz0 : l0.length ≤ 4398046511104 := by omega
  have k1 := h1
  have lt1 : ∀ x ∈ p1, x.block < W.heap.size := by obtain ⟨m, hm⟩ := k1; exact DataW.trod_lt m _ _ _ hm
  obtain ⟨z10, z11, z12, x10, x11, x12, m1, rfl, hd1, hp1, s10, s11, s12⟩ := Joins.open_agg3 Try.underlying30 (by kernel_rfl) cellsWd (hval 1 30 v1 rfl rfl) h1
  obtain ⟨k1k, ek1, _, _⟩ := DataW.trod_int Try.underlying3 s10
  obtain ⟨n1, en1, _, hn1⟩ := DataW.trod_int Try.underlying3 s11
  obtain ⟨s1, es1, _, hs1⟩ := DataW.trod_string Try.underlying9 s12
  simp at ek1 en1 es1
  subst ek1 en1 es1
  clear hA0 hval0 hsz0 hsz
  refine (finds_walk a0 l0 l0.length cap0 lim0 k1k n1 s1 W rfl gz0 hWd0 hwf0 hn1 (by unfold maxLen at hs1; omega)).mono fun e W' ⟨he, bel⟩ => ?_
  subst he
  exact ⟨_, rfl, _, _, _, [], _, [], hW', trodAll_mk1 (shut_bool Try.underlying4 _), (trodAll_cons_mk (Below.trod laidOut (by kernel_rfl) (of_decide_eq_true (by kernel_rfl)) k0 bel lt0) (trodAll_cons_mk (Below.trod laidOut (by kernel_rfl) (of_decide_eq_true (by kernel_rfl)) k1 bel lt1) trodAll_mk0)), rfl, bel.frame _, fun h => by cases h⟩
theorem heapFinds_holds : Rows.HeapFindsSaid :=
  OpenClaim.holds_of_wide 5 Try.f5 rfl rfl rfl rfl rfl rfl rfl ⟨rfl, rfl, rfl, rfl, rfl⟩ rfl rfl rfl rfl rfl (by kernel_rfl) Try.func5 (by kernel_rfl)
    (of_decide_eq_true (by kernel_rfl)) (by unfold Func.isWrapper; first | (rw [if_pos (by decide +kernel)]; kernel_rfl) | (rw [if_neg (by decide +kernel)]; exact ⟨rfl, rfl⟩))
    (fun os started H enc _ => heapFinds_lifted os started H enc)
#print axioms heapFinds_holds
end Go.Proofs.Ytdeefckneailpaa

/- A part that is changed: heap's Change. -/
import Derived.Test.YtfjfobpdlmdddaaHClone
import Derived.Test.YtfjfobpdlmdddaaHPart2
namespace Go.Proofs.Ytfjfobpdlmdddaa
set_option maxRecDepth 100000
open Go.RowKit Go.Maps
/-- Four boxes in a row: a heap, two words, a heap that is filled in the end. -/
structure ChB (W : World) (g : Nat) (x0 x1 t0 t1 t2 v0 v1 v2 r0 r1 : Value) : Prop where
  x0 : W.cell? ⟨g, 0, none⟩ = some x0
  x1 : W.cell? ⟨g, 1, none⟩ = some x1
  t0 : W.cell? ⟨g + 1, 0, none⟩ = some t0
  t1 : W.cell? ⟨g + 1, 1, none⟩ = some t1
  t2 : W.cell? ⟨g + 1, 2, none⟩ = some t2
  v0 : W.cell? ⟨g + 2, 0, none⟩ = some v0
  v1 : W.cell? ⟨g + 2, 1, none⟩ = some v1
  v2 : W.cell? ⟨g + 2, 2, none⟩ = some v2
  r0 : W.cell? ⟨g + 3, 0, none⟩ = some r0
  r1 : W.cell? ⟨g + 3, 1, none⟩ = some r1
  f0 : W.frozen? ⟨g + 3, 0, none⟩ = false
  f1 : W.frozen? ⟨g + 3, 1, none⟩ = false
theorem ChB.below {W W' : World} {g N : Nat} {x0 x1 t0 t1 t2 v0 v1 v2 r0 r1 : Value} (h : ChB W g x0 x1 t0 t1 t2 v0 v1 v2 r0 r1) (hb : Below N W W') (hN : g + 4 ≤ N) : ChB W' g x0 x1 t0 t1 t2 v0 v1 v2 r0 r1 := by
  have c : ∀ b o, b < g + 4 → W'.cell? ⟨b, o, none⟩ = W.cell? ⟨b, o, none⟩ := fun b o hb' => hb.cell (p := ⟨b, o, none⟩) (by dsimp only; omega)
  have f : ∀ b o, b < g + 4 → W'.frozen? ⟨b, o, none⟩ = W.frozen? ⟨b, o, none⟩ := fun b o hb' => hb.frozen (p := ⟨b, o, none⟩) (by dsimp only; omega)
  exact ⟨(c _ _ (by omega)).trans h.x0, (c _ _ (by omega)).trans h.x1, (c _ _ (by omega)).trans h.t0, (c _ _ (by omega)).trans h.t1, (c _ _ (by omega)).trans h.t2, (c _ _ (by omega)).trans h.v0, (c _ _ (by omega)).trans h.v1, (c _ _ (by omega)).trans h.v2, (c _ _ (by omega)).trans h.r0, (c _ _ (by omega)).trans h.r1, (f _ _ (by omega)).trans h.f0, (f _ _ (by omega)).trans h.f1⟩
theorem chB_born (w : World) (x0 x1 t0 t1 t2 v0 v1 v2 r0 r1 : Value) (a1 a2 a3 a4 : TypeId) (W : World) (hW : W = (((w.alloc (.cells #[x0, x1] a1)).alloc (.cells #[t0, t1, t2] a2)).alloc (.cells #[v0, v1, v2] a3)).alloc (.cells #[r0, r1] a4)) :
    ChB W w.heap.size x0 x1 t0 t1 t2 v0 v1 v2 r0 r1 ∧ W.heap.size = w.heap.size + 4 ∧ Below w.heap.size w W := by
  subst hW
  refine ⟨⟨?_, ?_, ?_, ?_, ?_, ?_, ?_, ?_, ?_, ?_, ?_, ?_⟩, by simp, (below_3 _ _ _ _).alloc (by simp; omega) _⟩ <;> go_simp
/-- What Change tells. -/
def ChI (lim : Int) (l : List Wd) (k n : Int) (s : ByteArray) (i : Int) (x : Wd) (l' : List Wd) (lim' r : Int) : Prop :=
  (∃ acc ms, OkC lim l acc ms ∧ valB (plOf acc) k n s = true ∧ ∃ y r0, PrI l ms k n i y r0 ∧
    ((¬ r0 = 0 ∧ l' = [] ∧ lim' = 0 ∧ r = r0) ∨ (r0 = 0 ∧ valB (plOf acc) x.k x.n x.s = false ∧ l' = [] ∧ lim' = 0 ∧ r = 3) ∨ (r0 = 0 ∧ valB (plOf acc) x.k x.n x.s = true ∧ lim' = lim ∧ r = 0 ∧ ∃ q : Nat, q < l.length ∧ y = q ∧ l' = l.set q x))) ∨
  (l' = [] ∧ lim' = 0 ∧ ((r = 3 ∧ ∃ acc ms, OkC lim l acc ms ∧ valB (plOf acc) k n s = false) ∨ (r = 9 ∧ BadC lim l)))
theorem below_set2s {B g : Nat} {a w : World} (h : Below B a w) (hg : B ≤ g) {x0 x1 : Value} : Below B a ((w.setCell ⟨g, 0, none⟩ x0).setCell ⟨g, 1, none⟩ x1) :=
  (h.setCell (p := ⟨g, 0, none⟩) hg _).setCell (p := ⟨g, 1, none⟩) hg _
theorem wds_nil (w : World) (B : Nat) (a : Option Addr) : Wds w B a [] := fun i hi => absurd hi (by simp)
theorem wds_past {w : World} {B bb o g : Nat} {l : List Wd} (h : Wds w B (some ⟨bb, o, none⟩) l) (hB : B ≤ w.heap.size) (hne : ¬ bb = g) (x0 x1 : Value) : Wds ((w.setCell ⟨g, 0, none⟩ x0).setCell ⟨g, 1, none⟩ x1) ((w.setCell ⟨g, 0, none⟩ x0).setCell ⟨g, 1, none⟩ x1).heap.size (some ⟨bb, o, none⟩) l := by
  refine h.kept (by simpa using hB) (fun A hA => ?_)
  injection hA with hA
  subst hA
  rw [Below.heap_setCell _ _ _ _ hne, Below.heap_setCell _ _ _ _ hne]
set_option maxHeartbeats 4000000 in
theorem Change_any (w : World) (B : Nat) (a : Option Addr) (len cap : Nat) (l : List Wd) (lim : Int) (k n : Int) (s : ByteArray) (i k2 n2 : Int) (s2 : ByteArray) (hW : Wds w B a l) (hB : B ≤ w.heap.size) (hlen : len = l.length) (hcap : len ≤ cap) (hl : len ≤ 9223372036854775807) (hwf : wfL l) (hn : wfI n) (hs : s.size ≤ 9223372036854775807) (hn2 : wfI n2) (hs2 : s2.size ≤ 9223372036854775807) :
    Calls Try.prog 22 #[.agg #[.slice a len cap, .int .i64 lim], .agg #[.int .i64 k, .int .i64 n, .string s], .int .i64 i, .agg #[.int .i64 k2, .int .i64 n2, .string s2]] w fun e w' => ∃ l' lim' r a' cap', e = .returned (.tuple #[.agg #[.slice a' (List.length l') cap', .int .i64 lim'], .int .i64 r]) ∧ ChI lim l k n s i ⟨k2, n2, s2⟩ l' lim' r ∧ l'.length ≤ cap' ∧ Wds w' w'.heap.size a' l' ∧ Below w.heap.size w w' := by
  have HL := hid hlen
  clear hlen
  obtain ⟨w2, hw2⟩ : ∃ w2, w2 = (((w.alloc (.cells #[.slice a len cap, .int .i64 lim] 24)).alloc (.cells #[.int .i64 k, .int .i64 n, .string s] 37)).alloc (.cells #[.int .i64 k2, .int .i64 n2, .string s2] 37)).alloc (.cells #[.slice none 0 0, .int .i64 0] 24) := ⟨_, rfl⟩
  obtain ⟨hbx, hz2, hb2⟩ := chB_born w _ _ _ _ _ _ _ _ _ _ _ _ _ _ w2 hw2
  have hone := wds_one w2 k n s 37
  obtain ⟨w3, hw3⟩ : ∃ w3, w3 = w2.alloc (.cells #[.int .i64 k, .int .i64 n, .string s] 37) := ⟨_, rfl⟩
  have hb3 : Below w2.heap.size w2 w3 := by rw [hw3]; exact (Below.refl _ _).alloc (Nat.le_refl _) _
  have hz3 : w3.heap.size = w.heap.size + 5 := by rw [hw3]; simp [hz2]
  rw [← hw3, hz2] at hone
  have hB3 := hid (hb2.trans (hb3.mono (by omega)))
  have hcall := chartFor_any w3 (w.heap.size + 5) a len cap l lim ((hW.below (hB3.out.mono hB)).mono (by omega)) (by omega) HL.out hcap hl hwf (some ⟨w.heap.size + 4, 0, none⟩) 1 1 [⟨k, n, s⟩] hone rfl (by omega) (fun i hi => by
    have : i = 0 := by simp at hi; omega
    subst this; exact ⟨hn, hs⟩)
  have HC := hid hcall
  have H2 := hid hw2
  have H3 := hid hw3
  have HK := hid (hbx.below hb3 (by omega))
  clear hcall hone hw2 hw3 hb2 hb3 hz2
  go_enter Try.func22, Try.ntmps22
  go_wp2_with fail
  rw [← H2.out, ← H3.out]
  clear hbx
  have hcall := HC.out
  go_fit hcall
  clear hcall
  rintro e w4 ⟨hb4, ⟨v, acc, pb, mb, ms, rfl, hok, hall, hV⟩ | ⟨rfl, acc, ms, hok, hall⟩ | ⟨rfl, hbad⟩⟩
  · obtain ⟨av, capv, hv, _, _⟩ := hV.row.cells
    subst hv
    have hvb : valB (plOf acc) k n s = true := by rw [← allB_one]; exact hall
    have hB4 := hid (hB3.out.trans (hb4.mono (by omega)))
    have K4 := HK.out.below hb4 (by omega)
    have hz4 := hb4.size
    clear hb4
    have CB := ChartV.box (len := len) (cap := cap) hV 58
    obtain ⟨w5, hw5⟩ : ∃ w5, w5 = w4.alloc (.cells #[.slice a len cap, .slice av acc.length capv, .map (some pb), .map (some mb)] 58) := ⟨_, rfl⟩
    rw [← hw5] at CB
    have hb5 : Below w4.heap.size w4 w5 := by rw [hw5]; exact (Below.refl _ _).alloc (Nat.le_refl _) _
    have H5 := hid hw5
    have HK5 := hid (K4.below hb5 (by omega))
    have hl0 : w.heap.size < w4.heap.size := by omega
    have hl1 : w.heap.size + 1 < w4.heap.size := by omega
    have hl2 : w.heap.size + 2 < w4.heap.size := by omega
    have hl3 : w.heap.size + 3 < w4.heap.size := by omega
    have hz5 := hb5.size
    have hB5 := hid (hB4.out.trans (hb5.mono (by omega)))
    obtain ⟨x0, x1, t0, t1, t2, v0, v1, v2, r0, r1, f0, f1⟩ := K4
    clear hw5 hb5
    go_wp2_with fail
    rw [← H5.out]
    have hcall := part_any w5 _ w4.heap.size a len cap l lim _ acc pb mb ms CB hok k n s hn (fun h5 => (val_ref hvb h5).2) i
    go_fit hcall
    clear hcall
    rintro e w6 ⟨y, r, rfl, hpr, hb6⟩
    have HK6 := hid (HK5.out.below hb6 (by omega))
    have C6 := CB.below hb6
    have hB6 := hid (hB5.out.trans (hb6.mono (by omega)))
    have hz6 := hb6.size
    clear hb6 x0 x1 t0 t1 t2 v0 v1 v2 r0 r1 f0 f1 HK5
    by_cases hr : r = 0
    · subst hr
      have HCv := hid (isValue_any w6 _ w4.heap.size a len cap l _ acc pb mb ms C6 k2 n2 s2 hn2 hs2)
      have HX := hid (fun l' lim' r (h : (valB (plOf acc) k2 n2 s2 = false ∧ l' = [] ∧ lim' = 0 ∧ r = 3) ∨ (valB (plOf acc) k2 n2 s2 = true ∧ lim' = lim ∧ r = 0 ∧ ∃ q : Nat, q < l.length ∧ y = q ∧ l' = l.set q ⟨k2, n2, s2⟩)) => (show ChI lim l k n s i ⟨k2, n2, s2⟩ l' lim' r from Or.inl ⟨acc, ms, hok, hvb, y, 0, hpr, Or.inr (h.imp (fun h => ⟨rfl, h⟩) (fun h => ⟨rfl, h⟩))⟩))
      obtain ⟨q, hq, rfl⟩ := hpr.inl
      have hl6 : len ≤ 60000 := by have := hok.hi; have := hok.room; have := HL.out; omega
      obtain ⟨x0, x1, t0, t1, t2, v0, v1, v2, r0, r1, f0, f1⟩ := HK6.out
      clear CB C6 hpr hok
      go_wp2_with fail
      have hcall := HCv.out
      go_fit hcall
      clear hcall
      rintro e w7 ⟨rfl, hb7⟩
      have HK7 := hid (HK6.out.below hb7 (by omega))
      have hB7 := hid (hB6.out.trans (hb7.mono (by omega)))
      have hz7 := hb7.size
      clear hb7 x0 x1 t0 t1 t2 v0 v1 v2 r0 r1 f0 f1
      obtain ⟨x0, x1, t0, t1, t2, v0, v1, v2, r0, r1, f0, f1⟩ := HK7.out
      cases hv2 : valB (plOf acc) k2 n2 s2
      · have HY := hid (HX.out [] 0 3 (Or.inl ⟨hv2, rfl, rfl, rfl⟩))
        go_wp2_with fail
        refine bodyPost_ret (v := .tuple #[.agg #[.slice none 0 0, .int .i64 0], .int .i64 3]) (by simp [results, Try.results22, go_sem, r0, r1]) rfl ⟨[], 0, 3, none, 0, rfl, HY.out, Nat.le_refl _, wds_nil _ _ _, below_set2s hB7.out (by omega)⟩
      · have HY := hid (HX.out (l.set q ⟨k2, n2, s2⟩) lim 0 (Or.inr ⟨hv2, rfl, rfl, q, hq, rfl, rfl⟩))
        have HCc := hid (Clone_any w7 B a len cap l (hW.below (hB7.out.mono hB)) (by omega) HL.out (by omega))
        go_wp2_with fail
        have hcall := HCc.out
        go_fit hcall
        clear hcall
        rintro e w8 ⟨a', cap', rfl, hc8, hF8⟩
        have HK8 := hid (HK7.out.below hF8.bel (by omega))
        have hB8 := hid (hB7.out.trans (hF8.bel.mono (by omega)))
        have hz8 := hF8.bel.size
        clear x0 x1 t0 t1 t2 v0 v1 v2 r0 r1 f0 f1
        obtain ⟨x0, x1, t0, t1, t2, v0, v1, v2, r0, r1, f0, f1⟩ := HK8.out
        obtain ⟨bb, o, rfl, hbb, d0, d1, d2⟩ := hF8.wds q hq
        have hnew : w7.heap.size ≤ bb := hF8.new _ rfl
        have e0 : w8.frozen? ⟨bb, o + q * 3, none⟩ = false := hF8.free _ rfl (q * 3) (by omega)
        have e1 : w8.frozen? ⟨bb, o + q * 3 + 1, none⟩ = false := hF8.free _ rfl (q * 3 + 1) (by omega)
        have e2 : w8.frozen? ⟨bb, o + q * 3 + 2, none⟩ = false := hF8.free _ rfl (q * 3 + 2) (by omega)
        have HP0 := hid (hF8.wds.put hq ⟨k2, n2, s2⟩)
        have hq2 : (q : Int) < len := by have := HL.out; omega
        have hd0 : ¬ bb = w.heap.size := by omega
        have hd1 : ¬ bb = w.heap.size + 1 := by omega
        have hd2 : ¬ bb = w.heap.size + 2 := by omega
        have hd3 : ¬ bb = w.heap.size + 3 := by omega
        have HP := hid (wds_past (g := w.heap.size + 3) HP0.out (by simp) hd3 (.slice (some ⟨bb, o, none⟩) len cap') (.int .i64 lim))
        have HBB := hid (below_set2s (g := w.heap.size + 3) (((hB8.out.setCell (p := ⟨bb, o + q * 3, none⟩) (by dsimp only; omega) (.int .i64 k2)).setCell (p := ⟨bb, o + q * 3 + 1, none⟩) (by dsimp only; omega) (.int .i64 n2)).setCell (p := ⟨bb, o + q * 3 + 2, none⟩) (by dsimp only; omega) (.string s2)) (by omega) (x0 := .slice (some ⟨bb, o, none⟩) len cap') (x1 := .int .i64 lim))
        clear hF8 HP0
        generalize l[q].k = ok at d0
        generalize l[q].n = on at d1
        generalize l[q].s = os at d2
        go_wp2_with fail
        refine bodyPost_ret (v := .tuple #[.agg #[.slice (some ⟨bb, o, none⟩) len cap', .int .i64 lim], .int .i64 0]) (by simp [results, Try.results22, go_sem, r0, r1]) rfl ⟨l.set q ⟨k2, n2, s2⟩, lim, 0, some ⟨bb, o, none⟩, cap', by rw [List.length_set, ← HL.out], HY.out, by rw [List.length_set, ← HL.out]; exact hc8, ?_, ?_⟩
        · exact HP.out
        · exact HBB.out
    · have hrb : (r != 0) = true := by simp [hr]
      have HY := hid (show ChI lim l k n s i ⟨k2, n2, s2⟩ [] 0 r from Or.inl ⟨acc, ms, hok, hvb, y, r, hpr, Or.inl ⟨hr, rfl, rfl, rfl⟩⟩)
      obtain ⟨x0, x1, t0, t1, t2, v0, v1, v2, r0, r1, f0, f1⟩ := HK6.out
      clear CB C6 hpr hok
      go_wp2_with fail
      refine bodyPost_ret (v := .tuple #[.agg #[.slice none 0 0, .int .i64 0], .int .i64 r]) (by simp [results, Try.results22, go_sem, r0, r1]) rfl ⟨[], 0, r, none, 0, rfl, HY.out, Nat.le_refl _, wds_nil _ _ _, below_set2s hB6.out (by omega)⟩
  · have HY := hid (show ChI lim l k n s i ⟨k2, n2, s2⟩ [] 0 3 from Or.inr ⟨rfl, rfl, Or.inl ⟨rfl, acc, ms, hok, by rw [← allB_one]; exact hall⟩⟩)
    have hB4 := hid (hB3.out.trans (hb4.mono (by omega)))
    obtain ⟨x0, x1, t0, t1, t2, v0, v1, v2, r0, r1, f0, f1⟩ := HK.out.below hb4 (by omega)
    have hz4 := hb4.size
    have hl2 : w.heap.size + 3 < w4.heap.size := by omega
    clear hb4
    go_wp2_with fail
    refine bodyPost_ret (v := .tuple #[.agg #[.slice none 0 0, .int .i64 0], .int .i64 3]) (by simp [results, Try.results22, go_sem, hl2, r0, r1]) rfl ⟨[], 0, 3, none, 0, rfl, HY.out, Nat.le_refl _, wds_nil _ _ _, (below_set2s (g := w.heap.size + 3) hB4.out (by omega)).alloc (by simp; omega) _⟩
  · have HY := hid (show ChI lim l k n s i ⟨k2, n2, s2⟩ [] 0 9 from Or.inr ⟨rfl, rfl, Or.inr ⟨rfl, hbad⟩⟩)
    have hB4 := hid (hB3.out.trans (hb4.mono (by omega)))
    obtain ⟨x0, x1, t0, t1, t2, v0, v1, v2, r0, r1, f0, f1⟩ := HK.out.below hb4 (by omega)
    have hz4 := hb4.size
    have hl2 : w.heap.size + 3 < w4.heap.size := by omega
    clear hb4
    go_wp2_with fail
    refine bodyPost_ret (v := .tuple #[.agg #[.slice none 0 0, .int .i64 0], .int .i64 9]) (by simp [results, Try.results22, go_sem, hl2, r0, r1]) rfl ⟨[], 0, 9, none, 0, rfl, HY.out, Nat.le_refl _, wds_nil _ _ _, (below_set2s (g := w.heap.size + 3) hB4.out (by omega)).alloc (by simp; omega) _⟩
end Go.Proofs.Ytfjfobpdlmdddaa

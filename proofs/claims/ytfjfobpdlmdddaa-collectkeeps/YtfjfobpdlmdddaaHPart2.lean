/- A part of what a value is: heap's Part, the document's PartOf. -/
import Derived.Test.YtfjfobpdlmdddaaHPart
namespace Go.Proofs.Ytfjfobpdlmdddaa
set_option maxRecDepth 100000
open Go.RowKit Go.Maps
/-- What Part tells of a heap and a value that may be. -/
def PtOk (l : List Wd) (ms : List (Int × Int)) (k n i : Int) (k' n' : Int) (s' : ByteArray) (r : Int) : Prop :=
  ∃ x, PrI l ms k n i x r ∧ ((¬ r = 0 ∧ k' = 0 ∧ n' = 0 ∧ s' = ⟨#[]⟩) ∨ (r = 0 ∧ ∃ q : Nat, ∃ h : q < l.length, x = q ∧ k' = l[q].k ∧ n' = l[q].n ∧ s' = l[q].s))
def PtI (lim : Int) (l : List Wd) (k n : Int) (s : ByteArray) (i : Int) (k' n' : Int) (s' : ByteArray) (r : Int) : Prop :=
  (∃ acc ms, OkC lim l acc ms ∧ valB (plOf acc) k n s = true ∧ PtOk l ms k n i k' n' s' r) ∨
  ((k' = 0 ∧ n' = 0 ∧ s' = ⟨#[]⟩) ∧ ((r = 3 ∧ ∃ acc ms, OkC lim l acc ms ∧ valB (plOf acc) k n s = false) ∨ (r = 9 ∧ BadC lim l)))
theorem PrI.inl {l : List Wd} {ms : List (Int × Int)} {k n i x : Int} (h : PrI l ms k n i x 0) : ∃ q : Nat, q < l.length ∧ x = q := by
  rcases h with ⟨_, _, h⟩ | ⟨_, m, f, e, _, _, h2, h⟩
  · cases h
  · have := tRef_le h2
    rcases h with ⟨h3, h4, h5, _⟩ | ⟨_, _, h⟩
    · exact ⟨(f + i).toNat, by omega, by omega⟩
    · cases h
theorem PrI.err {l : List Wd} {ms : List (Int × Int)} {k n i x r : Int} (h : PrI l ms k n i x r) : r = 0 ∨ r = 2 ∨ r = 3 := by
  rcases h with ⟨_, _, h⟩ | ⟨_, m, f, e, _, _, h2, ⟨_, _, _, h⟩ | ⟨_, _, h⟩⟩
  · exact Or.inr (Or.inr h)
  · exact Or.inl h
  · exact Or.inr (Or.inl h)
set_option maxHeartbeats 2000000 in
theorem Part_any (w : World) (B : Nat) (a : Option Addr) (len cap : Nat) (l : List Wd) (lim : Int) (k n : Int) (s : ByteArray) (i : Int) (hW : Wds w B a l) (hB : B ≤ w.heap.size) (hlen : len = l.length) (hcap : len ≤ cap) (hl : len ≤ 9223372036854775807) (hwf : wfL l) (hn : wfI n) (hs : s.size ≤ 9223372036854775807) :
    Calls Try.prog 21 #[.agg #[.slice a len cap, .int .i64 lim], .agg #[.int .i64 k, .int .i64 n, .string s], .int .i64 i] w fun e w' => ∃ k' n' s' r, e = .returned (.tuple #[.agg #[.int .i64 k', .int .i64 n', .string s'], .int .i64 r]) ∧ PtI lim l k n s i k' n' s' r ∧ Below w.heap.size w w' := by
  have HL := hid hlen
  clear hlen
  obtain ⟨w2, hw2⟩ : ∃ w2, w2 = ((w.alloc (.cells #[.slice a len cap, .int .i64 lim] 24)).alloc (.cells #[.int .i64 k, .int .i64 n, .string s] 37)).alloc (.cells #[.int .i64 0, .int .i64 0, .string ⟨#[]⟩] 37) := ⟨_, rfl⟩
  obtain ⟨⟨x0, x1⟩, ⟨t0, t1, t2⟩, ⟨r0, r1, r2⟩, ⟨f0, f1, f2⟩, hz2, hb2⟩ := boxes233 w _ _ _ _ _ _ _ _ _ _ _ w2 hw2
  have hone := wds_one w2 k n s 37
  obtain ⟨w3, hw3⟩ : ∃ w3, w3 = w2.alloc (.cells #[.int .i64 k, .int .i64 n, .string s] 37) := ⟨_, rfl⟩
  have hb3 : Below w2.heap.size w2 w3 := by rw [hw3]; exact (Below.refl _ _).alloc (Nat.le_refl _) _
  have hz3 : w3.heap.size = w.heap.size + 4 := by rw [hw3]; simp [hz2]
  rw [← hw3, hz2] at hone
  have hB3 := hid (hb2.trans (hb3.mono (by omega)))
  have hcall := chartFor_any w3 (w.heap.size + 4) a len cap l lim ((hW.below (hB3.out.mono hB)).mono (by omega)) (by omega) HL.out hcap hl hwf (some ⟨w.heap.size + 3, 0, none⟩) 1 1 [⟨k, n, s⟩] hone rfl (by omega) (fun i hi => by
    have : i = 0 := by simp at hi; omega
    subst this; exact ⟨hn, hs⟩)
  have HC := hid hcall
  have H2 := hid hw2
  have H3 := hid hw3
  have HK := hid (fun w4 (hb4 : Below w3.heap.size w3 w4) => (⟨⟨((hb4.cell (p := ⟨w.heap.size + 1, 0, none⟩) (by dsimp only; omega)).trans (hb3.cell (p := ⟨w.heap.size + 1, 0, none⟩) (by dsimp only; omega))).trans t0, ((hb4.cell (p := ⟨w.heap.size + 1, 1, none⟩) (by dsimp only; omega)).trans (hb3.cell (p := ⟨w.heap.size + 1, 1, none⟩) (by dsimp only; omega))).trans t1, ((hb4.cell (p := ⟨w.heap.size + 1, 2, none⟩) (by dsimp only; omega)).trans (hb3.cell (p := ⟨w.heap.size + 1, 2, none⟩) (by dsimp only; omega))).trans t2⟩,
    ⟨((hb4.cell (p := ⟨w.heap.size + 2, 0, none⟩) (by dsimp only; omega)).trans (hb3.cell (p := ⟨w.heap.size + 2, 0, none⟩) (by dsimp only; omega))).trans r0, ((hb4.cell (p := ⟨w.heap.size + 2, 1, none⟩) (by dsimp only; omega)).trans (hb3.cell (p := ⟨w.heap.size + 2, 1, none⟩) (by dsimp only; omega))).trans r1, ((hb4.cell (p := ⟨w.heap.size + 2, 2, none⟩) (by dsimp only; omega)).trans (hb3.cell (p := ⟨w.heap.size + 2, 2, none⟩) (by dsimp only; omega))).trans r2⟩,
    ⟨((hb4.frozen (p := ⟨w.heap.size + 2, 0, none⟩) (by dsimp only; omega)).trans (hb3.frozen (p := ⟨w.heap.size + 2, 0, none⟩) (by dsimp only; omega))).trans f0, ((hb4.frozen (p := ⟨w.heap.size + 2, 1, none⟩) (by dsimp only; omega)).trans (hb3.frozen (p := ⟨w.heap.size + 2, 1, none⟩) (by dsimp only; omega))).trans f1, ((hb4.frozen (p := ⟨w.heap.size + 2, 2, none⟩) (by dsimp only; omega)).trans (hb3.frozen (p := ⟨w.heap.size + 2, 2, none⟩) (by dsimp only; omega))).trans f2⟩,
    ((hb4.cell (p := ⟨w.heap.size, 0, none⟩) (by dsimp only; omega)).trans (hb3.cell (p := ⟨w.heap.size, 0, none⟩) (by dsimp only; omega))).trans x0⟩ :
    (w4.cell? ⟨w.heap.size + 1, 0, none⟩ = some (.int .i64 k) ∧ w4.cell? ⟨w.heap.size + 1, 1, none⟩ = some (.int .i64 n) ∧ w4.cell? ⟨w.heap.size + 1, 2, none⟩ = some (.string s)) ∧
    (w4.cell? ⟨w.heap.size + 2, 0, none⟩ = some (.int .i64 0) ∧ w4.cell? ⟨w.heap.size + 2, 1, none⟩ = some (.int .i64 0) ∧ w4.cell? ⟨w.heap.size + 2, 2, none⟩ = some (.string ⟨#[]⟩)) ∧
    (w4.frozen? ⟨w.heap.size + 2, 0, none⟩ = false ∧ w4.frozen? ⟨w.heap.size + 2, 1, none⟩ = false ∧ w4.frozen? ⟨w.heap.size + 2, 2, none⟩ = false) ∧ w4.cell? ⟨w.heap.size, 0, none⟩ = some (.slice a len cap)))
  clear hcall hone hw2 hw3 hb2 hb3 hz2
  go_enter Try.func21, Try.ntmps21
  go_wp2_with fail
  rw [← H2.out, ← H3.out]
  clear x0 x1 t0 t1 t2 r0 r1 r2 f0 f1 f2
  have hcall := HC.out
  go_fit hcall
  clear hcall
  rintro e w4 ⟨hb4, ⟨v, acc, pb, mb, ms, rfl, hok, hall, hV⟩ | ⟨rfl, acc, ms, hok, hall⟩ | ⟨rfl, hbad⟩⟩
  · obtain ⟨av, capv, hv, _, _⟩ := hV.row.cells
    subst hv
    have hvb : valB (plOf acc) k n s = true := by rw [← allB_one]; exact hall
    have HX := hid (fun k' n' s' r (h : PtOk l ms k n i k' n' s' r) => (show PtI lim l k n s i k' n' s' r from Or.inl ⟨acc, ms, hok, hvb, h⟩))
    have hB4 := hid (hB3.out.trans (hb4.mono (by omega)))
    obtain ⟨⟨t0, t1, t2⟩, ⟨r0, r1, r2⟩, ⟨f0, f1, f2⟩, y0⟩ := HK.out w4 hb4
    have hz4 := hb4.size
    clear hb4
    have CB := ChartV.box (len := len) (cap := cap) hV 58
    obtain ⟨w5, hw5⟩ : ∃ w5, w5 = w4.alloc (.cells #[.slice a len cap, .slice av acc.length capv, .map (some pb), .map (some mb)] 58) := ⟨_, rfl⟩
    rw [← hw5] at CB
    have hb5 : Below w4.heap.size w4 w5 := by rw [hw5]; exact (Below.refl _ _).alloc (Nat.le_refl _) _
    have H5 := hid hw5
    have hl0 : w.heap.size < w4.heap.size := by omega
    have hl1 : w.heap.size + 1 < w4.heap.size := by omega
    have hl2 : w.heap.size + 2 < w4.heap.size := by omega
    clear hw5
    go_wp2_with fail
    rw [← H5.out]
    have hcall := part_any w5 _ w4.heap.size a len cap l lim _ acc pb mb ms CB hok k n s hn (fun h5 => (val_ref hvb h5).2) i
    go_fit hcall
    clear hcall
    rintro e w6 ⟨x, r, rfl, hpr, hb6⟩
    have hz5 := hb5.size
    have hB6 := hid ((hB4.out.trans (hb5.mono (by omega))).trans (hb6.mono (by omega)))
    have y6 := (hb6.cell (p := ⟨w.heap.size, 0, none⟩) (by dsimp only; omega)).trans ((hb5.cell (p := ⟨w.heap.size, 0, none⟩) (by dsimp only; omega)).trans y0)
    have q0 := (hb6.cell (p := ⟨w.heap.size + 2, 0, none⟩) (by dsimp only; omega)).trans ((hb5.cell (p := ⟨w.heap.size + 2, 0, none⟩) (by dsimp only; omega)).trans r0)
    have q1 := (hb6.cell (p := ⟨w.heap.size + 2, 1, none⟩) (by dsimp only; omega)).trans ((hb5.cell (p := ⟨w.heap.size + 2, 1, none⟩) (by dsimp only; omega)).trans r1)
    have q2 := (hb6.cell (p := ⟨w.heap.size + 2, 2, none⟩) (by dsimp only; omega)).trans ((hb5.cell (p := ⟨w.heap.size + 2, 2, none⟩) (by dsimp only; omega)).trans r2)
    have g0 := (hb6.frozen (p := ⟨w.heap.size + 2, 0, none⟩) (by dsimp only; omega)).trans ((hb5.frozen (p := ⟨w.heap.size + 2, 0, none⟩) (by dsimp only; omega)).trans f0)
    have g1 := (hb6.frozen (p := ⟨w.heap.size + 2, 1, none⟩) (by dsimp only; omega)).trans ((hb5.frozen (p := ⟨w.heap.size + 2, 1, none⟩) (by dsimp only; omega)).trans f1)
    have g2 := (hb6.frozen (p := ⟨w.heap.size + 2, 2, none⟩) (by dsimp only; omega)).trans ((hb5.frozen (p := ⟨w.heap.size + 2, 2, none⟩) (by dsimp only; omega)).trans f2)
    clear hb5 hb6 r0 r1 r2 f0 f1 f2 t0 t1 t2 y0
    by_cases hr : r = 0
    · subst hr
      obtain ⟨q, hq, rfl⟩ := hpr.inl
      obtain ⟨bb, o, rfl, hbb, c0, c1, c2⟩ := hW.below (hB6.out.mono hB) q hq
      have HY := hid (HX.out l[q].k l[q].n l[q].s 0 ⟨q, hpr, Or.inr ⟨rfl, q, hq, rfl, rfl, rfl, rfl⟩⟩)
      have hq2 : (q : Int) < len := by have := HL.out; omega
      have hbl : ¬ bb = w.heap.size + 2 := by omega
      generalize l[q].k = kk at c0 HY
      generalize l[q].n = nn at c1 HY
      generalize l[q].s = ss at c2 HY
      clear HX hpr
      go_wp2_with fail
      refine bodyPost_ret (v := .tuple #[.agg #[.int .i64 kk, .int .i64 nn, .string ss], .int .i64 0]) (by simp [results, Try.results21, go_sem, q0, q1, q2]) rfl ⟨_, _, _, _, rfl, HY.out, below_set3s hB6.out (by omega)⟩
    · have hrb : (r != 0) = true := by simp [hr]
      have HY := hid (HX.out 0 0 ⟨#[]⟩ r ⟨x, hpr, Or.inl ⟨hr, rfl, rfl, rfl⟩⟩)
      clear HX hpr
      go_wp2_with fail
      refine bodyPost_ret (v := .tuple #[.agg #[.int .i64 0, .int .i64 0, .string ⟨#[]⟩], .int .i64 r]) (by simp [results, Try.results21, go_sem, q0, q1, q2]) rfl ⟨_, _, _, _, rfl, HY.out, below_set3s hB6.out (by omega)⟩
  · have HX := hid (show PtI lim l k n s i 0 0 ⟨#[]⟩ 3 from Or.inr ⟨⟨rfl, rfl, rfl⟩, Or.inl ⟨rfl, acc, ms, hok, by rw [← allB_one]; exact hall⟩⟩)
    have hB4 := hid (hB3.out.trans (hb4.mono (by omega)))
    obtain ⟨_, ⟨r0, r1, r2⟩, ⟨f0, f1, f2⟩, _⟩ := HK.out w4 hb4
    have hz4 := hb4.size
    have hl2 : w.heap.size + 2 < w4.heap.size := by omega
    clear hb4
    go_wp2_with fail
    refine bodyPost_ret (v := .tuple #[.agg #[.int .i64 0, .int .i64 0, .string ⟨#[]⟩], .int .i64 3]) (by simp [results, Try.results21, go_sem, hl2, r0, r1, r2]) rfl ⟨_, _, _, _, rfl, HX.out, (below_set3s (g := w.heap.size + 2) hB4.out (by omega)).alloc (by simp; omega) _⟩
  · have HX := hid (show PtI lim l k n s i 0 0 ⟨#[]⟩ 9 from Or.inr ⟨⟨rfl, rfl, rfl⟩, Or.inr ⟨rfl, hbad⟩⟩)
    have hB4 := hid (hB3.out.trans (hb4.mono (by omega)))
    obtain ⟨_, ⟨r0, r1, r2⟩, ⟨f0, f1, f2⟩, _⟩ := HK.out w4 hb4
    have hz4 := hb4.size
    have hl2 : w.heap.size + 2 < w4.heap.size := by omega
    clear hb4
    go_wp2_with fail
    refine bodyPost_ret (v := .tuple #[.agg #[.int .i64 0, .int .i64 0, .string ⟨#[]⟩], .int .i64 9]) (by simp [results, Try.results21, go_sem, hl2, r0, r1, r2]) rfl ⟨_, _, _, _, rfl, HX.out, (below_set3s (g := w.heap.size + 2) hB4.out (by omega)).alloc (by simp; omega) _⟩
end Go.Proofs.Ytfjfobpdlmdddaa

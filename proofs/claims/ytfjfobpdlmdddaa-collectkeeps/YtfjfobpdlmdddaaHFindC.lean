/- Where a value is now: heap's find and Find. -/
import Derived.Test.YtfjfobpdlmdddaaHFindP
import Derived.Test.YtfjfobpdlmdddaaHValueC
namespace Go.Proofs.Ytfjfobpdlmdddaa
set_option maxRecDepth 100000
open Go.RowKit Go.Maps
def atI (ms : List (Int × Int)) (k n : Int) : Int := if k = 5 then fndI ms n else n
theorem bare_of {s : ByteArray} (h : s.size = 0) : s = ⟨#[]⟩ := by
  obtain ⟨⟨l⟩⟩ := s
  have : l = [] := List.length_eq_zero_iff.1 h
  subst this
  rfl
theorem boxes33 (w : World) (v0 v1 v2 u0 u1 u2 : Value) (t t' : TypeId) :
    (((w.alloc (.cells #[v0, v1, v2] t)).alloc (.cells #[u0, u1, u2] t')).cell? ⟨w.heap.size, 0, none⟩ = some v0 ∧ ((w.alloc (.cells #[v0, v1, v2] t)).alloc (.cells #[u0, u1, u2] t')).cell? ⟨w.heap.size, 1, none⟩ = some v1 ∧ ((w.alloc (.cells #[v0, v1, v2] t)).alloc (.cells #[u0, u1, u2] t')).cell? ⟨w.heap.size, 2, none⟩ = some v2) ∧
    (((w.alloc (.cells #[v0, v1, v2] t)).alloc (.cells #[u0, u1, u2] t')).cell? ⟨w.heap.size + 1, 0, none⟩ = some u0 ∧ ((w.alloc (.cells #[v0, v1, v2] t)).alloc (.cells #[u0, u1, u2] t')).cell? ⟨w.heap.size + 1, 1, none⟩ = some u1 ∧ ((w.alloc (.cells #[v0, v1, v2] t)).alloc (.cells #[u0, u1, u2] t')).cell? ⟨w.heap.size + 1, 2, none⟩ = some u2) ∧
    (((w.alloc (.cells #[v0, v1, v2] t)).alloc (.cells #[u0, u1, u2] t')).frozen? ⟨w.heap.size, 0, none⟩ = false ∧ ((w.alloc (.cells #[v0, v1, v2] t)).alloc (.cells #[u0, u1, u2] t')).frozen? ⟨w.heap.size, 1, none⟩ = false ∧ ((w.alloc (.cells #[v0, v1, v2] t)).alloc (.cells #[u0, u1, u2] t')).frozen? ⟨w.heap.size, 2, none⟩ = false) ∧
    (((w.alloc (.cells #[v0, v1, v2] t)).alloc (.cells #[u0, u1, u2] t')).frozen? ⟨w.heap.size + 1, 0, none⟩ = false ∧ ((w.alloc (.cells #[v0, v1, v2] t)).alloc (.cells #[u0, u1, u2] t')).frozen? ⟨w.heap.size + 1, 1, none⟩ = false ∧ ((w.alloc (.cells #[v0, v1, v2] t)).alloc (.cells #[u0, u1, u2] t')).frozen? ⟨w.heap.size + 1, 2, none⟩ = false) := by
  refine ⟨⟨?_, ?_, ?_⟩, ⟨?_, ?_, ?_⟩, ⟨?_, ?_, ?_⟩, ?_, ?_, ?_⟩ <;> go_simp
theorem below_set3s {B g : Nat} {a w : World} (h : Below B a w) (hg : B ≤ g) {x0 x1 x2 : Value} : Below B a (((w.setCell ⟨g, 0, none⟩ x0).setCell ⟨g, 1, none⟩ x1).setCell ⟨g, 2, none⟩ x2) :=
  ((h.setCell (p := ⟨g, 0, none⟩) hg _).setCell (p := ⟨g, 1, none⟩) hg _).setCell (p := ⟨g, 2, none⟩) hg _
set_option maxHeartbeats 2000000 in
theorem find_any (w : World) (B cb : Nat) (a : Option Addr) (len cap : Nat) (l : List Wd) (v : Value) (acc : List Th) (pb mb : Nat) (ms : List (Int × Int)) (hC : Chart w B cb a len cap l v acc pb mb ms) (k n : Int) (s : ByteArray) (hn : wfI n) :
    Calls Try.prog 32 #[.pointer (some ⟨cb, 0, none⟩), .agg #[.int .i64 k, .int .i64 n, .string s]] w fun e w' => e = .returned (.agg #[.int .i64 k, .int .i64 (atI ms k n), .string s]) ∧ Below w.heap.size w w' := by
  have bx := boxes33 w (.int .i64 k) (.int .i64 n) (.string s) (.int .i64 0) (.int .i64 0) (.string ⟨#[]⟩) 37 37
  obtain ⟨w1, hw1⟩ : ∃ w1, w1 = (w.alloc (.cells #[.int .i64 k, .int .i64 n, .string s] 37)).alloc (.cells #[.int .i64 0, .int .i64 0, .string ⟨#[]⟩] 37) := ⟨_, rfl⟩
  have hb1 : Below w.heap.size w w1 := by rw [hw1]; exact below_2 _ _ _
  have hz1 : w1.heap.size = w.heap.size + 2 := by rw [hw1]; simp
  rw [← hw1] at bx
  have C1 := hC.below hb1
  have HW := hid hw1
  have HB1 := hid hb1
  have c3 := C1.c3
  have hrun : (Instr.lookup 56 (.map (some mb)) (.int .i64 n) true).run Try.prog w1.drew = .ok (.tuple #[.int .i64 (valI ms n), .bool (hasI ms n)]) w1.drew := OwnsI.look2 (w := w1.drew) C1.mv hn
  obtain ⟨⟨t0, t1, t2⟩, ⟨r0, r1, r2⟩, ⟨f0, f1, f2⟩, g0, g1, g2⟩ := bx
  clear hw1 hb1 hC
  go_enter Try.func32, Try.ntmps32
  cases hh : hasI ms n
  · have HA := hid (show atI ms k n = n by unfold atI fndI; rw [hh]; simp)
    rw [hh] at hrun
    generalize valI ms n = hv at hrun
    go_wp2_with fail
    rw [← HW.out]
    go_region
    go_wp2_with fail
    refine bodyPost_ret (v := .agg #[.int .i64 k, .int .i64 n, .string s]) (by simp [results, Try.results32, go_sem, r0, r1, r2]) rfl ⟨by rw [HA.out], bdrew (below_set3s (g := w.heap.size + 1) HB1.out (by omega)) 1⟩
  · by_cases h5 : k = 5
    · subst h5
      have HA := hid (show atI ms 5 n = valI ms n by unfold atI fndI; rw [hh]; simp)
      rw [hh] at hrun
      generalize valI ms n = hv at hrun HA
      go_wp2_with fail
      rw [← HW.out]
      go_region
      go_wp2_with fail
      refine bodyPost_ret (v := .agg #[.int .i64 5, .int .i64 hv, .string s]) (by simp [results, Try.results32, go_sem, r0, r1, r2]) rfl ⟨by rw [HA.out], bdrew (below_set3s (g := w.heap.size + 1) (HB1.out.setCell (p := ⟨w.heap.size, 1, none⟩) (Nat.le_refl _) _) (by omega)) 1⟩
    · have h5b : (k == 5) = false := by simp [h5]
      have HA := hid (show atI ms k n = n by unfold atI; rw [if_neg h5])
      rw [hh] at hrun
      generalize valI ms n = hv at hrun
      go_wp2_with fail
      rw [← HW.out]
      go_region
      go_wp2_with fail
      refine bodyPost_ret (v := .agg #[.int .i64 k, .int .i64 n, .string s]) (by simp [results, Try.results32, go_sem, r0, r1, r2]) rfl ⟨by rw [HA.out], bdrew (below_set3s (g := w.heap.size + 1) HB1.out (by omega)) 1⟩
theorem nInt_nat {l : List Wd} {m : Nat} (h : m < l.length) : nInt l m = l[m].n := by unfold nInt; rw [List.getElem?_eq_getElem h]
def FdI (lim : Int) (l : List Wd) (k n : Int) (s : ByteArray) (k' n' : Int) (s' : ByteArray) (r : Int) : Prop :=
  (∃ acc ms, OkC lim l acc ms ∧ valB (plOf acc) k n s = true ∧ k' = k ∧ n' = atI ms k n ∧ s' = s ∧ r = 0) ∨
  ((k' = 0 ∧ n' = 0 ∧ s' = ⟨#[]⟩) ∧ ((r = 3 ∧ ∃ acc ms, OkC lim l acc ms ∧ valB (plOf acc) k n s = false) ∨ (r = 9 ∧ BadC lim l)))
theorem boxes233 (w : World) (x0 x1 v0 v1 v2 u0 u1 u2 : Value) (t0 t t' : TypeId) (W : World) (hW : W = ((w.alloc (.cells #[x0, x1] t0)).alloc (.cells #[v0, v1, v2] t)).alloc (.cells #[u0, u1, u2] t')) :
    (W.cell? ⟨w.heap.size, 0, none⟩ = some x0 ∧ W.cell? ⟨w.heap.size, 1, none⟩ = some x1) ∧
    (W.cell? ⟨w.heap.size + 1, 0, none⟩ = some v0 ∧ W.cell? ⟨w.heap.size + 1, 1, none⟩ = some v1 ∧ W.cell? ⟨w.heap.size + 1, 2, none⟩ = some v2) ∧
    (W.cell? ⟨w.heap.size + 2, 0, none⟩ = some u0 ∧ W.cell? ⟨w.heap.size + 2, 1, none⟩ = some u1 ∧ W.cell? ⟨w.heap.size + 2, 2, none⟩ = some u2) ∧
    (W.frozen? ⟨w.heap.size + 2, 0, none⟩ = false ∧ W.frozen? ⟨w.heap.size + 2, 1, none⟩ = false ∧ W.frozen? ⟨w.heap.size + 2, 2, none⟩ = false) ∧ W.heap.size = w.heap.size + 3 ∧ Below w.heap.size w W := by
  subst hW
  refine ⟨⟨?_, ?_⟩, ⟨?_, ?_, ?_⟩, ⟨?_, ?_, ?_⟩, ⟨?_, ?_, ?_⟩, by simp, below_3 _ _ _ _⟩ <;> go_simp
set_option maxHeartbeats 2000000 in
theorem Find_any (w : World) (B : Nat) (a : Option Addr) (len cap : Nat) (l : List Wd) (lim : Int) (k n : Int) (s : ByteArray) (hW : Wds w B a l) (hB : B ≤ w.heap.size) (hlen : len = l.length) (hcap : len ≤ cap) (hl : len ≤ 9223372036854775807) (hwf : wfL l) (hn : wfI n) (hs : s.size ≤ 9223372036854775807) :
    Calls Try.prog 17 #[.agg #[.slice a len cap, .int .i64 lim], .agg #[.int .i64 k, .int .i64 n, .string s]] w fun e w' => ∃ k' n' s' r, e = .returned (.tuple #[.agg #[.int .i64 k', .int .i64 n', .string s'], .int .i64 r]) ∧ FdI lim l k n s k' n' s' r ∧ Below w.heap.size w w' := by
  have HL := hid hlen
  clear hlen
  obtain ⟨w2, hw2⟩ : ∃ w2, w2 = ((w.alloc (.cells #[.slice a len cap, .int .i64 lim] 24)).alloc (.cells #[.int .i64 k, .int .i64 n, .string s] 37)).alloc (.cells #[.int .i64 0, .int .i64 0, .string ⟨#[]⟩] 37) := ⟨_, rfl⟩
  obtain ⟨⟨x0, x1⟩, ⟨t0, t1, t2⟩, ⟨r0, r1, r2⟩, ⟨f0, f1, f2⟩, hz2, hb2⟩ := boxes233 w _ _ _ _ _ _ _ _ _ _ _ w2 hw2
  have hone := wds_one w2 k n s 37
  obtain ⟨w3, hw3⟩ : ∃ w3, w3 = w2.alloc (.cells #[.int .i64 k, .int .i64 n, .string s] 37) := ⟨_, rfl⟩
  have hb3 : Below w2.heap.size w2 w3 := by rw [hw3]; exact (Below.refl _ _).alloc (Nat.le_refl _) _
  have hz3 : w3.heap.size = w.heap.size + 4 := by rw [hw3]; simp [hz2]
  rw [← hw3, hz2] at hone
  have hB3 := hid (hb2.trans (hb3.mono (by omega)))
  have hcall := chartFor_any w3 (w.heap.size + 4) a len cap l lim ((hW.below (hB3.out.mono hB)).mono (by omega)) (by omega) HL.out hcap hl hwf (some ⟨w.heap.size + 3, 0, none⟩) 1 1 [⟨k, n, s⟩] hone rfl (by omega) (fun i hi => by
    have : i = 0 := by simp at hi; omega
    subst this; exact ⟨hn, hs⟩)
  have HC := hid hcall
  have H2 := hid hw2
  have H3 := hid hw3
  have HK := hid (fun w4 (hb4 : Below w3.heap.size w3 w4) => (⟨⟨((hb4.cell (p := ⟨w.heap.size + 1, 0, none⟩) (by dsimp only; omega)).trans (hb3.cell (p := ⟨w.heap.size + 1, 0, none⟩) (by dsimp only; omega))).trans t0, ((hb4.cell (p := ⟨w.heap.size + 1, 1, none⟩) (by dsimp only; omega)).trans (hb3.cell (p := ⟨w.heap.size + 1, 1, none⟩) (by dsimp only; omega))).trans t1, ((hb4.cell (p := ⟨w.heap.size + 1, 2, none⟩) (by dsimp only; omega)).trans (hb3.cell (p := ⟨w.heap.size + 1, 2, none⟩) (by dsimp only; omega))).trans t2⟩,
    ⟨((hb4.cell (p := ⟨w.heap.size + 2, 0, none⟩) (by dsimp only; omega)).trans (hb3.cell (p := ⟨w.heap.size + 2, 0, none⟩) (by dsimp only; omega))).trans r0, ((hb4.cell (p := ⟨w.heap.size + 2, 1, none⟩) (by dsimp only; omega)).trans (hb3.cell (p := ⟨w.heap.size + 2, 1, none⟩) (by dsimp only; omega))).trans r1, ((hb4.cell (p := ⟨w.heap.size + 2, 2, none⟩) (by dsimp only; omega)).trans (hb3.cell (p := ⟨w.heap.size + 2, 2, none⟩) (by dsimp only; omega))).trans r2⟩,
    ((hb4.frozen (p := ⟨w.heap.size + 2, 0, none⟩) (by dsimp only; omega)).trans (hb3.frozen (p := ⟨w.heap.size + 2, 0, none⟩) (by dsimp only; omega))).trans f0, ((hb4.frozen (p := ⟨w.heap.size + 2, 1, none⟩) (by dsimp only; omega)).trans (hb3.frozen (p := ⟨w.heap.size + 2, 1, none⟩) (by dsimp only; omega))).trans f1, ((hb4.frozen (p := ⟨w.heap.size + 2, 2, none⟩) (by dsimp only; omega)).trans (hb3.frozen (p := ⟨w.heap.size + 2, 2, none⟩) (by dsimp only; omega))).trans f2⟩ :
    (w4.cell? ⟨w.heap.size + 1, 0, none⟩ = some (.int .i64 k) ∧ w4.cell? ⟨w.heap.size + 1, 1, none⟩ = some (.int .i64 n) ∧ w4.cell? ⟨w.heap.size + 1, 2, none⟩ = some (.string s)) ∧
    (w4.cell? ⟨w.heap.size + 2, 0, none⟩ = some (.int .i64 0) ∧ w4.cell? ⟨w.heap.size + 2, 1, none⟩ = some (.int .i64 0) ∧ w4.cell? ⟨w.heap.size + 2, 2, none⟩ = some (.string ⟨#[]⟩)) ∧
    w4.frozen? ⟨w.heap.size + 2, 0, none⟩ = false ∧ w4.frozen? ⟨w.heap.size + 2, 1, none⟩ = false ∧ w4.frozen? ⟨w.heap.size + 2, 2, none⟩ = false))
  clear hcall hone hw2 hw3 hb2 hb3 hz2
  go_enter Try.func17, Try.ntmps17
  go_wp2_with fail
  rw [← H2.out, ← H3.out]
  clear x0 x1 t0 t1 t2 r0 r1 r2 f0 f1 f2
  have hcall := HC.out
  go_fit hcall
  clear hcall
  rintro e w4 ⟨hb4, ⟨v, acc, pb, mb, ms, rfl, hok, hall, hV⟩ | ⟨rfl, acc, ms, hok, hall⟩ | ⟨rfl, hbad⟩⟩
  · obtain ⟨av, capv, hv, _, _⟩ := hV.row.cells
    subst hv
    have HX := hid (show FdI lim l k n s k (atI ms k n) s 0 from Or.inl ⟨acc, ms, hok, by rw [← allB_one]; exact hall, rfl, rfl, rfl, rfl⟩)
    have hB4 := hid (hB3.out.trans (hb4.mono (by omega)))
    obtain ⟨⟨t0, t1, t2⟩, ⟨r0, r1, r2⟩, f0, f1, f2⟩ := HK.out w4 hb4
    have hz4 := hb4.size
    clear hb4
    have CB := ChartV.box (len := len) (cap := cap) hV 58
    obtain ⟨w5, hw5⟩ : ∃ w5, w5 = w4.alloc (.cells #[.slice a len cap, .slice av acc.length capv, .map (some pb), .map (some mb)] 58) := ⟨_, rfl⟩
    rw [← hw5] at CB
    have hb5 : Below w4.heap.size w4 w5 := by rw [hw5]; exact (Below.refl _ _).alloc (Nat.le_refl _) _
    have H5 := hid hw5
    have hl1 : w.heap.size + 1 < w4.heap.size := by omega
    have hl2 : w.heap.size + 2 < w4.heap.size := by omega
    clear hw5
    go_wp2_with fail
    rw [← H5.out]
    have hcall := find_any w5 _ w4.heap.size a len cap l _ acc pb mb ms CB k n s hn
    go_fit hcall
    clear hcall
    rintro e w6 ⟨rfl, hb6⟩
    have hz5 := hb5.size
    have hB6 := hid ((hB4.out.trans (hb5.mono (by omega))).trans (hb6.mono (by omega)))
    have q0 := (hb6.cell (p := ⟨w.heap.size + 2, 0, none⟩) (by dsimp only; omega)).trans ((hb5.cell (p := ⟨w.heap.size + 2, 0, none⟩) (by dsimp only; omega)).trans r0)
    have q1 := (hb6.cell (p := ⟨w.heap.size + 2, 1, none⟩) (by dsimp only; omega)).trans ((hb5.cell (p := ⟨w.heap.size + 2, 1, none⟩) (by dsimp only; omega)).trans r1)
    have q2 := (hb6.cell (p := ⟨w.heap.size + 2, 2, none⟩) (by dsimp only; omega)).trans ((hb5.cell (p := ⟨w.heap.size + 2, 2, none⟩) (by dsimp only; omega)).trans r2)
    have g0 := (hb6.frozen (p := ⟨w.heap.size + 2, 0, none⟩) (by dsimp only; omega)).trans ((hb5.frozen (p := ⟨w.heap.size + 2, 0, none⟩) (by dsimp only; omega)).trans f0)
    have g1 := (hb6.frozen (p := ⟨w.heap.size + 2, 1, none⟩) (by dsimp only; omega)).trans ((hb5.frozen (p := ⟨w.heap.size + 2, 1, none⟩) (by dsimp only; omega)).trans f1)
    have g2 := (hb6.frozen (p := ⟨w.heap.size + 2, 2, none⟩) (by dsimp only; omega)).trans ((hb5.frozen (p := ⟨w.heap.size + 2, 2, none⟩) (by dsimp only; omega)).trans f2)
    clear hb5 hb6 r0 r1 r2 f0 f1 f2 t0 t1 t2
    go_wp2_with fail
    refine bodyPost_ret (v := .tuple #[.agg #[.int .i64 k, .int .i64 (atI ms k n), .string s], .int .i64 0]) (by simp [results, Try.results17, go_sem, q0, q1, q2]) rfl ⟨_, _, _, _, rfl, HX.out, below_set3s hB6.out (by omega)⟩
  · have HX := hid (show FdI lim l k n s 0 0 ⟨#[]⟩ 3 from Or.inr ⟨⟨rfl, rfl, rfl⟩, Or.inl ⟨rfl, acc, ms, hok, by rw [← allB_one]; exact hall⟩⟩)
    have hB4 := hid (hB3.out.trans (hb4.mono (by omega)))
    obtain ⟨_, ⟨r0, r1, r2⟩, f0, f1, f2⟩ := HK.out w4 hb4
    have hz4 := hb4.size
    have hl2 : w.heap.size + 2 < w4.heap.size := by omega
    clear hb4
    go_wp2_with fail
    refine bodyPost_ret (v := .tuple #[.agg #[.int .i64 0, .int .i64 0, .string ⟨#[]⟩], .int .i64 3]) (by simp [results, Try.results17, go_sem, hl2, r0, r1, r2]) rfl ⟨_, _, _, _, rfl, HX.out, (below_set3s (g := w.heap.size + 2) hB4.out (by omega)).alloc (by simp; omega) _⟩
  · have HX := hid (show FdI lim l k n s 0 0 ⟨#[]⟩ 9 from Or.inr ⟨⟨rfl, rfl, rfl⟩, Or.inr ⟨rfl, hbad⟩⟩)
    have hB4 := hid (hB3.out.trans (hb4.mono (by omega)))
    obtain ⟨_, ⟨r0, r1, r2⟩, f0, f1, f2⟩ := HK.out w4 hb4
    have hz4 := hb4.size
    have hl2 : w.heap.size + 2 < w4.heap.size := by omega
    clear hb4
    go_wp2_with fail
    refine bodyPost_ret (v := .tuple #[.agg #[.int .i64 0, .int .i64 0, .string ⟨#[]⟩], .int .i64 9]) (by simp [results, Try.results17, go_sem, hl2, r0, r1, r2]) rfl ⟨_, _, _, _, rfl, HX.out, (below_set3s (g := w.heap.size + 2) hB4.out (by omega)).alloc (by simp; omega) _⟩
theorem FdI.cv {lim : Int} {l : List Wd} {k n : Int} {s : ByteArray} {k' n' : Int} {s' : ByteArray} {r : Int} (h : FdI lim l k n s k' n' s' r) : CvI lim l k n s r := by
  rcases h with ⟨acc, ms, h1, h2, _, _, _, rfl⟩ | ⟨_, ⟨rfl, acc, ms, h1, h2⟩ | ⟨rfl, h1⟩⟩
  · exact Or.inl ⟨rfl, acc, ms, h1, h2⟩
  · exact Or.inr (Or.inl ⟨rfl, acc, ms, h1, h2⟩)
  · exact Or.inr (Or.inr ⟨rfl, h1⟩)
theorem val_ref {ps : List (Int × Int)} {k n : Int} {s : ByteArray} (h : valB ps k n s = true) (h5 : k = 5) : s.size = 0 ∧ hasI ps n = true := by
  subst h5
  unfold valB at h
  simp at h
  exact ⟨by rw [h.2]; rfl, h.1⟩
end Go.Proofs.Ytfjfobpdlmdddaa

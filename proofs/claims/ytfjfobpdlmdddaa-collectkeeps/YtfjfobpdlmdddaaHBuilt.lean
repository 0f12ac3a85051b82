/- A heap on which things were put, and what was made: the keep-statements' built. -/
import Derived.Test.YtfjfobpdlmdddaaHPut
import Derived.Test.YtfjfobpdlmdddaaHPrs
import Derived.Test.YtfjfobpdlmdddaaPicked
namespace Go.Proofs.Ytfjfobpdlmdddaa
set_option maxRecDepth 100000
open Go.RowKit Go.Maps
theorem grow_more {lim : Int} {l x : List Wd} {acc : List Th} {ms : List (Int × Int)} (hok : OkC lim l acc ms) (hx : 0 < x.length) (hr : (l.length : Int) + x.length ≤ lim) (hg : grB l x acc = true) :
    ∃ f e ms', OkC lim (l ++ x) (acc ++ [⟨l.length, f, e⟩]) ms' ∧ ¬ kindAt (l ++ x) (l.length : Nat) = 10 := by
  unfold grB at hg
  cases ht : tAt (l ++ x) l.length with
  | none => rw [ht] at hg; cases hg
  | some q =>
    obtain ⟨f, e⟩ := q
    rw [ht] at hg
    simp only [Bool.and_eq_true, decide_eq_true_eq, Bool.not_eq_true', decide_eq_false_iff_not] at hg
    obtain ⟨⟨h1, h2⟩, h3⟩ := hg
    obtain ⟨acc', ms', hok'⟩ := (grow_ok hok hx hr ht h1 h2).1 h3
    have hc : Chain (l ++ x) (acc ++ [⟨l.length, f, e⟩]) (l ++ x).length := by
      have := Chain.snoc (hok.chain.app x) (by rw [List.length_append]; omega) ht
      rw [← h1]; exact this
    obtain ⟨rfl, _⟩ := hok'.chain.ref.same hc.ref hok'.chain.ref.full hc.ref.full
    exact ⟨f, e, ms', hok', h2⟩
theorem valB_snoc {acc : List Th} {t : Th} {k n : Int} {s : ByteArray} (h : valB (plOf acc) k n s = true) : valB (plOf (acc ++ [t])) k n s = true := by
  rw [plOf_snoc]
  unfold valB at h ⊢
  by_cases h5 : k = 5
  · subst h5
    simp only [hasI] at h ⊢
    simp at h ⊢
    exact ⟨Or.inr h.1, h.2⟩
  · simpa [h5] using h
theorem valB_new (acc : List Th) (t : Th) : valB (plOf (acc ++ [t])) 5 (t.h : Int) ⟨#[]⟩ = true := by
  rw [plOf_snoc]
  unfold valB
  simp [hasI]
  rfl
structure Rw4 where
  k : Int
  a : Int
  b : Int
  c : Int
abbrev i64B (n : Int) : Prop := -9223372036854775808 ≤ n ∧ n ≤ 9223372036854775807
/-- Raw things in a row. -/
def RawS (w : World) (B : Nat) (a : Option Addr) (R : List Rw4) : Prop := ∀ i (h : i < R.length), (∃ b o, a = some ⟨b, o, none⟩ ∧ b < B ∧ w.cell? ⟨b, o + i * 4, none⟩ = some (.int .i64 R[i].k) ∧ w.cell? ⟨b, o + i * 4 + 1, none⟩ = some (.int .i64 R[i].a) ∧ w.cell? ⟨b, o + i * 4 + 2, none⟩ = some (.int .i64 R[i].b) ∧ w.cell? ⟨b, o + i * 4 + 3, none⟩ = some (.int .i64 R[i].c)) ∧ i64B R[i].k ∧ i64B R[i].a ∧ i64B R[i].b ∧ i64B R[i].c
/-- What may be picked. -/
def MadeI (l M : List Wd) : Prop := ∃ acc ms, OkC 600 l acc ms ∧ (∀ t, t ∈ acc → ¬ kindAt l t.h = 10) ∧ (∀ u, u ∈ M → valB (plOf acc) u.k u.n u.s = true) ∧ ∀ t, t ∈ acc → ∃ u, u ∈ M ∧ u.k = 5 ∧ u.n = (t.h : Int)
/-- How far the loop is. -/
structure BtI (w wr : World) (v : Value) (M l : List Wd) : Prop where
  bel : Below w.heap.size w wr
  size : w.heap.size + 2 ≤ wr.heap.size
  box : ∃ a cap, wr.cell? ⟨w.heap.size + 1, 0, none⟩ = some (.slice a l.length cap) ∧ l.length ≤ cap ∧ Wds wr wr.heap.size a l ∧ ∀ A, a = some A → w.heap.size + 2 ≤ A.block ∧ A.block < wr.heap.size ∧ ¬ v.ownBlock = some A.block
  lm : wr.cell? ⟨w.heap.size + 1, 1, none⟩ = some (.int .i64 600)
  f0 : wr.frozen? ⟨w.heap.size + 1, 0, none⟩ = false
  f1 : wr.frozen? ⟨w.heap.size + 1, 1, none⟩ = false
  r0 : wr.cell? ⟨w.heap.size, 0, none⟩ = some (.slice none 0 0)
  r1 : wr.cell? ⟨w.heap.size, 1, none⟩ = some (.int .i64 0)
  g0 : wr.frozen? ⟨w.heap.size, 0, none⟩ = false
  g1 : wr.frozen? ⟨w.heap.size, 1, none⟩ = false
  row : WdL wr (w.heap.size + 2) v M
  two : 2 ≤ M.length
  ok : MadeI l M
  wf : wfL l
  wfm : wfL M
  five : l.length + 10 ≤ 5 * M.length
theorem BtI.below {w wr w' : World} {v : Value} {M l : List Wd} (h : BtI w wr v M l) (hb : Below wr.heap.size wr w') : BtI w w' v M l := by
  have hs := h.size
  have hz := hb.size
  have c : ∀ b o, b < w.heap.size + 2 → w'.cell? ⟨b, o, none⟩ = wr.cell? ⟨b, o, none⟩ := fun b o hb' => hb.cell (p := ⟨b, o, none⟩) (by dsimp only; omega)
  have f : ∀ b o, b < w.heap.size + 2 → w'.frozen? ⟨b, o, none⟩ = wr.frozen? ⟨b, o, none⟩ := fun b o hb' => hb.frozen (p := ⟨b, o, none⟩) (by dsimp only; omega)
  obtain ⟨a, cap, q1, q2, q3, q4⟩ := h.box
  exact ⟨h.bel.trans (hb.mono (by omega)), by omega, ⟨a, cap, (c _ _ (by omega)).trans q1, q2, (q3.below hb).mono hz, fun A hA => ⟨(q4 A hA).1, by have := (q4 A hA).2.1; omega, (q4 A hA).2.2⟩⟩, (c _ _ (by omega)).trans h.lm, (f _ _ (by omega)).trans h.f0, (f _ _ (by omega)).trans h.f1, (c _ _ (by omega)).trans h.r0, (c _ _ (by omega)).trans h.r1, (f _ _ (by omega)).trans h.g0, (f _ _ (by omega)).trans h.g1, h.row.keep (fun b hb' => hb.block b (h.row.own_lt hb').2), h.two, h.ok, h.wf, h.wfm, h.five⟩
theorem made_more {l M x : List Wd} {acc : List Th} {ms : List (Int × Int)} (hok : OkC 600 l acc ms) (h2 : ∀ t, t ∈ acc → ¬ kindAt l t.h = 10) (h3 : ∀ u, u ∈ M → valB (plOf acc) u.k u.n u.s = true) (h4 : ∀ t, t ∈ acc → ∃ u, u ∈ M ∧ u.k = 5 ∧ u.n = (t.h : Int)) (hx : 0 < x.length) (hr : (l.length : Int) + x.length ≤ 600) (hg : grB l x acc = true) : MadeI (l ++ x) (M ++ [⟨5, (l.length : Int), ⟨#[]⟩⟩]) := by
  obtain ⟨f, e, ms', h1, hk⟩ := grow_more hok hx hr hg
  refine ⟨_, ms', h1, fun t ht => ?_, fun u hu => ?_, fun t ht => ?_⟩
  · rcases List.mem_append.1 ht with h | h
    · obtain ⟨i, hi, rfl⟩ := List.getElem_of_mem h
      have := hok.chain.inL i hi
      rw [kindAt_app (by omega) (by omega)]
      exact h2 _ h
    · simp only [List.mem_singleton] at h
      subst h
      exact hk
  · rcases List.mem_append.1 hu with h | h
    · exact valB_snoc (h3 u h)
    · simp only [List.mem_singleton] at h
      subst h
      exact valB_new acc ⟨l.length, f, e⟩
  · rcases List.mem_append.1 ht with h | h
    · obtain ⟨u, hu, q1, q2⟩ := h4 t h
      exact ⟨u, List.mem_append.2 (Or.inl hu), q1, q2⟩
    · simp only [List.mem_singleton] at h
      subst h
      exact ⟨_, List.mem_append.2 (Or.inr (List.mem_singleton.2 rfl)), rfl, rfl⟩
theorem MadeI.put {l M x l' : List Wd} {lim' q r : Int} (h : MadeI l M) (hp : PuI 600 l x l' lim' q r) (hr : r = 0) : l' = l ++ x ∧ lim' = 600 ∧ q = (l.length : Int) ∧ (l ++ x).length ≤ 600 ∧ MadeI (l ++ x) (M ++ [⟨5, (l.length : Int), ⟨#[]⟩⟩]) := by
  obtain ⟨acc, ms, h1, h2, h3, h4⟩ := h
  rcases hp with ⟨hb, _⟩ | ⟨acc', ms', hok', ⟨_, _, _, _, h⟩ | ⟨_, _, _, _, _, h⟩ | ⟨hx, hl, ⟨_, _, _, _, h⟩ | ⟨hg, e1, e2, e3, _⟩⟩⟩
  · exact absurd hb h1.not_bad
  · omega
  · omega
  · omega
  · obtain ⟨rfl, _⟩ := hok'.chain.ref.same h1.chain.ref hok'.chain.ref.full h1.chain.ref.full
    exact ⟨e1, e2, e3, by rw [List.length_append]; omega, made_more h1 h2 h3 h4 hx hl hg⟩
theorem wds_n (w : World) (x : List Wd) (cells : Array Value) (t : TypeId) (hc : cells.toList = wcs x) : Wds (w.alloc (.cells cells t)) (w.heap.size + 1) (some ⟨w.heap.size, 0, none⟩) x := by
  refine Wds.made (by omega) (fun j _ => ?_)
  rw [Nat.zero_add, World.cell?_alloc_at _ _ _ j rfl, ← hc]
  simp
theorem box4 (w : World) (u0 u1 u2 u3 : Value) (t : TypeId) (W : World) (hW : W = w.alloc (.cells #[u0, u1, u2, u3] t)) :
    (W.cell? ⟨w.heap.size, 0, none⟩ = some u0 ∧ W.cell? ⟨w.heap.size, 1, none⟩ = some u1 ∧ W.cell? ⟨w.heap.size, 2, none⟩ = some u2 ∧ W.cell? ⟨w.heap.size, 3, none⟩ = some u3) ∧ W.heap.size = w.heap.size + 1 ∧ Below w.heap.size w W := by
  subst hW
  refine ⟨⟨?_, ?_, ?_, ?_⟩, by simp, (Below.refl _ _).alloc (Nat.le_refl _) _⟩ <;> go_simp
theorem new1 (w : World) (o : Obj) (W : World) (hW : W = w.alloc o) : W.heap.size = w.heap.size + 1 ∧ Below w.heap.size w W := by
  subst hW
  exact ⟨by simp, (Below.refl _ _).alloc (Nat.le_refl _) _⟩
theorem pick_nat (n : Int) (m : Nat) (hm : 0 < m) : ∃ q : Nat, q < m ∧ pick n m = q := by
  have := pick_range n m (by omega)
  exact ⟨(pick n m).toNat, by omega, by omega⟩
theorem wf3 {k n : Int} {s : ByteArray} {l : List Wd} {q : Nat} (hq : q < l.length) (h : wfL l) (e : l[q] = ⟨k, n, s⟩) : wfI n ∧ s.size ≤ 9223372036854775807 := by
  have := h q hq
  rw [e] at this
  exact this

theorem wfI_of {n : Int} (h0 : 0 ≤ n) (h1 : n ≤ 1000) : wfI n := by
  simp [wfI, Lit.wf, IntKind.min, IntKind.max, IntKind.signed, IntKind.bits]; omega
/-- The end: the heap is told, and what was made. -/
theorem built_end {w wr : World} {am : Option Addr} {mm capm : Nat} {M l : List Wd} (h : BtI w wr (.slice am mm capm) M l) (hM : M.length ≤ 40) : ∀ (a : Option Addr) (cap : Nat), wr.cell? ⟨w.heap.size + 1, 0, none⟩ = some (.slice a l.length cap) →
    ∃ l' M' a' cap' am' capm', Ending.returned (.tuple #[.agg #[.slice a l.length cap, .int .i64 600], .slice am M.length capm]) = .returned (.tuple #[.agg #[.slice a' (List.length l') cap', .int .i64 600], .slice am' (List.length M') capm']) ∧ MadeI l' M' ∧ l'.length ≤ cap' ∧ Wds ((wr.setCell ⟨w.heap.size, 0, none⟩ (.slice a l.length cap)).setCell ⟨w.heap.size, 1, none⟩ (.int .i64 600)) ((wr.setCell ⟨w.heap.size, 0, none⟩ (.slice a l.length cap)).setCell ⟨w.heap.size, 1, none⟩ (.int .i64 600)).heap.size a' l' ∧ Wds ((wr.setCell ⟨w.heap.size, 0, none⟩ (.slice a l.length cap)).setCell ⟨w.heap.size, 1, none⟩ (.int .i64 600)) ((wr.setCell ⟨w.heap.size, 0, none⟩ (.slice a l.length cap)).setCell ⟨w.heap.size, 1, none⟩ (.int .i64 600)).heap.size am' M' ∧ wfL l' ∧ wfL M' ∧ 2 ≤ M'.length ∧ M'.length ≤ 40 ∧ M'.length ≤ capm' ∧ l'.length + 10 ≤ 5 * M'.length ∧ Below w.heap.size w ((wr.setCell ⟨w.heap.size, 0, none⟩ (.slice a l.length cap)).setCell ⟨w.heap.size, 1, none⟩ (.int .i64 600)) := by
  intro a cap hc
  obtain ⟨a2, cap2, q1, q2, q3, q4⟩ := h.box
  rw [hc] at q1
  injection q1 with q1
  injection q1 with e1 _ e3
  subst e1 e3
  obtain ⟨am', capm', hv, p2, p3, p4, _⟩ := h.row.cells
  injection hv with e4 _ e6
  subst e4 e6
  refine ⟨l, M, a, cap, am, capm, rfl, h.ok, q2, q3.kept (by simp) (fun A hA => ?_), p3.kept (by simp) (fun A hA => ?_), h.wf, h.wfm, h.two, hM, p2, h.five, below_set2s h.bel (Nat.le_refl _)⟩
  · have := (q4 A hA).1
    rw [Below.heap_setCell _ _ _ _ (by dsimp only; omega), Below.heap_setCell _ _ _ _ (by dsimp only; omega)]
  · have := p4 A hA
    rw [Below.heap_setCell _ _ _ _ (by dsimp only; omega), Below.heap_setCell _ _ _ _ (by dsimp only; omega)]
set_option maxHeartbeats 16000000 in
theorem built_any (w : World) (B : Nat) (ar : Option Addr) (nr cr : Nat) (R : List Rw4) (most : Nat) (hR : RawS w B ar R) (hB : B ≤ w.heap.size) (hnr : nr = R.length) (hnb : nr ≤ 9223372036854775807) (hmost : most ≤ 30) :
    Calls Try.prog 15 #[.slice ar nr cr, .int .i64 most] w fun e w' => ∃ l M a cap am capm, e = .returned (.tuple #[.agg #[.slice a (List.length l) cap, .int .i64 600], .slice am (List.length M) capm]) ∧ MadeI l M ∧ l.length ≤ cap ∧ Wds w' w'.heap.size a l ∧ Wds w' w'.heap.size am M ∧ wfL l ∧ wfL M ∧ 2 ≤ M.length ∧ M.length ≤ 40 ∧ M.length ≤ capm ∧ l.length + 10 ≤ 5 * M.length ∧ Below w.heap.size w w' := by
  have HNR := hid hnr
  clear hnr
  obtain ⟨i0, hi, iz0, iz1, iz2⟩ := info_parts infoWd
  have HI := hid hi
  have HZ0 := hid iz0
  have HZ1 := hid iz1
  have HZ2 := hid iz2
  clear hi iz0 iz1 iz2
  obtain ⟨w1, hw1⟩ : ∃ w1, w1 = ((w.alloc (.cells #[.slice none 0 0, .int .i64 0] 24)).alloc (.cells #[.slice none 0 0, .int .i64 600] 24)).alloc (.cells #[.int .i64 1, .int .i64 7, .string ⟨#[]⟩, .int .i64 3, .int .i64 0, .string ⟨#[]⟩] 37) := ⟨_, rfl⟩
  have hz1 : w1.heap.size = w.heap.size + 3 := by rw [hw1]; simp
  have hb1 : Below w.heap.size w w1 := by rw [hw1]; exact below_3 _ _ _ _
  have hBt : BtI w w1 (.slice (some ⟨w.heap.size + 2, 0, none⟩) 2 2) [⟨1, 7, ⟨#[]⟩⟩, wN] [] := by
    refine ⟨hb1, by omega, ⟨none, 0, by rw [hw1]; go_simp, Nat.le_refl _, fun i hi => absurd hi (by simp), fun A hA => by cases hA⟩, by rw [hw1]; go_simp, by rw [hw1]; go_simp, by rw [hw1]; go_simp, by rw [hw1]; go_simp, by rw [hw1]; go_simp, by rw [hw1]; go_simp, by rw [hw1]; go_simp, ?_, by simp, ⟨[], [], okC_nil (by omega) (by omega), fun t ht => (by cases ht), fun u hu => ?_, fun t ht => (by cases ht)⟩, wfL_nil0, wfL_cons ⟨by decide, by decide⟩ wfN, by simp⟩
    · refine ⟨rfl, Or.inr ⟨w.heap.size + 2, 2, #[.int .i64 1, .int .i64 7, .string ⟨#[]⟩, .int .i64 3, .int .i64 0, .string ⟨#[]⟩], rfl, Nat.le_refl _, ?_, by simp, by unfold maxLen; omega, rfl, rfl⟩⟩
      rw [hw1]
      have := World.alloc_heap_new ((w.alloc (.cells #[.slice none 0 0, .int .i64 0] 24)).alloc (.cells #[.slice none 0 0, .int .i64 600] 24)) (.cells #[.int .i64 1, .int .i64 7, .string ⟨#[]⟩, .int .i64 3, .int .i64 0, .string ⟨#[]⟩] 37)
      simpa using this
    · simp only [List.mem_cons, List.not_mem_nil, or_false] at hu
      rcases hu with rfl | rfl <;> rfl
  have HBt := hid hBt
  have H1 := hid hw1
  clear hw1 hBt hb1 hz1
  go_enter Try.func15, Try.ntmps15
  go_upto_region 3 with fail
  rw [← H1.out]
  go_wp2_with fail
  go_loopw [7, 8, 9, 10, 11, 12, 13, 14, 15, 58, 63] (fun v i _ _ _ _ _ _ _ _ _ wr => ∃ (k : Nat) (M l : List Wd), i = .int .i64 k ∧ k ≤ most ∧ M.length ≤ 2 + k ∧ BtI w wr v M l) (fun _ i _ _ _ _ _ _ _ _ _ _ => most - (intOf i).toNat)
  case atStart => exact ⟨0, _, _, rfl, Nat.zero_le _, by simp, HBt.out⟩
  case round =>
    obtain ⟨k, M, l, rfl, hk, hM, hF⟩ := hrel
    obtain ⟨am, capm, hv, hcm, hWm, hNm, hFm⟩ := hF.row.cells
    subst hv
    obtain ⟨a, cap, c0, hcap, hW, hfar⟩ := hF.box
    have c1 := hF.lm
    have hsz := hF.size
    obtain ⟨mm, hmm⟩ : ∃ mm, mm = M.length := ⟨_, rfl⟩
    obtain ⟨ln, hln⟩ : ∃ ln, ln = l.length := ⟨_, rfl⟩
    rw [← hmm] at hF hcm ⊢
    rw [← hln] at c0 hcap
    have HMM := hid hmm
    have HLN := hid hln
    have HFk := hid hF
    have hzB : w.heap.size ≤ wr.heap.size := by omega
    by_cases hlt : k < nr ∧ k < most
    · obtain ⟨hlt1, hlt2⟩ := hlt
      have hi1 : (k : Int) < nr := by omega
      have hi2 : (k : Int) < most := by omega
      have hkR : k < R.length := by rw [← HNR.out]; exact hlt1
      obtain ⟨⟨b, ob, rfl, hbB, d0, d1, d2, d3⟩, v0, v1, v2, v3⟩ := hR k hkR
      have y0 := (hF.bel.cell (p := ⟨b, ob + k * 4, none⟩) (by dsimp only; omega)).trans d0
      have y1 := (hF.bel.cell (p := ⟨b, ob + k * 4 + 1, none⟩) (by dsimp only; omega)).trans d1
      have y2 := (hF.bel.cell (p := ⟨b, ob + k * 4 + 2, none⟩) (by dsimp only; omega)).trans d2
      have y3 := (hF.bel.cell (p := ⟨b, ob + k * 4 + 3, none⟩) (by dsimp only; omega)).trans d3
      generalize R[k].k = rk at y0 v0
      generalize R[k].a = ra at y1 v1
      generalize R[k].b = rb at y2 v2
      generalize R[k].c = rc at y3 v3
      clear d0 d1 d2 d3
      have hm2 : 2 ≤ mm := by have := hF.two; omega
      obtain ⟨q1, hq1, hp1⟩ := pick_nat ra mm (by omega)
      obtain ⟨q2, hq2, hp2⟩ := pick_nat rb mm (by omega)
      have hq1M : q1 < M.length := by omega
      have hq2M : q2 < M.length := by omega
      obtain ⟨gm, om, rfl, hgm, a0, a1, a2⟩ := hWm q1 hq1M
      obtain ⟨gm', om', hgo, _, b0, b1, b2⟩ := hWm q2 hq2M
      injection hgo with hgo; injection hgo with hg1 hg2; subst hg1 hg2
      generalize hx1 : M[q1]'hq1M = x1 at a0 a1 a2
      generalize hx2 : M[q2]'hq2M = x2 at b0 b1 b2
      obtain ⟨xk, xn, xs⟩ := x1
      obtain ⟨yk, yn, ys⟩ := x2
      dsimp only at a0 a1 a2 b0 b1 b2
      have hwx := wf3 hq1M hF.wfm hx1
      have hwy := wf3 hq2M hF.wfm hx2
      obtain ⟨w1, hw1⟩ : ∃ w1, w1 = wr.alloc (.cells #[.int .i64 rk, .int .i64 ra, .int .i64 rb, .int .i64 rc] 72) := ⟨_, rfl⟩
      obtain ⟨⟨s0, s1, s2, s3⟩, hz1, hb1⟩ := box4 wr _ _ _ _ _ w1 hw1
      obtain ⟨w2, hw2⟩ : ∃ w2, w2 = w1.alloc (.cells #[.int .i64 xk, .int .i64 xn, .string xs] 37) := ⟨_, rfl⟩
      obtain ⟨⟨t0, t1, t2⟩, _, hz2, hb2⟩ := box3 w1 _ _ _ _ w2 hw2
      obtain ⟨w3, hw3⟩ : ∃ w3, w3 = w2.alloc (.cells #[.int .i64 yk, .int .i64 yn, .string ys] 37) := ⟨_, rfl⟩
      obtain ⟨⟨z0, z1, z2⟩, _, hz3, hb3⟩ := box3 w2 _ _ _ _ w3 hw3
      obtain ⟨w4, hw4⟩ : ∃ w4, w4 = w3.alloc (.cells #[.int .i64 6, .int .i64 0, .string ⟨#[]⟩, .int .i64 xk, .int .i64 xn, .string xs, .int .i64 yk, .int .i64 yn, .string ys] 37) := ⟨_, rfl⟩
      obtain ⟨hz4, hb4⟩ := new1 w3 _ w4 hw4
      have hX4 := wds_n w3 [wP, ⟨xk, xn, xs⟩, ⟨yk, yn, ys⟩] #[.int .i64 6, .int .i64 0, .string ⟨#[]⟩, .int .i64 xk, .int .i64 xn, .string xs, .int .i64 yk, .int .i64 yn, .string ys] 37 rfl
      rw [← hw4] at hX4
      have hb12 := hb1.trans (hb2.mono (by omega))
      have hb23 := hb2.trans (hb3.mono (by omega))
      have hb14 : Below wr.heap.size wr w4 := (hb12.trans (hb3.mono (by omega))).trans (hb4.mono (by omega))
      have hb24 : Below w1.heap.size w1 w4 := hb23.trans (hb4.mono (by omega))
      have hb34 : Below w2.heap.size w2 w4 := hb3.trans (hb4.mono (by omega))
      -- cells along the way
      have a0' := (hb1.cell (p := ⟨gm, om + q1 * 3, none⟩) hgm).trans a0
      have a1' := (hb1.cell (p := ⟨gm, om + q1 * 3 + 1, none⟩) hgm).trans a1
      have a2' := (hb1.cell (p := ⟨gm, om + q1 * 3 + 2, none⟩) hgm).trans a2
      have b0' := (hb12.cell (p := ⟨gm, om + q2 * 3, none⟩) hgm).trans b0
      have b1' := (hb12.cell (p := ⟨gm, om + q2 * 3 + 1, none⟩) hgm).trans b1
      have b2' := (hb12.cell (p := ⟨gm, om + q2 * 3 + 2, none⟩) hgm).trans b2
      have s2' := (hb2.cell (p := ⟨wr.heap.size, 2, none⟩) (by dsimp only; omega)).trans s2
      have t0' := (hb3.cell (p := ⟨w1.heap.size, 0, none⟩) (by dsimp only; omega)).trans t0
      have t1' := (hb3.cell (p := ⟨w1.heap.size, 1, none⟩) (by dsimp only; omega)).trans t1
      have t2' := (hb3.cell (p := ⟨w1.heap.size, 2, none⟩) (by dsimp only; omega)).trans t2
      have S0 := (hb24.cell (p := ⟨wr.heap.size, 0, none⟩) (by dsimp only; omega)).trans s0
      have S3 := (hb24.cell (p := ⟨wr.heap.size, 3, none⟩) (by dsimp only; omega)).trans s3
      have T0 := (hb34.cell (p := ⟨w1.heap.size, 0, none⟩) (by dsimp only; omega)).trans t0
      have T1 := (hb34.cell (p := ⟨w1.heap.size, 1, none⟩) (by dsimp only; omega)).trans t1
      have T2 := (hb34.cell (p := ⟨w1.heap.size, 2, none⟩) (by dsimp only; omega)).trans t2
      have Z0 := (hb4.cell (p := ⟨w2.heap.size, 0, none⟩) (by dsimp only; omega)).trans z0
      have Z1 := (hb4.cell (p := ⟨w2.heap.size, 1, none⟩) (by dsimp only; omega)).trans z1
      have Z2 := (hb4.cell (p := ⟨w2.heap.size, 2, none⟩) (by dsimp only; omega)).trans z2
      have F4 := hF.below hb14
      have HF4 := hid F4
      have HX4 := hid hX4
      have HPk1 := hid (by have h := picked_any ra mm w1 v1.1 v1.2 (by omega) (by omega); rw [hp1] at h; exact h : Calls Try.prog 16 #[.int .i64 ra, .int .i64 (mm : Int)] w1 fun e w' => e = .returned (.int .i64 (q1 : Int)) ∧ w' = w1)
      have HPk2 := hid (by have h := picked_any rb mm w2 v2.1 v2.2 (by omega) (by omega); rw [hp2] at h; exact h : Calls Try.prog 16 #[.int .i64 rb, .int .i64 (mm : Int)] w2 fun e w' => e = .returned (.int .i64 (q2 : Int)) ∧ w' = w2)
      have HPk3 := hid (picked_any rk 4 w4 v0.1 v0.2 (by omega) (by omega))
      have HPc := hid (fun (w' : World) (m : Int) (h1 : 0 < m) (h2 : m ≤ 9) => picked_any rc m w' v3.1 v3.2 h1 (by omega))
      have hpr := pick_range rk 4 (by omega)
      have hpc3 := pick_range rc 3 (by omega)
      have hpc2 := pick_range rc 2 (by omega)
      have hq1i : (q1 : Int) < mm := by omega
      have hq2i : (q2 : Int) < mm := by omega
      have H1 := hid hw1
      have H2 := hid hw2
      have H3 := hid hw3
      have H4 := hid hw4
      have HZs := hid (⟨hz1, hz2, hz3, hz4⟩ : w1.heap.size = wr.heap.size + 1 ∧ w2.heap.size = w1.heap.size + 1 ∧ w3.heap.size = w2.heap.size + 1 ∧ w4.heap.size = w3.heap.size + 1)
      have HWX := hid (And.intro hwx hwy)
      have hmi : (mm : Int) ≤ 40 := by omega
      clear hw1 hw2 hw3 hw4 hz1 hz2 hz3 hz4 hb1 hb2 hb3 hb4 hb12 hb23 hb14 hb24 hb34 hX4 F4 hF hW hWm hp1 hp2 hx1 hx2 hwx hwy a0 a1 a2 b0 b1 b2 c0 c1 hmm hln hq1M hq2M
      go_upto_region 7 with fail
      rw [← H1.out]
      clear y0 y1 y2 y3
      go_wp2_with fail
      have hcall := HPk1.out
      go_fit hcall
      clear hcall
      rintro e w0 ⟨rfl, h0⟩; subst w0
      go_upto_region 8 with fail
      rw [← H2.out]
      clear a0' a1' a2' s0 s1 s2 s3
      go_wp2_with fail
      have hcall := HPk2.out
      go_fit hcall
      clear hcall
      rintro e w0 ⟨rfl, h0⟩; subst w0
      go_upto_region 9 with fail
      rw [← H3.out]
      clear b0' b1' b2' s2' t0 t1 t2
      go_upto_region 10 with fail
      rw [← H4.out]
      clear z0 z1 z2 t0' t1' t2'
      go_wp2_with fail
      have hcall := HPk3.out
      go_fit hcall
      clear hcall
      rintro e w0 ⟨rfl, h0⟩; subst w0
      generalize pick rk 4 = pk at hpr
      by_cases hk0 : pk = 0
      · subst hk0
        obtain ⟨w5, hw5⟩ : ∃ w5, w5 = w4.alloc (.cells #[.int .i64 7, .int .i64 0, .string ⟨#[]⟩, .int .i64 xk, .int .i64 xn, .string xs] 37) := ⟨_, rfl⟩
        obtain ⟨hz5, hb5⟩ := new1 w4 _ w5 hw5
        have hX5 := wds_n w4 [⟨7, 0, ⟨#[]⟩⟩, ⟨xk, xn, xs⟩] #[.int .i64 7, .int .i64 0, .string ⟨#[]⟩, .int .i64 xk, .int .i64 xn, .string xs] 37 rfl
        rw [← hw5] at hX5
        have FX := hid (HF4.out.below hb5)
        have HXX := hid (hX5.mono (show w4.heap.size + 1 ≤ w5.heap.size by omega))
        have H5 := hid hw5
        have hwfx : wfL [⟨7, 0, ⟨#[]⟩⟩, ⟨xk, xn, xs⟩] := wfL_cons ⟨by decide, by decide⟩ (wfL_cons HWX.out.1 wfL_nil0)
        clear hw5 hb5 hX5 hz5
        go_upto_region 15 with fail
        rw [← H5.out]
        clear S0 S3 T0 T1 T2 Z0 Z1 Z2
        obtain ⟨a, cap, c0, hcap, hW, hfar⟩ := FX.out.box
        rw [← HLN.out] at c0 hcap
        have c1 := FX.out.lm
        have hszx := FX.out.size
        have HPut := hid (Put_any w5 w5.heap.size a ln cap l 600 (some ⟨w4.heap.size, 0, none⟩) 2 2 [⟨7, 0, ⟨#[]⟩⟩, ⟨xk, xn, xs⟩] hW (Nat.le_refl _) HLN.out hcap (by have := FX.out.ok; obtain ⟨acc, ms, hok, _⟩ := this; have := hok.room; have := HLN.out; omega) FX.out.wf HXX.out rfl hwfx (by omega))
        clear hW hfar
        go_wp2_with fail
        have hcall := HPut.out
        go_fit hcall
        clear hcall
        rintro e w6 ⟨l', lim', p, r, a', cap', rfl, hpu, hc6, hW6, hb6, hN6⟩
        have F6 := FX.out.below hb6
        have hz6 := hb6.size
        obtain ⟨ln', hln'⟩ : ∃ ln', ln' = List.length l' := ⟨_, rfl⟩
        rw [← hln'] at hc6 ⊢
        obtain ⟨w7, hw7⟩ : ∃ w7, w7 = w6.alloc (.cells #[.slice a' ln' cap', .int .i64 lim'] 24) := ⟨_, rfl⟩
        obtain ⟨hz7, hb7⟩ := new1 w6 _ w7 hw7
        have F7 := F6.below hb7
        have u0 : w7.cell? ⟨w6.heap.size, 0, none⟩ = some (.slice a' ln' cap') := by rw [hw7]; go_simp
        have u1 : w7.cell? ⟨w6.heap.size, 1, none⟩ = some (.int .i64 lim') := by rw [hw7]; go_simp
        have HF7 := hid F7
        have H7 := hid hw7
        have hW7 := (hW6.below hb7).mono (show w6.heap.size ≤ w7.heap.size by omega)
        clear c0 c1
        by_cases hr : r = 0
        · obtain ⟨e1, e2, e3, e4, hMd⟩ := FX.out.ok.put hpu hr
          subst hr
          obtain ⟨pp, hpp⟩ : ∃ pp : Nat, pp = l.length := ⟨_, rfl⟩
          rw [← hpp] at e3 hMd
          subst e3 e2
          obtain ⟨a7, cap7, k0, _, hW7o, hfar7⟩ := F7.box
          have k1 := F7.lm
          have i0 := F7.f0
          have i1 := F7.f1
          obtain ⟨w8, hw8⟩ : ∃ w8, w8 = (w7.setCell ⟨w.heap.size + 1, 0, none⟩ (.slice a' ln' cap')).setCell ⟨w.heap.size + 1, 1, none⟩ (.int .i64 600) := ⟨_, rfl⟩
          have hz8 : w8.heap.size = w7.heap.size := by rw [hw8]; simp
          have ho8 : ∀ b, ¬ b = w.heap.size + 1 → w8.heap[b]? = w7.heap[b]? := fun b hb => by rw [hw8, Below.heap_setCell _ _ _ _ (by dsimp only; omega), Below.heap_setCell _ _ _ _ (by dsimp only; omega)]
          have hB8 : Below w.heap.size w w8 := by rw [hw8]; exact below_set2s F7.bel (by omega)
          have m0 : w8.cell? ⟨w.heap.size + 1, 0, none⟩ = some (.slice a' ln' cap') := by rw [hw8]; exact (World.cell?_setCell_other _ _ _ _ (by intro e; injection e with _ e; omega)).trans (World.cell?_setCell_same _ _ _ k0)
          have m1 : w8.cell? ⟨w.heap.size + 1, 1, none⟩ = some (.int .i64 600) := by rw [hw8]; exact World.cell?_setCell_same _ _ _ ((World.cell?_setCell_other _ _ _ _ (by intro e; injection e with _ e; omega)).trans k1)
          have n0 : w8.frozen? ⟨w.heap.size + 1, 0, none⟩ = false := by rw [hw8]; simpa using i0
          have n1 : w8.frozen? ⟨w.heap.size + 1, 1, none⟩ = false := by rw [hw8]; simpa using i1
          have hW8 : Wds w8 w8.heap.size a' l' := hW7.kept (by omega) (fun A hA => ho8 _ (by have := hN6 A hA; omega))
          obtain ⟨w9, hw9⟩ : ∃ w9, w9 = w8.alloc (.cells #[.int .i64 5, .int .i64 (pp : Int), .string ⟨#[]⟩] 37) := ⟨_, rfl⟩
          obtain ⟨hz9, hb9⟩ := new1 w8 _ w9 hw9
          have hel := news3v w8 (.int .i64 5) (.int .i64 (pp : Int)) (.string ⟨#[]⟩) 37
          rw [← hw9] at hel
          have hrow7 := F7.row
          have hrow9 : WdL w9 (w.heap.size + 2) (.slice (some ⟨gm, om, none⟩) mm capm) M := hrow7.keep (fun b hb => (hb9.block b (by have := hrow7.own_lt hb; omega)).trans (ho8 b (by have := hrow7.own_lt hb; omega)))
          unfold WdL at hrow9
          rw [← HMM.out] at hrow9
          have HOwn := hid hrow9
          have HEl := hid hel
          have HLt := hid (fun b (hb : (Value.slice (some ⟨gm, om, none⟩) mm capm).ownBlock = some b) => hrow7.own_lt hb)
          have hb89 : Below w.heap.size w w9 := hB8.trans (hb9.mono (by omega))
          have hwfl : wfL l' := by rw [e1]; exact wfL_app F7.wf hwfx
          have hppw : wfI (pp : Int) := wfI_nat (by rw [List.length_append] at e4; omega)
          have HFin := hid (fun (v3 : Value) (wf : World) (hown3 : WdL wf (w.heap.size + 2) v3 (M ++ [⟨5, (pp : Int), ⟨#[]⟩⟩])) (hgrow : w9.grownBy wf (some gm)) (hat : ∀ b, v3.ownBlock = some b → b = gm ∨ b = w9.heap.size) => (by
            have hgl := FX.out.row.own_lt (g := gm) rfl
            have hk : ∀ b, b < w9.heap.size → ¬ b = gm → wf.heap[b]? = w9.heap[b]? := fun b h1 h2 => hgrow.block b h1 (fun e => h2 (by injection e))
            have hbg : Below (w.heap.size + 2) w9 wf := (Below.refl _ _).grown hgrow (by omega) (fun j hj => by injection hj with hj; subst hj; exact hgl.1)
            have c : ∀ b o, b < w.heap.size + 2 → wf.cell? ⟨b, o, none⟩ = w8.cell? ⟨b, o, none⟩ := fun b o h => (hbg.cell (p := ⟨b, o, none⟩) h).trans (hb9.cell (p := ⟨b, o, none⟩) (by dsimp only; omega))
            have f : ∀ b o, b < w.heap.size + 2 → wf.frozen? ⟨b, o, none⟩ = w8.frozen? ⟨b, o, none⟩ := fun b o h => (hbg.frozen (p := ⟨b, o, none⟩) h).trans (hb9.frozen (p := ⟨b, o, none⟩) (by dsimp only; omega))
            have d : ∀ o, w8.cell? ⟨w.heap.size, o, none⟩ = w7.cell? ⟨w.heap.size, o, none⟩ := fun o => World.cell?_of_block (w := w7) (ho8 w.heap.size (by omega))
            have g : ∀ o, w8.frozen? ⟨w.heap.size, o, none⟩ = w7.frozen? ⟨w.heap.size, o, none⟩ := fun o => World.frozen?_of_block (w := w7) (ho8 w.heap.size (by omega))
            have hnA : ∀ A, a' = some A → w5.heap.size ≤ A.block := hN6
            have hlA : ∀ A, a' = some A → 0 < l'.length → A.block < w6.heap.size := fun A hA h => hW6.block_lt h hA
            have hx0 : 0 < l'.length := by rw [e1, List.length_append]; simp
            refine ⟨(hb89.trans (hbg.mono (by omega))), by have := hgrow.size; omega, ⟨a', cap', by rw [← hln']; exact (c _ _ (by omega)).trans m0, by rw [← hln']; exact hc6, hW8.kept (by have := hgrow.size; omega) (fun A hA => (hk _ (by have := hlA A hA hx0; omega) (by have := hnA A hA; omega)).trans (hb9.block _ (by have := hlA A hA hx0; omega))), fun A hA => ⟨by have := hnA A hA; omega, by have := hlA A hA hx0; have := hgrow.size; omega, fun e => ?_⟩⟩, (c _ _ (by omega)).trans m1, (f _ _ (by omega)).trans n0, (f _ _ (by omega)).trans n1, (c _ _ (by omega)).trans ((d _).trans F7.r0), (c _ _ (by omega)).trans ((d _).trans F7.r1), (f _ _ (by omega)).trans ((g _).trans F7.g0), (f _ _ (by omega)).trans ((g _).trans F7.g1), hown3, by rw [List.length_append]; have := F7.two; omega, by rw [e1]; exact hMd, hwfl, wfL_app F7.wfm (wfL_cons ⟨hppw, Nat.zero_le _⟩ wfL_nil0), by rw [e1, List.length_append, List.length_append]; have := F7.five; simp only [List.length_cons, List.length_nil]; omega⟩
            have h1 := hnA A hA
            have h2 := hlA A hA hx0
            rcases hat _ e with h | h
            · omega
            · omega : BtI w wf v3 (M ++ [⟨5, (pp : Int), ⟨#[]⟩⟩]) l'))
          have H8 := hid hw8
          have H9 := hid hw9
          have hB9s : w.heap.size + 2 ≤ w9.heap.size := by omega
          have hls7 : w.heap.size + 1 < w6.heap.size := by have := F6.size; omega
          have HMl := hid (And.intro hM HMM.out)
          clear hw7 hw8 hw9 hb7 hb9 hel hrow7 hrow9 F6 F7 HF7 hpu hb6 hW6 hW7 hW8 hN6 ho8 hB8 e1 e4 hMd hfar7 hW7o hb89 hwfl hln' hpp hz7 hz8 hz9
          go_upto_region 16 with fail
          rw [← H7.out]
          go_upto_region 18 with fail
          rw [← H8.out]
          clear u0 u1 k0 k1 i0 i1 m0 m1 n0 n1
          go_wp2_with (at_builtin; go_must (rw [← H9.out]; refine wpList_append_lies _ rfl _ _ 22 rfl (w.heap.size + 2) 37 i0 (.agg #[.int .i64 0, .int .i64 0, .string ⟨#[]⟩]) 3 32 Try.underlying22 HI.out HZ0.out HZ1.out HZ2.out rfl (by decide) _ mm (wcs M) rfl HOwn.out ⟨w8.heap.size, 0, none⟩ 1 1 [.int .i64 5, .int .i64 (pp : Int), .string ⟨#[]⟩] rfl rfl HEl.out (by simp [Value.oneCell']) (by decide) (by unfold maxLen; omega) (by omega) hB9s _ rfl ?_; intro g3 cap3 wf hown3 hgrow3 hat3 hlt3))
          have hML := HMl.out
          have HBf := hid (HFin.out (.slice (some ⟨g3, 0, none⟩) (mm + 1) cap3) wf (by unfold WdL; rw [wcs_append, List.length_append, ← hML.2]; exact hown3) hgrow3 (fun b hb => by
            injection hb with hb
            subst hb
            rcases hat3 with h | h
            · injection h with h; exact Or.inl h.symm
            · exact Or.inr h))
          clear hown3 hgrow3 hat3 hlt3
          go_wp2_with fail
          go_roundw
          case rel => exact ⟨k + 1, _, _, by go_num, by omega, by rw [List.length_append]; have := HMl.out; simp; omega, HBf.out⟩
          case measure => simp [intOf]; omega
        · have hrb : (r != 0) = true := by simp [hr]
          have Q0 := F7.r0
          have Q1 := F7.r1
          have Q2 := F7.g0
          have Q3 := F7.g1
          obtain ⟨a7, cap7, k0, hc7, hW7o, hfar7⟩ := F7.box
          have k1 := F7.lm
          have hls7 : w.heap.size + 1 < w6.heap.size := by have := F6.size; omega
          have HFn := hid (built_end F7 (by have := HMM.out; omega))
          rw [← HLN.out] at k0
          clear hw7 hb7 F6 F7 hpu hb6 hW6 hW7 hN6 hfar7 hW7o hc7 hln'
          go_upto_region 16 with fail
          rw [← H7.out]
          go_wp2_with fail
          refine bodyPost_ret (v := .tuple #[.agg #[.slice a7 ln cap7, .int .i64 600], .slice (some ⟨gm, om, none⟩) mm capm]) (by simp [results, Try.results15, go_sem, Q0, Q1]) rfl ?_
          have h := HFn.out _ _ (by rw [← HLN.out]; exact k0)
          rw [HLN.out, HMM.out]
          exact h
      · have hk0b : (pk == 0) = false := by simp [hk0]
        by_cases hk1 : pk = 1
        · subst hk1
          have hwq3 : wfI (pick rc 3) := wfI_of (by omega) (by omega)
          have hwq4 : wfI (pick rc 2) := wfI_of (by omega) (by omega)
          have hwfx : wfL [⟨9, pick rc 3, ⟨#[]⟩⟩, ⟨1, pick rc 2, ⟨#[]⟩⟩, ⟨1, 2, ⟨#[]⟩⟩, ⟨xk, xn, xs⟩, ⟨yk, yn, ys⟩] := wfL_cons ⟨hwq3, Nat.zero_le _⟩ (wfL_cons ⟨hwq4, Nat.zero_le _⟩ (wfL_cons ⟨by decide, by decide⟩ (wfL_cons HWX.out.1 (wfL_cons HWX.out.2 wfL_nil0))))
          have HNx := hid (fun (W : World) (hW : W = (w4.alloc (.cells #[.int .i64 9, .int .i64 (pick rc 3), .string ⟨#[]⟩, .int .i64 1, .int .i64 (pick rc 2), .string ⟨#[]⟩, .int .i64 1, .int .i64 2, .string ⟨#[]⟩, .int .i64 xk, .int .i64 xn, .string xs, .int .i64 yk, .int .i64 yn, .string ys] 37)).drew) => (by
            have hx0 := wds_n w4 [⟨9, pick rc 3, ⟨#[]⟩⟩, ⟨1, pick rc 2, ⟨#[]⟩⟩, ⟨1, 2, ⟨#[]⟩⟩, ⟨xk, xn, xs⟩, ⟨yk, yn, ys⟩] #[.int .i64 9, .int .i64 (pick rc 3), .string ⟨#[]⟩, .int .i64 1, .int .i64 (pick rc 2), .string ⟨#[]⟩, .int .i64 1, .int .i64 2, .string ⟨#[]⟩, .int .i64 xk, .int .i64 xn, .string xs, .int .i64 yk, .int .i64 yn, .string ys] 37 rfl
            have hx := hx0.below (bdrew (Below.refl _ _) 1)
            have hb : Below w4.heap.size w4 W := by rw [hW]; exact bdrew ((Below.refl _ _).alloc (Nat.le_refl _) _) 1
            exact ⟨HF4.out.below hb, by rw [hW]; exact hx.mono (by simp)⟩ : BtI w W (.slice (some ⟨gm, om, none⟩) mm capm) M l ∧ Wds W W.heap.size (some ⟨w4.heap.size, 0, none⟩) [⟨9, pick rc 3, ⟨#[]⟩⟩, ⟨1, pick rc 2, ⟨#[]⟩⟩, ⟨1, 2, ⟨#[]⟩⟩, ⟨xk, xn, xs⟩, ⟨yk, yn, ys⟩]))
          have HSd := hid (fun (w' : World) (h : w' = w4.drew) => (by subst h; exact ⟨S3, T0, T1, T2, Z0, Z1, Z2⟩ : w'.cell? ⟨wr.heap.size, 3, none⟩ = some (.int .i64 rc) ∧ w'.cell? ⟨w1.heap.size, 0, none⟩ = some (.int .i64 xk) ∧ w'.cell? ⟨w1.heap.size, 1, none⟩ = some (.int .i64 xn) ∧ w'.cell? ⟨w1.heap.size, 2, none⟩ = some (.string xs) ∧ w'.cell? ⟨w2.heap.size, 0, none⟩ = some (.int .i64 yk) ∧ w'.cell? ⟨w2.heap.size, 1, none⟩ = some (.int .i64 yn) ∧ w'.cell? ⟨w2.heap.size, 2, none⟩ = some (.string ys)))
          have HSe := hid (fun (w' : World) (h : w' = (w4.alloc (.cells #[.int .i64 9, .int .i64 (pick rc 3), .string ⟨#[]⟩, .int .i64 1, .int .i64 (pick rc 2), .string ⟨#[]⟩, .int .i64 1, .int .i64 2, .string ⟨#[]⟩, .int .i64 xk, .int .i64 xn, .string xs, .int .i64 yk, .int .i64 yn, .string ys] 37)).drew) => (by
            have hb : Below w4.heap.size w4 w' := by rw [h]; exact bdrew ((Below.refl _ _).alloc (Nat.le_refl _) _) 1
            have hz := HZs.out
            exact ⟨(hb.cell (p := ⟨wr.heap.size, 3, none⟩) (by dsimp only; omega)).trans S3, (hb.cell (p := ⟨w1.heap.size, 0, none⟩) (by dsimp only; omega)).trans T0, (hb.cell (p := ⟨w1.heap.size, 1, none⟩) (by dsimp only; omega)).trans T1, (hb.cell (p := ⟨w1.heap.size, 2, none⟩) (by dsimp only; omega)).trans T2, (hb.cell (p := ⟨w2.heap.size, 0, none⟩) (by dsimp only; omega)).trans Z0, (hb.cell (p := ⟨w2.heap.size, 1, none⟩) (by dsimp only; omega)).trans Z1, (hb.cell (p := ⟨w2.heap.size, 2, none⟩) (by dsimp only; omega)).trans Z2⟩ : w'.cell? ⟨wr.heap.size, 3, none⟩ = some (.int .i64 rc) ∧ w'.cell? ⟨w1.heap.size, 0, none⟩ = some (.int .i64 xk) ∧ w'.cell? ⟨w1.heap.size, 1, none⟩ = some (.int .i64 xn) ∧ w'.cell? ⟨w1.heap.size, 2, none⟩ = some (.string xs) ∧ w'.cell? ⟨w2.heap.size, 0, none⟩ = some (.int .i64 yk) ∧ w'.cell? ⟨w2.heap.size, 1, none⟩ = some (.int .i64 yn) ∧ w'.cell? ⟨w2.heap.size, 2, none⟩ = some (.string ys)))
          go_upto_region 14 with fail
          obtain ⟨w5, hw5⟩ : ∃ w5, w5 = (w4.alloc (.cells #[.int .i64 9, .int .i64 (pick rc 3), .string ⟨#[]⟩, .int .i64 1, .int .i64 (pick rc 2), .string ⟨#[]⟩, .int .i64 1, .int .i64 2, .string ⟨#[]⟩, .int .i64 xk, .int .i64 xn, .string xs, .int .i64 yk, .int .i64 yn, .string ys] 37)).drew := ⟨_, rfl⟩
          obtain ⟨hFX, hX5⟩ := HNx.out w5 hw5
          have H5 := hid hw5
          have FX := hid hFX
          have HXX := hid hX5
          clear hw5 hFX hX5 HNx
          go_region_held3 (fun w' => w'.cell? ⟨wr.heap.size, 3, none⟩ = some (.int .i64 rc) ∧ w'.cell? ⟨w1.heap.size, 0, none⟩ = some (.int .i64 xk) ∧ w'.cell? ⟨w1.heap.size, 1, none⟩ = some (.int .i64 xn) ∧ w'.cell? ⟨w1.heap.size, 2, none⟩ = some (.string xs) ∧ w'.cell? ⟨w2.heap.size, 0, none⟩ = some (.int .i64 yk) ∧ w'.cell? ⟨w2.heap.size, 1, none⟩ = some (.int .i64 yn) ∧ w'.cell? ⟨w2.heap.size, 2, none⟩ = some (.string ys))
            (first | (exact HSd.out _ rfl) | (exact HSe.out _ rfl))
            (first
            | (go_at_call 16; refine (HPc.out _ _ (by omega) (by omega)).mono ?_; rintro e w0 ⟨rfl, h0⟩; subst w0))
          all_goals
            go_upto_region 15 with fail
            rw [← H5.out]
            clear S0 S3 T0 T1 T2 Z0 Z1 Z2
            obtain ⟨a, cap, c0, hcap, hW, hfar⟩ := FX.out.box
            rw [← HLN.out] at c0 hcap
            have c1 := FX.out.lm
            have hszx := FX.out.size
            have HPut := hid (Put_any w5 w5.heap.size a ln cap l 600 (some ⟨w4.heap.size, 0, none⟩) 5 5 [⟨9, pick rc 3, ⟨#[]⟩⟩, ⟨1, pick rc 2, ⟨#[]⟩⟩, ⟨1, 2, ⟨#[]⟩⟩, ⟨xk, xn, xs⟩, ⟨yk, yn, ys⟩] hW (Nat.le_refl _) HLN.out hcap (by have := FX.out.ok; obtain ⟨acc, ms, hok, _⟩ := this; have := hok.room; have := HLN.out; omega) FX.out.wf HXX.out rfl hwfx (by omega))
            clear hW hfar
            go_wp2_with fail
            have hcall := HPut.out
            go_fit hcall
            clear hcall
            rintro e w6 ⟨l', lim', p, r, a', cap', rfl, hpu, hc6, hW6, hb6, hN6⟩
            have F6 := FX.out.below hb6
            have hz6 := hb6.size
            obtain ⟨ln', hln'⟩ : ∃ ln', ln' = List.length l' := ⟨_, rfl⟩
            rw [← hln'] at hc6 ⊢
            obtain ⟨w7, hw7⟩ : ∃ w7, w7 = w6.alloc (.cells #[.slice a' ln' cap', .int .i64 lim'] 24) := ⟨_, rfl⟩
            obtain ⟨hz7, hb7⟩ := new1 w6 _ w7 hw7
            have F7 := F6.below hb7
            have u0 : w7.cell? ⟨w6.heap.size, 0, none⟩ = some (.slice a' ln' cap') := by rw [hw7]; go_simp
            have u1 : w7.cell? ⟨w6.heap.size, 1, none⟩ = some (.int .i64 lim') := by rw [hw7]; go_simp
            have HF7 := hid F7
            have H7 := hid hw7
            have hW7 := (hW6.below hb7).mono (show w6.heap.size ≤ w7.heap.size by omega)
            clear c0 c1
            by_cases hr : r = 0
            · obtain ⟨e1, e2, e3, e4, hMd⟩ := FX.out.ok.put hpu hr
              subst hr
              obtain ⟨pp, hpp⟩ : ∃ pp : Nat, pp = l.length := ⟨_, rfl⟩
              rw [← hpp] at e3 hMd
              subst e3 e2
              obtain ⟨a7, cap7, k0, _, hW7o, hfar7⟩ := F7.box
              have k1 := F7.lm
              have i0 := F7.f0
              have i1 := F7.f1
              obtain ⟨w8, hw8⟩ : ∃ w8, w8 = (w7.setCell ⟨w.heap.size + 1, 0, none⟩ (.slice a' ln' cap')).setCell ⟨w.heap.size + 1, 1, none⟩ (.int .i64 600) := ⟨_, rfl⟩
              have hz8 : w8.heap.size = w7.heap.size := by rw [hw8]; simp
              have ho8 : ∀ b, ¬ b = w.heap.size + 1 → w8.heap[b]? = w7.heap[b]? := fun b hb => by rw [hw8, Below.heap_setCell _ _ _ _ (by dsimp only; omega), Below.heap_setCell _ _ _ _ (by dsimp only; omega)]
              have hB8 : Below w.heap.size w w8 := by rw [hw8]; exact below_set2s F7.bel (by omega)
              have m0 : w8.cell? ⟨w.heap.size + 1, 0, none⟩ = some (.slice a' ln' cap') := by rw [hw8]; exact (World.cell?_setCell_other _ _ _ _ (by intro e; injection e with _ e; omega)).trans (World.cell?_setCell_same _ _ _ k0)
              have m1 : w8.cell? ⟨w.heap.size + 1, 1, none⟩ = some (.int .i64 600) := by rw [hw8]; exact World.cell?_setCell_same _ _ _ ((World.cell?_setCell_other _ _ _ _ (by intro e; injection e with _ e; omega)).trans k1)
              have n0 : w8.frozen? ⟨w.heap.size + 1, 0, none⟩ = false := by rw [hw8]; simpa using i0
              have n1 : w8.frozen? ⟨w.heap.size + 1, 1, none⟩ = false := by rw [hw8]; simpa using i1
              have hW8 : Wds w8 w8.heap.size a' l' := hW7.kept (by omega) (fun A hA => ho8 _ (by have := hN6 A hA; omega))
              obtain ⟨w9, hw9⟩ : ∃ w9, w9 = w8.alloc (.cells #[.int .i64 5, .int .i64 (pp : Int), .string ⟨#[]⟩] 37) := ⟨_, rfl⟩
              obtain ⟨hz9, hb9⟩ := new1 w8 _ w9 hw9
              have hel := news3v w8 (.int .i64 5) (.int .i64 (pp : Int)) (.string ⟨#[]⟩) 37
              rw [← hw9] at hel
              have hrow7 := F7.row
              have hrow9 : WdL w9 (w.heap.size + 2) (.slice (some ⟨gm, om, none⟩) mm capm) M := hrow7.keep (fun b hb => (hb9.block b (by have := hrow7.own_lt hb; omega)).trans (ho8 b (by have := hrow7.own_lt hb; omega)))
              unfold WdL at hrow9
              rw [← HMM.out] at hrow9
              have HOwn := hid hrow9
              have HEl := hid hel
              have HLt := hid (fun b (hb : (Value.slice (some ⟨gm, om, none⟩) mm capm).ownBlock = some b) => hrow7.own_lt hb)
              have hb89 : Below w.heap.size w w9 := hB8.trans (hb9.mono (by omega))
              have hwfl : wfL l' := by rw [e1]; exact wfL_app F7.wf hwfx
              have hppw : wfI (pp : Int) := wfI_nat (by rw [List.length_append] at e4; omega)
              have HFin := hid (fun (v3 : Value) (wf : World) (hown3 : WdL wf (w.heap.size + 2) v3 (M ++ [⟨5, (pp : Int), ⟨#[]⟩⟩])) (hgrow : w9.grownBy wf (some gm)) (hat : ∀ b, v3.ownBlock = some b → b = gm ∨ b = w9.heap.size) => (by
                have hgl := FX.out.row.own_lt (g := gm) rfl
                have hk : ∀ b, b < w9.heap.size → ¬ b = gm → wf.heap[b]? = w9.heap[b]? := fun b h1 h2 => hgrow.block b h1 (fun e => h2 (by injection e))
                have hbg : Below (w.heap.size + 2) w9 wf := (Below.refl _ _).grown hgrow (by omega) (fun j hj => by injection hj with hj; subst hj; exact hgl.1)
                have c : ∀ b o, b < w.heap.size + 2 → wf.cell? ⟨b, o, none⟩ = w8.cell? ⟨b, o, none⟩ := fun b o h => (hbg.cell (p := ⟨b, o, none⟩) h).trans (hb9.cell (p := ⟨b, o, none⟩) (by dsimp only; omega))
                have f : ∀ b o, b < w.heap.size + 2 → wf.frozen? ⟨b, o, none⟩ = w8.frozen? ⟨b, o, none⟩ := fun b o h => (hbg.frozen (p := ⟨b, o, none⟩) h).trans (hb9.frozen (p := ⟨b, o, none⟩) (by dsimp only; omega))
                have d : ∀ o, w8.cell? ⟨w.heap.size, o, none⟩ = w7.cell? ⟨w.heap.size, o, none⟩ := fun o => World.cell?_of_block (w := w7) (ho8 w.heap.size (by omega))
                have g : ∀ o, w8.frozen? ⟨w.heap.size, o, none⟩ = w7.frozen? ⟨w.heap.size, o, none⟩ := fun o => World.frozen?_of_block (w := w7) (ho8 w.heap.size (by omega))
                have hnA : ∀ A, a' = some A → w5.heap.size ≤ A.block := hN6
                have hlA : ∀ A, a' = some A → 0 < l'.length → A.block < w6.heap.size := fun A hA h => hW6.block_lt h hA
                have hx0 : 0 < l'.length := by rw [e1, List.length_append]; simp
                refine ⟨(hb89.trans (hbg.mono (by omega))), by have := hgrow.size; omega, ⟨a', cap', by rw [← hln']; exact (c _ _ (by omega)).trans m0, by rw [← hln']; exact hc6, hW8.kept (by have := hgrow.size; omega) (fun A hA => (hk _ (by have := hlA A hA hx0; omega) (by have := hnA A hA; omega)).trans (hb9.block _ (by have := hlA A hA hx0; omega))), fun A hA => ⟨by have := hnA A hA; omega, by have := hlA A hA hx0; have := hgrow.size; omega, fun e => ?_⟩⟩, (c _ _ (by omega)).trans m1, (f _ _ (by omega)).trans n0, (f _ _ (by omega)).trans n1, (c _ _ (by omega)).trans ((d _).trans F7.r0), (c _ _ (by omega)).trans ((d _).trans F7.r1), (f _ _ (by omega)).trans ((g _).trans F7.g0), (f _ _ (by omega)).trans ((g _).trans F7.g1), hown3, by rw [List.length_append]; have := F7.two; omega, by rw [e1]; exact hMd, hwfl, wfL_app F7.wfm (wfL_cons ⟨hppw, Nat.zero_le _⟩ wfL_nil0), by rw [e1, List.length_append, List.length_append]; have := F7.five; simp only [List.length_cons, List.length_nil]; omega⟩
                have h1 := hnA A hA
                have h2 := hlA A hA hx0
                rcases hat _ e with h | h
                · omega
                · omega : BtI w wf v3 (M ++ [⟨5, (pp : Int), ⟨#[]⟩⟩]) l'))
              have H8 := hid hw8
              have H9 := hid hw9
              have hB9s : w.heap.size + 2 ≤ w9.heap.size := by omega
              have hls7 : w.heap.size + 1 < w6.heap.size := by have := F6.size; omega
              have HMl := hid (And.intro hM HMM.out)
              clear hw7 hw8 hw9 hb7 hb9 hel hrow7 hrow9 F6 F7 HF7 hpu hb6 hW6 hW7 hW8 hN6 ho8 hB8 e1 e4 hMd hfar7 hW7o hb89 hwfl hln' hpp hz7 hz8 hz9
              go_upto_region 16 with fail
              rw [← H7.out]
              go_upto_region 18 with fail
              rw [← H8.out]
              clear u0 u1 k0 k1 i0 i1 m0 m1 n0 n1
              go_wp2_with (at_builtin; go_must (rw [← H9.out]; refine wpList_append_lies _ rfl _ _ 22 rfl (w.heap.size + 2) 37 i0 (.agg #[.int .i64 0, .int .i64 0, .string ⟨#[]⟩]) 3 32 Try.underlying22 HI.out HZ0.out HZ1.out HZ2.out rfl (by decide) _ mm (wcs M) rfl HOwn.out ⟨w8.heap.size, 0, none⟩ 1 1 [.int .i64 5, .int .i64 (pp : Int), .string ⟨#[]⟩] rfl rfl HEl.out (by simp [Value.oneCell']) (by decide) (by unfold maxLen; omega) (by omega) hB9s _ rfl ?_; intro g3 cap3 wf hown3 hgrow3 hat3 hlt3))
              have hML := HMl.out
              have HBf := hid (HFin.out (.slice (some ⟨g3, 0, none⟩) (mm + 1) cap3) wf (by unfold WdL; rw [wcs_append, List.length_append, ← hML.2]; exact hown3) hgrow3 (fun b hb => by
                injection hb with hb
                subst hb
                rcases hat3 with h | h
                · injection h with h; exact Or.inl h.symm
                · exact Or.inr h))
              clear hown3 hgrow3 hat3 hlt3
              go_wp2_with fail
              go_roundw
              case rel => exact ⟨k + 1, _, _, by go_num, by omega, by rw [List.length_append]; have := HMl.out; simp; omega, HBf.out⟩
              case measure => simp [intOf]; omega
            · have hrb : (r != 0) = true := by simp [hr]
              have Q0 := F7.r0
              have Q1 := F7.r1
              have Q2 := F7.g0
              have Q3 := F7.g1
              obtain ⟨a7, cap7, k0, hc7, hW7o, hfar7⟩ := F7.box
              have k1 := F7.lm
              have hls7 : w.heap.size + 1 < w6.heap.size := by have := F6.size; omega
              have HFn := hid (built_end F7 (by have := HMM.out; omega))
              rw [← HLN.out] at k0
              clear hw7 hb7 F6 F7 hpu hb6 hW6 hW7 hN6 hfar7 hW7o hc7 hln'
              go_upto_region 16 with fail
              rw [← H7.out]
              go_wp2_with fail
              refine bodyPost_ret (v := .tuple #[.agg #[.slice a7 ln cap7, .int .i64 600], .slice (some ⟨gm, om, none⟩) mm capm]) (by simp [results, Try.results15, go_sem, Q0, Q1]) rfl ?_
              have h := HFn.out _ _ (by rw [← HLN.out]; exact k0)
              rw [HLN.out, HMM.out]
              exact h
        · have hk1b : (pk == 1) = false := by simp [hk1]
          have FX := HF4
          have HXX := hid (HX4.out.mono (show w3.heap.size + 1 ≤ w4.heap.size by have := HZs.out; omega))
          have hwfx : wfL [wP, ⟨xk, xn, xs⟩, ⟨yk, yn, ys⟩] := wfL_cons ⟨by decide, by decide⟩ (wfL_cons HWX.out.1 (wfL_cons HWX.out.2 wfL_nil0))
          go_upto_region 15 with fail
          clear S0 S3 T0 T1 T2 Z0 Z1 Z2
          obtain ⟨a, cap, c0, hcap, hW, hfar⟩ := FX.out.box
          rw [← HLN.out] at c0 hcap
          have c1 := FX.out.lm
          have hszx := FX.out.size
          have HPut := hid (Put_any w4 w4.heap.size a ln cap l 600 (some ⟨w3.heap.size, 0, none⟩) 3 3 [wP, ⟨xk, xn, xs⟩, ⟨yk, yn, ys⟩] hW (Nat.le_refl _) HLN.out hcap (by have := FX.out.ok; obtain ⟨acc, ms, hok, _⟩ := this; have := hok.room; have := HLN.out; omega) FX.out.wf HXX.out rfl hwfx (by omega))
          clear hW hfar
          go_wp2_with fail
          have hcall := HPut.out
          go_fit hcall
          clear hcall
          rintro e w6 ⟨l', lim', p, r, a', cap', rfl, hpu, hc6, hW6, hb6, hN6⟩
          have F6 := FX.out.below hb6
          have hz6 := hb6.size
          obtain ⟨ln', hln'⟩ : ∃ ln', ln' = List.length l' := ⟨_, rfl⟩
          rw [← hln'] at hc6 ⊢
          obtain ⟨w7, hw7⟩ : ∃ w7, w7 = w6.alloc (.cells #[.slice a' ln' cap', .int .i64 lim'] 24) := ⟨_, rfl⟩
          obtain ⟨hz7, hb7⟩ := new1 w6 _ w7 hw7
          have F7 := F6.below hb7
          have u0 : w7.cell? ⟨w6.heap.size, 0, none⟩ = some (.slice a' ln' cap') := by rw [hw7]; go_simp
          have u1 : w7.cell? ⟨w6.heap.size, 1, none⟩ = some (.int .i64 lim') := by rw [hw7]; go_simp
          have HF7 := hid F7
          have H7 := hid hw7
          have hW7 := (hW6.below hb7).mono (show w6.heap.size ≤ w7.heap.size by omega)
          clear c0 c1
          by_cases hr : r = 0
          · obtain ⟨e1, e2, e3, e4, hMd⟩ := FX.out.ok.put hpu hr
            subst hr
            obtain ⟨pp, hpp⟩ : ∃ pp : Nat, pp = l.length := ⟨_, rfl⟩
            rw [← hpp] at e3 hMd
            subst e3 e2
            obtain ⟨a7, cap7, k0, _, hW7o, hfar7⟩ := F7.box
            have k1 := F7.lm
            have i0 := F7.f0
            have i1 := F7.f1
            obtain ⟨w8, hw8⟩ : ∃ w8, w8 = (w7.setCell ⟨w.heap.size + 1, 0, none⟩ (.slice a' ln' cap')).setCell ⟨w.heap.size + 1, 1, none⟩ (.int .i64 600) := ⟨_, rfl⟩
            have hz8 : w8.heap.size = w7.heap.size := by rw [hw8]; simp
            have ho8 : ∀ b, ¬ b = w.heap.size + 1 → w8.heap[b]? = w7.heap[b]? := fun b hb => by rw [hw8, Below.heap_setCell _ _ _ _ (by dsimp only; omega), Below.heap_setCell _ _ _ _ (by dsimp only; omega)]
            have hB8 : Below w.heap.size w w8 := by rw [hw8]; exact below_set2s F7.bel (by omega)
            have m0 : w8.cell? ⟨w.heap.size + 1, 0, none⟩ = some (.slice a' ln' cap') := by rw [hw8]; exact (World.cell?_setCell_other _ _ _ _ (by intro e; injection e with _ e; omega)).trans (World.cell?_setCell_same _ _ _ k0)
            have m1 : w8.cell? ⟨w.heap.size + 1, 1, none⟩ = some (.int .i64 600) := by rw [hw8]; exact World.cell?_setCell_same _ _ _ ((World.cell?_setCell_other _ _ _ _ (by intro e; injection e with _ e; omega)).trans k1)
            have n0 : w8.frozen? ⟨w.heap.size + 1, 0, none⟩ = false := by rw [hw8]; simpa using i0
            have n1 : w8.frozen? ⟨w.heap.size + 1, 1, none⟩ = false := by rw [hw8]; simpa using i1
            have hW8 : Wds w8 w8.heap.size a' l' := hW7.kept (by omega) (fun A hA => ho8 _ (by have := hN6 A hA; omega))
            obtain ⟨w9, hw9⟩ : ∃ w9, w9 = w8.alloc (.cells #[.int .i64 5, .int .i64 (pp : Int), .string ⟨#[]⟩] 37) := ⟨_, rfl⟩
            obtain ⟨hz9, hb9⟩ := new1 w8 _ w9 hw9
            have hel := news3v w8 (.int .i64 5) (.int .i64 (pp : Int)) (.string ⟨#[]⟩) 37
            rw [← hw9] at hel
            have hrow7 := F7.row
            have hrow9 : WdL w9 (w.heap.size + 2) (.slice (some ⟨gm, om, none⟩) mm capm) M := hrow7.keep (fun b hb => (hb9.block b (by have := hrow7.own_lt hb; omega)).trans (ho8 b (by have := hrow7.own_lt hb; omega)))
            unfold WdL at hrow9
            rw [← HMM.out] at hrow9
            have HOwn := hid hrow9
            have HEl := hid hel
            have HLt := hid (fun b (hb : (Value.slice (some ⟨gm, om, none⟩) mm capm).ownBlock = some b) => hrow7.own_lt hb)
            have hb89 : Below w.heap.size w w9 := hB8.trans (hb9.mono (by omega))
            have hwfl : wfL l' := by rw [e1]; exact wfL_app F7.wf hwfx
            have hppw : wfI (pp : Int) := wfI_nat (by rw [List.length_append] at e4; omega)
            have HFin := hid (fun (v3 : Value) (wf : World) (hown3 : WdL wf (w.heap.size + 2) v3 (M ++ [⟨5, (pp : Int), ⟨#[]⟩⟩])) (hgrow : w9.grownBy wf (some gm)) (hat : ∀ b, v3.ownBlock = some b → b = gm ∨ b = w9.heap.size) => (by
              have hgl := FX.out.row.own_lt (g := gm) rfl
              have hk : ∀ b, b < w9.heap.size → ¬ b = gm → wf.heap[b]? = w9.heap[b]? := fun b h1 h2 => hgrow.block b h1 (fun e => h2 (by injection e))
              have hbg : Below (w.heap.size + 2) w9 wf := (Below.refl _ _).grown hgrow (by omega) (fun j hj => by injection hj with hj; subst hj; exact hgl.1)
              have c : ∀ b o, b < w.heap.size + 2 → wf.cell? ⟨b, o, none⟩ = w8.cell? ⟨b, o, none⟩ := fun b o h => (hbg.cell (p := ⟨b, o, none⟩) h).trans (hb9.cell (p := ⟨b, o, none⟩) (by dsimp only; omega))
              have f : ∀ b o, b < w.heap.size + 2 → wf.frozen? ⟨b, o, none⟩ = w8.frozen? ⟨b, o, none⟩ := fun b o h => (hbg.frozen (p := ⟨b, o, none⟩) h).trans (hb9.frozen (p := ⟨b, o, none⟩) (by dsimp only; omega))
              have d : ∀ o, w8.cell? ⟨w.heap.size, o, none⟩ = w7.cell? ⟨w.heap.size, o, none⟩ := fun o => World.cell?_of_block (w := w7) (ho8 w.heap.size (by omega))
              have g : ∀ o, w8.frozen? ⟨w.heap.size, o, none⟩ = w7.frozen? ⟨w.heap.size, o, none⟩ := fun o => World.frozen?_of_block (w := w7) (ho8 w.heap.size (by omega))
              have hnA : ∀ A, a' = some A → w4.heap.size ≤ A.block := hN6
              have hlA : ∀ A, a' = some A → 0 < l'.length → A.block < w6.heap.size := fun A hA h => hW6.block_lt h hA
              have hx0 : 0 < l'.length := by rw [e1, List.length_append]; simp
              refine ⟨(hb89.trans (hbg.mono (by omega))), by have := hgrow.size; omega, ⟨a', cap', by rw [← hln']; exact (c _ _ (by omega)).trans m0, by rw [← hln']; exact hc6, hW8.kept (by have := hgrow.size; omega) (fun A hA => (hk _ (by have := hlA A hA hx0; omega) (by have := hnA A hA; omega)).trans (hb9.block _ (by have := hlA A hA hx0; omega))), fun A hA => ⟨by have := hnA A hA; omega, by have := hlA A hA hx0; have := hgrow.size; omega, fun e => ?_⟩⟩, (c _ _ (by omega)).trans m1, (f _ _ (by omega)).trans n0, (f _ _ (by omega)).trans n1, (c _ _ (by omega)).trans ((d _).trans F7.r0), (c _ _ (by omega)).trans ((d _).trans F7.r1), (f _ _ (by omega)).trans ((g _).trans F7.g0), (f _ _ (by omega)).trans ((g _).trans F7.g1), hown3, by rw [List.length_append]; have := F7.two; omega, by rw [e1]; exact hMd, hwfl, wfL_app F7.wfm (wfL_cons ⟨hppw, Nat.zero_le _⟩ wfL_nil0), by rw [e1, List.length_append, List.length_append]; have := F7.five; simp only [List.length_cons, List.length_nil]; omega⟩
              have h1 := hnA A hA
              have h2 := hlA A hA hx0
              rcases hat _ e with h | h
              · omega
              · omega : BtI w wf v3 (M ++ [⟨5, (pp : Int), ⟨#[]⟩⟩]) l'))
            have H8 := hid hw8
            have H9 := hid hw9
            have hB9s : w.heap.size + 2 ≤ w9.heap.size := by omega
            have hls7 : w.heap.size + 1 < w6.heap.size := by have := F6.size; omega
            have HMl := hid (And.intro hM HMM.out)
            clear hw7 hw8 hw9 hb7 hb9 hel hrow7 hrow9 F6 F7 HF7 hpu hb6 hW6 hW7 hW8 hN6 ho8 hB8 e1 e4 hMd hfar7 hW7o hb89 hwfl hln' hpp hz7 hz8 hz9
            go_upto_region 16 with fail
            rw [← H7.out]
            go_upto_region 18 with fail
            rw [← H8.out]
            clear u0 u1 k0 k1 i0 i1 m0 m1 n0 n1
            go_wp2_with (at_builtin; go_must (rw [← H9.out]; refine wpList_append_lies _ rfl _ _ 22 rfl (w.heap.size + 2) 37 i0 (.agg #[.int .i64 0, .int .i64 0, .string ⟨#[]⟩]) 3 32 Try.underlying22 HI.out HZ0.out HZ1.out HZ2.out rfl (by decide) _ mm (wcs M) rfl HOwn.out ⟨w8.heap.size, 0, none⟩ 1 1 [.int .i64 5, .int .i64 (pp : Int), .string ⟨#[]⟩] rfl rfl HEl.out (by simp [Value.oneCell']) (by decide) (by unfold maxLen; omega) (by omega) hB9s _ rfl ?_; intro g3 cap3 wf hown3 hgrow3 hat3 hlt3))
            have hML := HMl.out
            have HBf := hid (HFin.out (.slice (some ⟨g3, 0, none⟩) (mm + 1) cap3) wf (by unfold WdL; rw [wcs_append, List.length_append, ← hML.2]; exact hown3) hgrow3 (fun b hb => by
              injection hb with hb
              subst hb
              rcases hat3 with h | h
              · injection h with h; exact Or.inl h.symm
              · exact Or.inr h))
            clear hown3 hgrow3 hat3 hlt3
            go_wp2_with fail
            go_roundw
            case rel => exact ⟨k + 1, _, _, by go_num, by omega, by rw [List.length_append]; have := HMl.out; simp; omega, HBf.out⟩
            case measure => simp [intOf]; omega
          · have hrb : (r != 0) = true := by simp [hr]
            have Q0 := F7.r0
            have Q1 := F7.r1
            have Q2 := F7.g0
            have Q3 := F7.g1
            obtain ⟨a7, cap7, k0, hc7, hW7o, hfar7⟩ := F7.box
            have k1 := F7.lm
            have hls7 : w.heap.size + 1 < w6.heap.size := by have := F6.size; omega
            have HFn := hid (built_end F7 (by have := HMM.out; omega))
            rw [← HLN.out] at k0
            clear hw7 hb7 F6 F7 hpu hb6 hW6 hW7 hN6 hfar7 hW7o hc7 hln'
            go_upto_region 16 with fail
            rw [← H7.out]
            go_wp2_with fail
            refine bodyPost_ret (v := .tuple #[.agg #[.slice a7 ln cap7, .int .i64 600], .slice (some ⟨gm, om, none⟩) mm capm]) (by simp [results, Try.results15, go_sem, Q0, Q1]) rfl ?_
            have h := HFn.out _ _ (by rw [← HLN.out]; exact k0)
            rw [HLN.out, HMM.out]
            exact h
    · have HFn := hid (built_end hF (by omega))
      have Q0 := hF.r0
      have Q1 := hF.r1
      have Q2 := hF.g0
      have Q3 := hF.g1
      have hcd : decide ((k : Int) < nr) = false ∨ ((k : Int) < nr ∧ ¬ (k : Int) < most) := by
        by_cases h : k < nr
        · exact Or.inr ⟨by omega, by omega⟩
        · exact Or.inl (by simp; omega)
      clear hF hW hWm hfar hmm hln
      rcases hcd with h | ⟨h1, h2⟩
      · have h' : ¬ (k : Int) < nr := by simpa using h
        go_wp2_with fail
        refine bodyPost_ret (v := .tuple #[.agg #[.slice a ln cap, .int .i64 600], .slice am mm capm]) (by simp [results, Try.results15, go_sem, Q0, Q1]) rfl ?_
        have h := HFn.out _ _ (by rw [← HLN.out]; exact c0)
        rw [HLN.out, HMM.out]
        exact h
      · go_wp2_with fail
        refine bodyPost_ret (v := .tuple #[.agg #[.slice a ln cap, .int .i64 600], .slice am mm capm]) (by simp [results, Try.results15, go_sem, Q0, Q1]) rfl ?_
        have h := HFn.out _ _ (by rw [← HLN.out]; exact c0)
        rw [HLN.out, HMM.out]
        exact h
end Go.Proofs.Ytfjfobpdlmdddaa

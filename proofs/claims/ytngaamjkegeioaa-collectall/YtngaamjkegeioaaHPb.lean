/- A pair that is put on a built heap, its parts, and one that is changed. -/
import Derived.Test.YtngaamjkegeioaaHRaws
import Derived.Test.YtngaamjkegeioaaHChange
namespace Go.Proofs.Ytngaamjkegeioaa
set_option maxRecDepth 100000
open Go.RowKit Go.Maps
abbrev wR (l : List Wd) : Wd := ⟨5, (l.length : Int), ⟨#[]⟩⟩
theorem set_pair (l : List Wd) (a b c : Wd) : (l ++ [wP, a, b]).set (l.length + 1) c = l ++ [wP, c, b] := by
  rw [List.set_append_right _ _ (by omega)]
  rw [show l.length + 1 - l.length = 1 by omega]
  rfl
theorem tRef_pair (l : List Wd) (a b : Wd) : tRef (l ++ [wP, a, b]) l.length = some (l.length + 1, l.length + 3) := by
  have h : (l ++ [wP, a, b])[l.length]? = some wP := by simp
  unfold tRef
  rw [h]
  dsimp only
  rw [if_pos (by rfl), if_pos rfl, if_pos rfl]
  unfold fitT
  rw [if_pos (by rw [List.length_append]; simp)]
theorem pb_made {l M : List Wd} {a b : Wd} (h : MadeI l M) (ha : a ∈ M) (hb : b ∈ M) (h5 : l.length + 10 ≤ 5 * M.length) (h40 : M.length ≤ 40) : MadeI (l ++ [wP, a, b]) (M ++ [wR l]) := by
  obtain ⟨acc, ms, h1, h2, h3, h4⟩ := h
  exact made_more h1 h2 h3 h4 (by simp) (by simp only [List.length_cons, List.length_nil]; omega) (pair_grows (fun t => ⟨valB_snoc (h3 a ha), valB_snoc (h3 b hb)⟩))
theorem pb_put {l M : List Wd} {a b : Wd} (h : MadeI l M) (ha : a ∈ M) (hb : b ∈ M) (h5 : l.length + 10 ≤ 5 * M.length) (h40 : M.length ≤ 40) {l' : List Wd} {lim' q r : Int} (hp : PuI 600 l [wP, a, b] l' lim' q r) : r = 0 ∧ l' = l ++ [wP, a, b] ∧ lim' = 600 ∧ q = (l.length : Int) := by
  have hr : r = 0 := by
    obtain ⟨acc, ms, h1, h2, h3, _⟩ := h
    rcases hp with ⟨h, _⟩ | ⟨acc', ms', hok', ⟨h, _⟩ | ⟨_, hl, _⟩ | ⟨_, _, ⟨hg, _⟩ | ⟨_, _, _, _, h⟩⟩⟩
    · exact absurd h h1.not_bad
    · cases h
    · simp only [List.length_cons, List.length_nil] at hl; omega
    · obtain ⟨rfl, _⟩ := okC_same h1 hok'
      rw [pair_grows (fun t => ⟨valB_snoc (h3 a ha), valB_snoc (h3 b hb)⟩)] at hg; cases hg
    · exact h
  obtain ⟨e1, e2, e3, _, _⟩ := h.put hp hr
  exact ⟨hr, e1, e2, e3⟩
theorem pb_pr {l : List Wd} {a b : Wd} {i x r : Int} (hpr : PrI (l ++ [wP, a, b]) [] 5 (l.length : Int) i x r) : (0 ≤ i ∧ i < 2 ∧ x = (l.length : Int) + 1 + i ∧ r = 0) ∨ (¬ (0 ≤ i ∧ i < 2) ∧ r = 2) := by
  rcases hpr with ⟨h, _⟩ | ⟨_, m, f, e, hm, _, ht, hr⟩
  · exact absurd rfl h
  · obtain rfl : m = l.length := by simp [fndI, hasI] at hm; omega
    rw [tRef_pair] at ht
    injection ht with ht
    injection ht with hf he
    subst hf he
    rcases hr with ⟨h1, h2, h3, h4⟩ | ⟨h1, _, h4⟩
    · exact Or.inl ⟨h1, by omega, by omega, h4⟩
    · exact Or.inr ⟨by omega, h4⟩
theorem pb_part {l M : List Wd} {a b : Wd} (h : MadeI (l ++ [wP, a, b]) (M ++ [wR l])) {i k' n' r : Int} {s' : ByteArray} (hp : PtI 600 (l ++ [wP, a, b]) 5 (l.length : Int) ⟨#[]⟩ i k' n' s' r) :
    (i = 0 → k' = a.k ∧ n' = a.n ∧ s' = a.s ∧ r = 0) ∧ (i = 1 → k' = b.k ∧ n' = b.n ∧ s' = b.s ∧ r = 0) ∧ (i = 2 → r = 2) := by
  obtain ⟨acc, ms, hok, hn, hv, _⟩ := h
  have hu : valB (plOf acc) 5 (l.length : Int) ⟨#[]⟩ = true := hv (wR l) (by simp)
  rcases hp with ⟨acc', ms', h1, _, x, hpr, hx⟩ | ⟨_, ⟨_, acc', ms', h1, h2⟩ | ⟨_, h1⟩⟩
  · obtain ⟨rfl, rfl⟩ := okC_same hok h1
    have := no_moved hok hn
    subst this
    have hpr := pb_pr hpr
    have key : ∀ j : Nat, i = (j : Int) → j < 2 → ∃ hq : l.length + 1 + j < (l ++ [wP, a, b]).length, k' = ((l ++ [wP, a, b])[l.length + 1 + j]'hq).k ∧ n' = ((l ++ [wP, a, b])[l.length + 1 + j]'hq).n ∧ s' = ((l ++ [wP, a, b])[l.length + 1 + j]'hq).s ∧ r = 0 := by
      intro j hj hj2
      rcases hpr with ⟨_, _, hx0, hr0⟩ | ⟨hno, _⟩
      · rcases hx with ⟨h, _⟩ | ⟨_, q, hq, hxq, e1, e2, e3⟩
        · exact absurd hr0 h
        · obtain rfl : q = l.length + 1 + j := by omega
          exact ⟨hq, e1, e2, e3, hr0⟩
      · exact absurd ⟨by omega, by omega⟩ hno
    refine ⟨fun hi => ?_, fun hi => ?_, fun hi => ?_⟩
    · obtain ⟨hq, e⟩ := key 0 hi (by omega)
      have hg : (l ++ [wP, a, b])[l.length + 1 + 0]'hq = a := by
        rw [List.getElem_append_right (by omega)]
        simp
      rw [hg] at e; exact e
    · obtain ⟨hq, e⟩ := key 1 hi (by omega)
      have hg : (l ++ [wP, a, b])[l.length + 1 + 1]'hq = b := by
        rw [List.getElem_append_right (by omega)]
        have : l.length + 1 + 1 - l.length = 2 := by omega
        simp [this]
      rw [hg] at e; exact e
    · subst hi
      rcases hpr with ⟨_, h, _⟩ | ⟨_, h⟩
      · omega
      · exact h
  · obtain ⟨rfl, rfl⟩ := okC_same hok h1
    rw [hu] at h2; cases h2
  · exact absurd h1 hok.not_bad
theorem pb_change {l M : List Wd} {a b c : Wd} (hc : c ∈ M) (h : MadeI (l ++ [wP, a, b]) (M ++ [wR l])) {L' : List Wd} {lim' r : Int} (hp : ChI 600 (l ++ [wP, a, b]) 5 (l.length : Int) ⟨#[]⟩ 0 c L' lim' r) : r = 0 ∧ lim' = 600 ∧ L' = l ++ [wP, c, b] := by
  obtain ⟨acc, ms, hok, hn, hv, _⟩ := h
  have hu : valB (plOf acc) 5 (l.length : Int) ⟨#[]⟩ = true := hv (wR l) (by simp)
  have hcv := hv c (by simp [hc])
  rcases hp with ⟨acc', ms', h1, _, y, r0, hpr, hx⟩ | ⟨_, _, ⟨_, acc', ms', h1, h2⟩ | ⟨_, h1⟩⟩
  · obtain ⟨rfl, rfl⟩ := okC_same hok h1
    have := no_moved hok hn
    subst this
    rcases pb_pr hpr with ⟨_, _, hx0, hr0⟩ | ⟨hno, _⟩
    · rcases hx with ⟨h, _⟩ | ⟨_, h, _⟩ | ⟨_, _, e1, e2, q, hq, hyq, e3⟩
      · exact absurd hr0 h
      · rw [hcv] at h; cases h
      · obtain rfl : q = l.length + 1 := by omega
        exact ⟨e2, e1, by rw [e3, set_pair]⟩
    · exact absurd ⟨by omega, by omega⟩ hno
  · obtain ⟨rfl, rfl⟩ := okC_same hok h1
    rw [hu] at h2; cases h2
  · exact absurd h1 hok.not_bad
/-- A word in a box. -/
structure Bx3 (W : World) (g : Nat) (k n : Int) (s : ByteArray) : Prop where
  c0 : W.cell? ⟨g, 0, none⟩ = some (.int .i64 k)
  c1 : W.cell? ⟨g, 1, none⟩ = some (.int .i64 n)
  c2 : W.cell? ⟨g, 2, none⟩ = some (.string s)
theorem Bx3.below {W W' : World} {g N : Nat} {k n : Int} {s : ByteArray} (h : Bx3 W g k n s) (hb : Below N W W') (hg : g < N) : Bx3 W' g k n s :=
  ⟨(hb.cell (p := ⟨g, 0, none⟩) hg).trans h.c0, (hb.cell (p := ⟨g, 1, none⟩) hg).trans h.c1, (hb.cell (p := ⟨g, 2, none⟩) hg).trans h.c2⟩
theorem Bx3.past {W : World} {g g' : Nat} {k n : Int} {s : ByteArray} (h : Bx3 W g k n s) (hne : ¬ g = g') (v0 v1 : Value) : Bx3 ((W.setCell ⟨g', 0, none⟩ v0).setCell ⟨g', 1, none⟩ v1) g k n s := by
  have c : ∀ o, ((W.setCell ⟨g', 0, none⟩ v0).setCell ⟨g', 1, none⟩ v1).cell? ⟨g, o, none⟩ = W.cell? ⟨g, o, none⟩ := fun o => (World.cell?_setCell_other _ _ _ _ (by intro e; injection e with e; omega)).trans (World.cell?_setCell_other _ _ _ _ (by intro e; injection e with e; omega))
  exact ⟨(c 0).trans h.c0, (c 1).trans h.c1, (c 2).trans h.c2⟩
theorem bx3_born (w : World) (k n : Int) (s : ByteArray) (t : TypeId) (W : World) (hW : W = w.alloc (.cells #[.int .i64 k, .int .i64 n, .string s] t)) : Bx3 W w.heap.size k n s ∧ W.heap.size = w.heap.size + 1 ∧ Below w.heap.size w W := by
  subst hW
  refine ⟨⟨?_, ?_, ?_⟩, by simp, (Below.refl _ _).alloc (Nat.le_refl _) _⟩ <;> go_simp
/-- A heap in a box. -/
structure Bx2 (W : World) (g : Nat) (v0 v1 : Value) : Prop where
  c0 : W.cell? ⟨g, 0, none⟩ = some v0
  c1 : W.cell? ⟨g, 1, none⟩ = some v1
  f0 : W.frozen? ⟨g, 0, none⟩ = false
  f1 : W.frozen? ⟨g, 1, none⟩ = false
theorem Bx2.below {W W' : World} {g N : Nat} {v0 v1 : Value} (h : Bx2 W g v0 v1) (hb : Below N W W') (hg : g < N) : Bx2 W' g v0 v1 :=
  ⟨(hb.cell (p := ⟨g, 0, none⟩) hg).trans h.c0, (hb.cell (p := ⟨g, 1, none⟩) hg).trans h.c1, (hb.frozen (p := ⟨g, 0, none⟩) hg).trans h.f0, (hb.frozen (p := ⟨g, 1, none⟩) hg).trans h.f1⟩
theorem Bx2.put {W : World} {g : Nat} {v0 v1 : Value} (h : Bx2 W g v0 v1) (u0 u1 : Value) : Bx2 ((W.setCell ⟨g, 0, none⟩ u0).setCell ⟨g, 1, none⟩ u1) g u0 u1 :=
  ⟨(World.cell?_setCell_other _ _ _ _ (by intro e; injection e with _ e; omega)).trans (World.cell?_setCell_same _ _ _ h.c0), World.cell?_setCell_same _ _ _ ((World.cell?_setCell_other _ _ _ _ (by intro e; injection e with _ e; omega)).trans h.c1), by simpa using h.f0, by simpa using h.f1⟩
theorem bx2_born (w : World) (v0 v1 : Value) (t : TypeId) (W : World) (hW : W = w.alloc (.cells #[v0, v1] t)) : Bx2 W w.heap.size v0 v1 ∧ W.heap.size = w.heap.size + 1 ∧ Below w.heap.size w W := by
  subst hW
  refine ⟨⟨?_, ?_, ?_, ?_⟩, by simp, (Below.refl _ _).alloc (Nat.le_refl _) _⟩ <;> go_simp
end Go.Proofs.Ytngaamjkegeioaa

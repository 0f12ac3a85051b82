/- One thing more behind all words: the code's look and the document's are one. -/
import Derived.Test.YtfjfobpdlmdddaaHSame2
namespace Go.Proofs.Ytfjfobpdlmdddaa
set_option maxRecDepth 100000
theorem app_at {l x : List Wd} {i : Nat} (h : i < l.length) : (l ++ x)[i]? = l[i]? := List.getElem?_append_left h
theorem app_at2 {l x : List Wd} {i : Nat} : (l ++ x)[l.length + i]? = x[i]? := by
  rw [List.getElem?_append_right (by omega), show l.length + i - l.length = i by omega]
theorem nAt_app {l x : List Wd} {i : Nat} (h : i < l.length) : nAt (l ++ x) i = nAt l i := by unfold nAt; rw [app_at h]
theorem intAt_app {l x : List Wd} {i : Nat} {b : Int} (h : intAt l i b = true) : intAt (l ++ x) i b = true := by
  obtain ⟨hi, _⟩ := intAt_lt h
  unfold intAt at h ⊢
  rw [app_at hi]; exact h
theorem fitT_app {l x : List Wd} {f n : Nat} {p : Nat × Nat} (h : fitT l f n = some p) : fitT (l ++ x) f n = some p := by
  unfold fitT at h ⊢
  split at h
  · rw [if_pos (by rw [List.length_append]; omega)]; exact h
  · cases h
theorem tailT_app {l x : List Wd} {f : Nat} {k : Int} {p : Nat × Nat} (h : tailT l f k = some p) : tailT (l ++ x) f k = some p := by
  unfold tailT at h ⊢
  split at h
  · rename_i hc
    rw [if_pos hc]
    split at h
    · rename_i hi
      rw [if_pos (intAt_app hi), nAt_app (intAt_lt hi).1]
      exact fitT_app h
    · cases h
  · rename_i hc
    rw [if_neg hc]; exact fitT_app h
theorem tAt_app {l x : List Wd} {a : Nat} {p : Nat × Nat} (h : tAt l a = some p) : tAt (l ++ x) a = some p := by
  unfold tAt at h ⊢
  cases hx : l[a]? with
  | none => rw [hx] at h; cases h
  | some w =>
    have ha : a < l.length := (List.getElem?_eq_some_iff.1 hx).1
    rw [app_at ha, hx]
    rw [hx] at h
    dsimp only at h ⊢
    split at h
    · cases h
    · rename_i h1
      rw [if_neg h1]
      split at h
      · rename_i h2
        rw [if_pos h2]
        split at h
        · rename_i h3
          rw [if_pos (intAt_app h3)]; exact tailT_app h
        · cases h
      · rename_i h2
        rw [if_neg h2]; exact tailT_app h
theorem intAt_sh (l x : List Wd) (i : Nat) (b : Int) : intAt (l ++ x) (l.length + i) b = intAt x i b := by unfold intAt; rw [app_at2]
theorem nAt_sh (l x : List Wd) (i : Nat) : nAt (l ++ x) (l.length + i) = nAt x i := by unfold nAt; rw [app_at2]
abbrev shP (n : Nat) (p : Nat × Nat) : Nat × Nat := (n + p.1, n + p.2)
theorem fitT_sh (l x : List Wd) (f n : Nat) : fitT (l ++ x) (l.length + f) n = (fitT x f n).map (shP l.length) := by
  unfold fitT
  by_cases h : f + n ≤ x.length
  · rw [if_pos h, if_pos (by rw [List.length_append]; omega)]; simp [shP]; omega
  · rw [if_neg h, if_neg (by rw [List.length_append]; omega)]; rfl
theorem tailT_sh (l x : List Wd) (f : Nat) (k : Int) : tailT (l ++ x) (l.length + f) k = (tailT x f k).map (shP l.length) := by
  unfold tailT
  by_cases h : cntdB k = true
  · rw [if_pos h, if_pos h, intAt_sh, nAt_sh]
    by_cases h2 : intAt x f (valsI k + 1) = true
    · rw [if_pos h2, if_pos h2]; exact fitT_sh l x (f + 1) _
    · rw [if_neg h2, if_neg h2]; rfl
  · rw [if_neg h, if_neg h]; exact fitT_sh l x f _
theorem tAt_sh (l x : List Wd) (a : Nat) : tAt (l ++ x) (l.length + a) = (tAt x a).map (shP l.length) := by
  unfold tAt
  rw [app_at2]
  cases hx : x[a]? with
  | none => rfl
  | some w =>
    dsimp only
    by_cases h1 : plainB w.n w.s (headsI w.k) = false
    · rw [if_pos h1, if_pos h1]; rfl
    · rw [if_neg h1, if_neg h1]
      by_cases h2 : 0 < versI w.k
      · rw [if_pos h2, if_pos h2]
        rw [Nat.add_assoc, intAt_sh]
        by_cases h3 : intAt x (a + 1) (versI w.k) = true
        · rw [if_pos h3, if_pos h3]; exact tailT_sh l x (a + 2) _
        · rw [if_neg h3, if_neg h3]; rfl
      · rw [if_neg h2, if_neg h2]; exact tailT_sh l x (a + 1) _
theorem kindAt_app {l x : List Wd} {n : Int} (h0 : 0 ≤ n) (h : n < l.length) : kindAt (l ++ x) n = kindAt l n := by
  unfold kindAt; rw [app_at (by omega)]
theorem kindAt_sh (l x : List Wd) : kindAt (l ++ x) (l.length : Nat) = kindAt x 0 := by
  have h := app_at2 (l := l) (x := x) (i := 0)
  rw [Nat.add_zero] at h
  unfold kindAt
  rw [Int.toNat_natCast, h]
  rfl
theorem nInt_app {l x : List Wd} {i : Nat} (h : i < l.length) : nInt (l ++ x) i = nInt l i := by unfold nInt; rw [app_at h]
theorem sub_app {l x : List Wd} {f e : Nat} (he : e ≤ l.length) : sub (l ++ x) f e = sub l f e := by unfold sub; rw [List.take_append_of_le_length he]
theorem Chain.app {l : List Wd} {acc : List Th} {a : Nat} (x : List Wd) (h : Chain l acc a) : Chain (l ++ x) acc a := by
  induction h with
  | nil => exact Chain.nil
  | snoc h1 h2 h3 ih => exact Chain.snoc ih (by rw [List.length_append]; omega) (tAt_app h3)
theorem refB_app {l x : List Wd} {acc : List Th} {t : Th} {n : Int} (h : refB l.length acc n = true) : refB (l ++ x).length (acc ++ [t]) n = true := by
  unfold refB at h ⊢
  simp only [Bool.and_eq_true, decide_eq_true_eq] at h ⊢
  rw [List.length_append, List.any_append, h.2]
  exact ⟨⟨h.1.1, by omega⟩, rfl⟩
theorem refB_in {n : Nat} {acc : List Th} {x : Int} (h : refB n acc x = true) : 0 ≤ x ∧ x < n := by
  unfold refB at h
  simp only [Bool.and_eq_true, decide_eq_true_eq] at h
  exact h.1
theorem okV_app {l x : List Wd} {acc : List Th} {t : Th} {u : Wd} (h : okV l.length acc u = true) : okV (l ++ x).length (acc ++ [t]) u = true := by
  unfold okV at h ⊢
  simp only [Bool.and_eq_true, Bool.or_eq_true] at h ⊢
  exact ⟨h.1, h.2.imp (fun h => h) (fun h => refB_app h)⟩
theorem okM_app {l x : List Wd} {acc : List Th} {t : Th} {h : Nat} {n : Int} (hk : okM l.length l acc h n = true) : okM (l ++ x).length (l ++ x) (acc ++ [t]) h n = true := by
  unfold okM at hk ⊢
  rw [Bool.and_eq_true] at hk ⊢
  have := refB_in hk.1
  rw [kindAt_app this.1 this.2]
  exact ⟨refB_app hk.1, hk.2⟩
/-- May one thing more stand behind? -/
def grB (l x : List Wd) (acc : List Th) : Bool := match tAt (l ++ x) l.length with
  | none => false
  | some p => decide (p.2 = (l ++ x).length) && !decide (kindAt (l ++ x) (l.length : Nat) = 10) && allB (plOf (acc ++ [⟨l.length, p.1, p.2⟩])) (sub (l ++ x) p.1 p.2)
theorem grow_ok {lim : Int} {l x : List Wd} {acc : List Th} {ms : List (Int × Int)} (hok : OkC lim l acc ms) (hx : 0 < x.length) (hr : (l.length : Int) + x.length ≤ lim) {f e : Nat} (ht : tAt (l ++ x) l.length = some (f, e)) (he : e = (l ++ x).length) (hk : ¬ kindAt (l ++ x) (l.length : Nat) = 10) :
    (allB (plOf (acc ++ [⟨l.length, f, e⟩])) (sub (l ++ x) f e) = true → ∃ acc' ms', OkC lim (l ++ x) acc' ms') ∧ (allB (plOf (acc ++ [⟨l.length, f, e⟩])) (sub (l ++ x) f e) = false → BadC lim (l ++ x)) := by
  have hll : l.length < (l ++ x).length := by rw [List.length_append]; omega
  have hc : Chain (l ++ x) (acc ++ [⟨l.length, f, e⟩]) (l ++ x).length := by
    have := Chain.snoc (hok.chain.app x) hll ht
    rw [← he]; exact this
  refine ⟨fun hv => ?_, fun hv => Or.inr (Or.inr ⟨_, hc, Or.inr ?_⟩)⟩
  · rcases mv_spec hc (acc ++ [⟨l.length, f, e⟩]) [] rfl with ⟨ms', e1, _, _⟩ | ⟨_, t', ht', hk', hno⟩
    · refine ⟨_, ms', hok.lo, hok.hi, by rw [List.length_append]; omega, hc, e1, ?_⟩
      rw [List.all_append, Bool.and_eq_true]
      refine ⟨List.all_eq_true.2 (fun t' ht' => ?_), ?_⟩
      · obtain ⟨i, hi, rfl⟩ := List.getElem_of_mem ht'
        have hin := hok.chain.inL i hi
        have hold := List.all_eq_true.1 hok.vals _ ht'
        rw [th_ok hok.chain] at hold
        rw [th_ok hc, kindAt_app (by omega) (by omega), sub_app hin.2.2.2]
        rw [Bool.or_eq_true] at hold ⊢
        exact hold.imp (fun h => h) (fun h => List.all_eq_true.2 (fun u hu => okV_app (List.all_eq_true.1 h u hu)))
      · simp only [List.all_cons, List.all_nil, Bool.and_true]
        unfold thB
        rw [hv]; simp
    · exfalso
      rcases List.mem_append.1 ht' with h | h
      · obtain ⟨i, hi, rfl⟩ := List.getElem_of_mem h
        have hin := hok.chain.inL i hi
        rcases mv_spec hok.chain acc [] rfl with ⟨ms0, _, _, e3⟩ | ⟨e1, _⟩
        · rw [kindAt_app (by omega) (by omega)] at hk'
          have := okM_app (x := x) (t := ⟨l.length, f, e⟩) (e3 _ h hk')
          rw [nInt_app hin.1, this] at hno
          cases hno
        · rw [hok.moved] at e1; cases e1
      · simp only [List.mem_singleton] at h
        subst h
        exact hk hk'
  · rw [List.all_append]
    simp only [List.all_cons, List.all_nil, Bool.and_true]
    unfold thB
    rw [hv]
    simp [hk]
/-- What the document asks of what is put. -/
theorem grow_yes {lim : Int} {l x : List Wd} {acc : List Th} {ms : List (Int × Int)} (hok : OkC lim l acc ms) (hx : 0 < x.length) (hr : (l.length : Int) + x.length ≤ lim) (hg : grB l x acc = true) :
    (∃ f, tRef x 0 = some (f, x.length)) ∧ ¬ kindAt x 0 = 10 ∧ ∃ acc' ms', OkC lim (l ++ x) acc' ms' := by
  unfold grB at hg
  cases ht : tAt (l ++ x) l.length with
  | none => rw [ht] at hg; cases hg
  | some p =>
    obtain ⟨f, e⟩ := p
    rw [ht] at hg
    simp only [Bool.and_eq_true, decide_eq_true_eq, Bool.not_eq_true', decide_eq_false_iff_not] at hg
    obtain ⟨⟨h1, h2⟩, h3⟩ := hg
    have hs := tAt_sh l x 0
    rw [Nat.add_zero, ht] at hs
    obtain ⟨q, hq, hqe⟩ := Option.map_eq_some_iff.1 hs.symm
    injection hqe with q1 q2
    refine ⟨⟨q.1, ?_⟩, by rw [← kindAt_sh l x]; exact h2, (grow_ok hok hx hr ht h1 h2).1 h3⟩
    rw [tRef_of hq]
    rw [List.length_append] at h1
    have : q.2 = x.length := by omega
    rw [← this]
theorem grow_no {lim : Int} {l x : List Wd} {acc : List Th} {ms : List (Int × Int)} (hok : OkC lim l acc ms) (hx : 0 < x.length) (hr : (l.length : Int) + x.length ≤ lim) (hg : grB l x acc = false) :
    (tRef x 0 = none ∨ (∃ f e, tRef x 0 = some (f, e) ∧ ¬ e = x.length) ∨ kindAt x 0 = 10) ∨ ((∃ f, tRef x 0 = some (f, x.length)) ∧ ¬ kindAt x 0 = 10 ∧ BadC lim (l ++ x)) := by
  by_cases hk : kindAt x 0 = 10
  · exact Or.inl (Or.inr (Or.inr hk))
  · have hs := tAt_sh l x 0
    rw [Nat.add_zero] at hs
    cases hr0 : tRef x 0 with
    | none => exact Or.inl (Or.inl rfl)
    | some p =>
      obtain ⟨f, e⟩ := p
      have hta := tAt_of hr0 (fun h => absurd h hk)
      rw [hta] at hs
      by_cases he : e = x.length
      · subst he
        refine Or.inr ⟨⟨f, rfl⟩, hk, ?_⟩
        have hk2 : ¬ kindAt (l ++ x) (l.length : Nat) = 10 := by rw [kindAt_sh]; exact hk
        unfold grB at hg
        have hs' : tAt (l ++ x) l.length = some (l.length + f, l.length + x.length) := hs
        have he : l.length + x.length = (l ++ x).length := by rw [List.length_append]
        refine (grow_ok hok hx hr hs' he hk2).2 ?_
        rw [hs'] at hg
        dsimp only at hg
        rw [decide_eq_true he, decide_eq_false hk2] at hg
        simpa only [Bool.not_false, Bool.true_and] using hg
      · exact Or.inl (Or.inr (Or.inl ⟨f, e, rfl, he⟩))
end Go.Proofs.Ytfjfobpdlmdddaa

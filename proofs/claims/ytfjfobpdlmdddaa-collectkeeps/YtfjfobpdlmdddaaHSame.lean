/- The code's chart and the document's heap that may be are one. -/
import Derived.Test.YtfjfobpdlmdddaaHMay2
import Derived.Test.YtfjfobpdlmdddaaHNew
namespace Go.Proofs.Ytfjfobpdlmdddaa
set_option maxRecDepth 100000
theorem tRef_of {l : List Wd} {a : Nat} {p : Nat × Nat} (h : tAt l a = some p) : tRef l a = some p := by
  unfold tAt at h
  unfold tRef
  cases hx : l[a]? with
  | none => rw [hx] at h; cases h
  | some x =>
    rw [hx] at h
    dsimp only at h ⊢
    by_cases hp : plainB x.n x.s (headsI x.k) = false
    · rw [if_pos hp] at h; cases h
    · rw [if_neg hp] at h
      have hp' : plainB x.n x.s (headsI x.k) = true := by simpa using hp
      simp only [plainB, Bool.and_eq_true, decide_eq_true_eq] at hp'
      rw [if_pos hp'.2]
      by_cases h6 : x.k = 6
      · simp only [h6, versI, tailT, cntdB, valsI, headsI] at h hp' ⊢
        simp at h hp' ⊢
        exact ⟨by omega, h⟩
      · by_cases h7 : x.k = 7
        · simp only [h7, versI, tailT, cntdB, valsI, headsI] at h hp' ⊢
          simp at h hp' ⊢
          exact ⟨by omega, h⟩
        · by_cases h8 : x.k = 8
          · simp only [h8, versI, tailT, cntdB, valsI, headsI] at h hp' ⊢
            simp at h hp' ⊢
            exact ⟨⟨by simp [inB]; omega, h.1⟩, h.2⟩
          · by_cases h9 : x.k = 9
            · simp only [h9, versI, tailT, cntdB, valsI, headsI] at h hp' ⊢
              simp at h hp' ⊢
              exact ⟨⟨by simp [inB]; omega, h.1, h.2.1⟩, h.2.2⟩
            · by_cases h10 : x.k = 10
              · simp only [h10, versI, tailT, cntdB, valsI, headsI] at h hp' ⊢
                simp at h hp' ⊢
                exact ⟨⟨h.1, h.2.1⟩, h.2.2⟩
              · simp [headsI, h6, h7, h8, h9, h10] at hp'
                omega
theorem tAt_of {l : List Wd} {a : Nat} {p : Nat × Nat} (h : tRef l a = some p) (hm : kindAt l a = 10 → 0 ≤ nInt l a ∧ nInt l a < 60000) : tAt l a = some p := by
  unfold tRef at h
  unfold tAt
  cases hx : l[a]? with
  | none => rw [hx] at h; cases h
  | some x =>
    have hk : kindAt l a = x.k := by unfold kindAt; rw [Int.toNat_natCast, hx]
    have hn : nInt l a = x.n := by unfold nInt; rw [hx]
    rw [hk, hn] at hm
    rw [hx] at h
    dsimp only at h ⊢
    by_cases hs : x.s.size = 0
    · rw [if_pos hs] at h
      by_cases h6 : x.k = 6
      · simp [h6] at h
        rw [if_neg (by simp [plainB, h6, headsI, hs]; omega)]
        simp [h6, versI, tailT, cntdB, valsI]; exact h.2
      · by_cases h7 : x.k = 7
        · simp [h7] at h
          rw [if_neg (by simp [plainB, h7, headsI, hs]; omega)]
          simp [h7, versI, tailT, cntdB, valsI]; exact h.2
        · by_cases h8 : x.k = 8
          · simp [h8, inB] at h
            rw [if_neg (by simp [plainB, h8, headsI, hs]; omega)]
            simp [h8, versI, tailT, cntdB, valsI, h.1.2]; exact h.2
          · by_cases h9 : x.k = 9
            · simp [h9, inB] at h
              rw [if_neg (by simp [plainB, h9, headsI, hs]; omega)]
              simp [h9, versI, tailT, cntdB, valsI, h.1.2]; exact h.2
            · by_cases h10 : x.k = 10
              · have := hm h10
                simp [h10] at h
                rw [if_neg (by simp [plainB, h10, headsI, hs]; omega)]
                simp [h10, versI, tailT, cntdB, valsI, h.1]; exact h.2
              · simp [h6, h7, h8, h9, h10] at h
    · rw [if_neg hs] at h; cases h
theorem Chain.ref {l : List Wd} {acc : List Th} {a : Nat} (h : Chain l acc a) : ChainR l acc a := by
  induction h with
  | nil => exact ChainR.nil
  | snoc h1 h2 h3 ih => exact ChainR.snoc ih h2 (tRef_of h3)
/-- So many steps. -/
def runR (l : List Wd) : Nat → Option (List Th × Nat)
  | 0 => some ([], 0)
  | n + 1 => (runR l n).bind fun p => if p.2 < l.length then (tRef l p.2).map fun q => (p.1 ++ [⟨p.2, q.1, q.2⟩], q.2) else none
theorem ChainR.run {l : List Wd} {acc : List Th} {a : Nat} (h : ChainR l acc a) : runR l acc.length = some (acc, a) := by
  induction h with
  | nil => rfl
  | snoc h1 h2 h3 ih => simp [runR, ih, h2, h3]
theorem runR_end {l : List Wd} {n : Nat} (h : runR l n = none) : ∀ k, runR l (n + k) = none
  | 0 => h
  | k + 1 => by rw [show n + (k + 1) = (n + k) + 1 by omega]; simp [runR, runR_end h k]
theorem runR_pre {l : List Wd} {n : Nat} {p : List Th × Nat} (h : runR l n = some p) : ∀ k q, runR l (n + k) = some q → p.1 <+: q.1
  | 0, q, hq => by rw [Nat.add_zero, h] at hq; injection hq with hq; subst hq; exact List.prefix_refl _
  | k + 1, q, hq => by
    rw [show n + (k + 1) = (n + k) + 1 by omega] at hq
    cases hr : runR l (n + k) with
    | none => simp [runR, hr] at hq
    | some r =>
      have ih := runR_pre h k r hr
      simp only [runR, hr, Option.bind_some] at hq
      split at hq
      · cases ht : tRef l r.2 with
        | none => simp [ht] at hq
        | some x => simp [ht] at hq; subst hq; exact ih.trans (List.prefix_append _ _)
      · cases hq
theorem ChainR.full {l : List Wd} {acc : List Th} (h : ChainR l acc l.length) : runR l (acc.length + 1) = none := by simp [runR, h.run]
theorem ChainR.stuck {l : List Wd} {acc : List Th} {i : Nat} (h : ChainR l acc i) (ht : tRef l i = none) : runR l (acc.length + 1) = none := by simp [runR, h.run, ht]
theorem ChainR.le_of_end {l : List Wd} {acc acc' : List Th} {a a' : Nat} (h : ChainR l acc a) (_h' : ChainR l acc' a') (he : runR l (acc'.length + 1) = none) : acc.length ≤ acc'.length := by
  rcases Nat.lt_or_ge acc'.length acc.length with h1 | h1
  · have := runR_end he (acc.length - (acc'.length + 1))
    rw [show acc'.length + 1 + (acc.length - (acc'.length + 1)) = acc.length by omega, h.run] at this
    cases this
  · exact h1
theorem ChainR.same {l : List Wd} {acc acc' : List Th} {a a' : Nat} (h : ChainR l acc a) (h' : ChainR l acc' a') (he : runR l (acc.length + 1) = none) (he' : runR l (acc'.length + 1) = none) : acc = acc' ∧ a = a' := by
  have e : acc.length = acc'.length := Nat.le_antisymm (h.le_of_end h' he') (h'.le_of_end h he)
  have := h.run
  rw [e, h'.run] at this
  injection this with this
  injection this with e1 e2
  exact ⟨e1.symm, e2.symm⟩
theorem ChainR.pre {l : List Wd} {acc acc' : List Th} {a : Nat} (h : ChainR l acc a) (h' : ChainR l acc' l.length) : acc <+: acc' := by
  have hle := h.le_of_end h' h'.full
  have := runR_pre h.run (acc'.length - acc.length) (acc', l.length) (by rw [show acc.length + (acc'.length - acc.length) = acc'.length by omega]; exact h'.run)
  exact this
theorem ChainR.inc {l : List Wd} {acc : List Th} {a : Nat} (h : ChainR l acc a) : acc.Pairwise (fun x y => x.h < y.h) ∧ ∀ t, t ∈ acc → t.h < a := by
  induction h with
  | nil => exact ⟨List.Pairwise.nil, fun t ht => by cases ht⟩
  | snoc h1 h2 h3 ih =>
    have := tRef_le h3
    refine ⟨List.pairwise_append.2 ⟨ih.1, List.pairwise_singleton _ _, fun x hx y hy => ?_⟩, fun t ht => ?_⟩
    · simp at hy; subst hy; exact ih.2 x hx
    · rcases List.mem_append.1 ht with h | h
      · have := ih.2 t h; omega
      · simp at h; subst h; dsimp only; omega
end Go.Proofs.Ytfjfobpdlmdddaa

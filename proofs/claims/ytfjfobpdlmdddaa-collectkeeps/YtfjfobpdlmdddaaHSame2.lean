/- What is moved, and all values: the code's looks and the document's are one. -/
import Derived.Test.YtfjfobpdlmdddaaHSame
namespace Go.Proofs.Ytfjfobpdlmdddaa
set_option maxRecDepth 100000
theorem ref_has {l : List Wd} {acc : List Th} {a : Nat} (h : Chain l acc a) (x : Int) : refB l.length acc x = hasI (plOf acc) x := by
  rw [Bool.eq_iff_iff, h.has x]
  unfold refB
  simp only [Bool.and_eq_true, decide_eq_true_eq, List.any_eq_true, beq_iff_eq]
  constructor
  · rintro ⟨⟨h0, h1⟩, t, ht, e⟩
    obtain ⟨i, hi, rfl⟩ := List.getElem_of_mem ht
    exact ⟨i, hi, by omega⟩
  · rintro ⟨i, hi, e⟩
    have := (h.inL i hi).1
    exact ⟨⟨by omega, by omega⟩, acc[i], List.getElem_mem hi, by omega⟩
theorem val_ok {l : List Wd} {acc : List Th} {a : Nat} (h : Chain l acc a) (k n : Int) (s : ByteArray) : valB (plOf acc) k n s = (wmB k n s && (decide (¬ k = 5) || refB l.length acc n)) := by
  rw [ref_has h]
  unfold valB wmB
  by_cases h1 : k = 1
  · subst h1; simp [inB]
  · by_cases h2 : k = 2
    · subst h2
      simp only [h1, if_false, if_true, plainB, inB]
      rw [Bool.eq_iff_iff]; simp only [Bool.and_eq_true, Bool.or_eq_true, decide_eq_true_eq]
      constructor
      · rintro ⟨⟨a1, a2⟩, a3⟩; exact ⟨⟨⟨a1, by omega⟩, a3⟩, Or.inl (by omega)⟩
      · rintro ⟨⟨⟨a1, a2⟩, a3⟩, _⟩; exact ⟨⟨a1, by omega⟩, a3⟩
    · by_cases h3 : k = 3
      · subst h3
        simp only [h1, h2, if_false, if_true, plainB]
        rw [Bool.eq_iff_iff]; simp only [Bool.and_eq_true, Bool.or_eq_true, decide_eq_true_eq]
        constructor
        · rintro ⟨⟨a1, a2⟩, a3⟩; exact ⟨⟨by omega, a3⟩, Or.inl (by omega)⟩
        · rintro ⟨⟨a1, a3⟩, _⟩; exact ⟨⟨by omega, by omega⟩, a3⟩
      · by_cases h4 : k = 4
        · subst h4
          simp only [h1, h2, h3, if_false, if_true, inB]
          rw [Bool.eq_iff_iff]; simp only [Bool.and_eq_true, Bool.or_eq_true, decide_eq_true_eq]
          constructor
          · rintro ⟨⟨a1, a2⟩, a3⟩; exact ⟨⟨a1, by omega, by omega⟩, Or.inl (by omega)⟩
          · rintro ⟨⟨a1, a2, a3⟩, _⟩; exact ⟨⟨a1, by omega⟩, by omega⟩
        · by_cases h5 : k = 5
          · subst h5; simp [Bool.and_comm]
          · simp [h1, h2, h3, h4, h5]
/-- What was moved, from a thing on. -/
structure MvInv (l : List Wd) (ps : List (Int × Int)) (S : List Th) (ms : List (Int × Int)) : Prop where
  keys : ∀ x, hasI ms x = true ↔ ∃ t, t ∈ S ∧ kindAt l t.h = 10 ∧ (t.h : Int) = x
  recs : ∀ x, hasI ms x = true → recB l ps (valI ms x) = true
theorem mv_spec {l : List Wd} {acc : List Th} (hc : Chain l acc l.length) : ∀ (S pre : List Th), acc = pre ++ S →
    (∃ ms, mvAll l (plOf acc) S.reverse [] = some ms ∧ MvInv l (plOf acc) S ms ∧ ∀ t, t ∈ S → kindAt l t.h = 10 → okM l.length l acc t.h (nInt l t.h) = true) ∨
    (mvAll l (plOf acc) S.reverse [] = none ∧ ∃ t, t ∈ S ∧ kindAt l t.h = 10 ∧ okM l.length l acc t.h (nInt l t.h) = false)
  | [], pre, _ => Or.inl ⟨[], rfl, ⟨fun x => by simp [hasI], fun x h => by simp [hasI] at h⟩, fun t ht => by cases ht⟩
  | t :: S, pre, he => by
    have hinc := hc.ref.inc.1
    rw [he] at hinc
    have hS : ∀ y, y ∈ S → t.h < y.h := fun y hy => (List.pairwise_cons.1 (List.pairwise_append.1 hinc).2.1).1 y hy
    have hpre : ∀ y, y ∈ pre → y.h < t.h := fun y hy => (List.pairwise_append.1 hinc).2.2 y hy t (by simp)
    rw [List.reverse_cons, mvAll_snoc]
    rcases mv_spec hc S (pre ++ [t]) (by rw [he]; simp) with ⟨ms, h1, h2, h3⟩ | ⟨h1, t', h2, h3, h4⟩
    · rw [h1]
      simp only [Option.bind_some]
      by_cases hk : kindAt l t.h = 10
      · -- a Moved: does it lead to a Record, or to a Moved behind it?
        have key : recB l (plOf acc) (toOf l ms t) = okM l.length l acc t.h (nInt l t.h) := by
          unfold toOf okM
          generalize nInt l t.h = x
          rw [ref_has hc]
          by_cases hm : hasI ms x = true
          · rw [if_pos hm, h2.recs x hm]
            obtain ⟨y, hy, hk2, rfl⟩ := (h2.keys x).1 hm
            have hb : hasI (plOf acc) (y.h : Int) = true := by
              obtain ⟨i, hi, e⟩ := List.getElem_of_mem (show y ∈ acc by rw [he]; simp [hy])
              exact (hc.has _).2 ⟨i, hi, by rw [e]⟩
            have := hS y hy
            rw [hb, hk2]; simp; omega
          · rw [if_neg hm]
            unfold recB
            by_cases hb : hasI (plOf acc) x = true
            · rw [hb]
              have hno : ¬ (kindAt l x = 10 ∧ (t.h : Int) < x) := fun ⟨k1, k2⟩ => by
                obtain ⟨i, hi, e⟩ := (hc.has x).1 hb
                have hmem : acc[i] ∈ pre ++ t :: S := by rw [← he]; exact List.getElem_mem hi
                rcases List.mem_append.1 hmem with h | h
                · have := hpre _ h; omega
                · rcases List.mem_cons.1 h with h | h
                  · rw [h] at e; omega
                  · exact hm ((h2.keys x).2 ⟨_, h, by rw [e]; exact k1, e⟩)
              by_cases h9 : kindAt l x = 9
              · simp [h9]
              · simp only [h9, decide_false, Bool.false_or, Bool.true_and]
                rw [eq_comm, Bool.eq_false_iff]; intro h; simp only [Bool.and_eq_true, decide_eq_true_eq] at h; exact hno h
            · simp [hb]
        unfold mvStep
        rw [if_pos hk]
        cases hr : recB l (plOf acc) (toOf l ms t)
        · refine Or.inr ⟨by simp, t, by simp, hk, by rw [← key, hr]⟩
        · refine Or.inl ⟨((t.h : Int), toOf l ms t) :: ms, by simp, ⟨fun x => ?_, fun x hx => ?_⟩, fun y hy hk' => ?_⟩
          · unfold hasI
            rw [Bool.or_eq_true, decide_eq_true_eq, h2.keys x]
            constructor
            · rintro (h | ⟨y, hy, h⟩)
              · exact ⟨t, by simp, hk, h⟩
              · exact ⟨y, by simp [hy], h⟩
            · rintro ⟨y, hy, hk', e⟩
              rcases List.mem_cons.1 hy with h | h
              · subst h; exact Or.inl e
              · exact Or.inr ⟨y, h, hk', e⟩
          · unfold valI
            by_cases e : (t.h : Int) = x
            · rw [if_pos e]; exact hr
            · rw [if_neg e]; unfold hasI at hx; exact h2.recs x (by simpa [e] using hx)
          · rcases List.mem_cons.1 hy with h | h
            · subst h; rw [← key, hr]
            · exact h3 y h hk'
      · unfold mvStep
        rw [if_neg hk]
        refine Or.inl ⟨ms, rfl, ⟨fun x => ?_, h2.recs⟩, fun y hy hk' => ?_⟩
        · rw [h2.keys x]
          constructor
          · rintro ⟨y, hy, h⟩; exact ⟨y, by simp [hy], h⟩
          · rintro ⟨y, hy, hk', e⟩
            rcases List.mem_cons.1 hy with h | h
            · subst h; exact absurd hk' hk
            · exact ⟨y, h, hk', e⟩
        · rcases List.mem_cons.1 hy with h | h
          · subst h; exact absurd hk' hk
          · exact h3 y h hk'
    · rw [h1]
      exact Or.inr ⟨rfl, t', by simp [h2], h3, h4⟩
theorem th_ok {l : List Wd} {acc : List Th} {a : Nat} (h : Chain l acc a) (t : Th) : thB l (plOf acc) t = (decide (kindAt l t.h = 10) || (sub l t.f t.e).all (okV l.length acc)) := by
  unfold thB allB
  have : (fun x : Wd => valB (plOf acc) x.k x.n x.s) = okV l.length acc := by funext x; rw [val_ok h]; rfl
  rw [this]
/-- The code says yes just where the document does. -/
theorem ok_not_bad {lim : Int} {l : List Wd} {acc : List Th} {ms : List (Int × Int)} (h : OkC lim l acc ms) (hb : BadR lim l) : False := by
  rcases hb with hb | ⟨acc', i, h1, h2, h3⟩ | ⟨acc', h1, t, h2, h3⟩
  · exact hb ⟨h.lo, h.hi, h.room⟩
  · have := (h.chain.ref.same h1 h.chain.ref.full (h1.stuck h3)).2
    omega
  · obtain ⟨rfl, _⟩ := h.chain.ref.same h1 h.chain.ref.full h1.full
    rcases mv_spec h.chain acc [] rfl with ⟨ms', e1, e2, e3⟩ | ⟨e1, _⟩
    · unfold okT at h3
      by_cases hk : kindAt l t.h = 10
      · rw [if_pos hk, e3 t h2 hk] at h3; cases h3
      · rw [if_neg hk] at h3
        have := List.all_eq_true.1 h.vals t h2
        rw [th_ok h.chain, h3] at this
        simp [hk] at this
    · rw [h.moved] at e1; cases e1
theorem bad_not_ok {lim : Int} {l : List Wd} (h : BadC lim l) (hr : OkR lim l) : False := by
  obtain ⟨r1, r2, r3, accR, hR, hall⟩ := hr
  have hok : ∀ acc, Chain l acc l.length → acc = accR := fun acc hc => (hc.ref.same hR hc.ref.full hR.full).1
  rcases h with h | ⟨acc, i, h1, h2, h3⟩ | ⟨acc, h1, h2⟩
  · exact h ⟨r1, r2, r3⟩
  · cases ht : tRef l i with
    | none =>
      have := (h1.ref.same hR (h1.ref.stuck ht) hR.full).2
      omega
    | some p =>
      obtain ⟨f, e⟩ := p
      have hp := (ChainR.snoc h1.ref h2 ht).pre hR
      have hm : (⟨i, f, e⟩ : Th) ∈ accR := hp.subset (by simp)
      have := hall _ hm
      have : tAt l i = some (f, e) := tAt_of ht (fun hk => by
        unfold okT at this
        dsimp only at this
        rw [if_pos hk] at this
        unfold okM refB at this
        simp only [Bool.and_eq_true, decide_eq_true_eq] at this
        omega)
      rw [h3] at this; cases this
  · obtain rfl := hok acc h1
    rcases h2 with h2 | h2
    · rcases mv_spec h1 acc [] rfl with ⟨ms, e1, _⟩ | ⟨_, t, e1, e2, e3⟩
      · rw [h2] at e1; cases e1
      · have := hall t e1
        unfold okT at this
        rw [if_pos e2, e3] at this; cases this
    · obtain ⟨t, ht, h3⟩ := List.all_eq_false.1 h2
      rw [th_ok h1] at h3
      have := hall t ht
      unfold okT at this
      by_cases hk : kindAt l t.h = 10
      · simp [hk] at h3
      · rw [if_neg hk] at this; rw [this] at h3; simp at h3
end Go.Proofs.Ytfjfobpdlmdddaa

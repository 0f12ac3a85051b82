/- Where a value is now: the way of what was moved, as a plain function. -/
import Derived.Test.YtfjfobpdlmdddaaHSame2
namespace Go.Proofs.Ytfjfobpdlmdddaa
set_option maxRecDepth 100000
def fndI (ms : List (Int × Int)) (x : Int) : Int := if hasI ms x = true then valI ms x else x
theorem rec_kind {l : List Wd} {ps : List (Int × Int)} {x : Int} (h : recB l ps x = true) : kindAt l x = 9 := by
  unfold recB at h
  simp only [Bool.and_eq_true, decide_eq_true_eq] at h
  exact h.2
theorem fnd_cons {ms : List (Int × Int)} {l : List Wd} {ps : List (Int × Int)} {h y x : Int} (hk : kindAt l h = 10) (hno : hasI ms h = false) (hr : recB l ps (fndI ms x) = true) : fndI ((h, y) :: ms) x = fndI ms x := by
  have hx : ¬ h = x := fun e => by
    subst e
    unfold fndI at hr
    rw [hno] at hr
    simp only [Bool.false_eq_true, if_false] at hr
    have := rec_kind hr
    omega
  unfold fndI
  simp only [hasI, valI, hx, decide_false, Bool.false_or, if_false]
/-- A Moved is where that is to which it was moved. -/
theorem mv_follow {l : List Wd} {acc : List Th} (hc : Chain l acc l.length) : ∀ (S pre : List Th) (ms : List (Int × Int)), acc = pre ++ S → mvAll l (plOf acc) S.reverse [] = some ms →
    ∀ t, t ∈ S → kindAt l t.h = 10 → valI ms t.h = fndI ms (nInt l t.h)
  | [], _, _, _, _, t, ht, _ => by cases ht
  | t :: S, pre, ms, he, hm, y, hy, hk => by
    have hinc := hc.ref.inc.1
    rw [he] at hinc
    have hS : ∀ y, y ∈ S → t.h < y.h := fun y hy => (List.pairwise_cons.1 (List.pairwise_append.1 hinc).2.1).1 y hy
    rw [List.reverse_cons, mvAll_snoc] at hm
    rcases mv_spec hc S (pre ++ [t]) (by rw [he]; simp) with ⟨ms', h1, h2, _⟩ | ⟨h1, _⟩
    · rw [h1] at hm
      simp only [Option.bind_some] at hm
      have ih := mv_follow hc S (pre ++ [t]) ms' (by rw [he]; simp) h1
      have hno : hasI ms' t.h = false := by
        rw [Bool.eq_false_iff]
        intro h
        obtain ⟨y, hy, _, e⟩ := (h2.keys _).1 h
        have := hS y hy
        omega
      unfold mvStep at hm
      by_cases hkt : kindAt l t.h = 10
      · rw [if_pos hkt] at hm
        cases hr : recB l (plOf acc) (toOf l ms' t)
        · rw [hr] at hm; simp at hm
        · rw [hr] at hm
          simp only [if_true, Option.some.injEq] at hm
          subst hm
          rcases List.mem_cons.1 hy with h | h
          · subst h
            rw [fnd_cons hkt hno hr]
            simp only [valI, if_true]
            rfl
          · have hne : ¬ (t.h : Int) = y.h := by have := hS y h; omega
            have hy1 : hasI ms' y.h = true := (h2.keys _).2 ⟨y, h, hk, rfl⟩
            have e := ih y h hk
            have hr2 := h2.recs _ hy1
            rw [e] at hr2
            rw [fnd_cons hkt hno hr2]
            simp only [valI, hne, if_false]
            exact e
      · rw [if_neg hkt] at hm
        injection hm with hm
        subst hm
        rcases List.mem_cons.1 hy with h | h
        · subst h; exact absurd hk hkt
        · exact ih y h hk
    · rw [h1] at hm; cases hm
/-- What a heap that may be says of where its values are. -/
structure Ways (l : List Wd) (acc : List Th) (ms : List (Int × Int)) : Prop where
  inl : ∀ x, hasI (plOf acc) x = true → 0 ≤ x ∧ x < l.length
  stay : ∀ x, hasI (plOf acc) x = true → ¬ kindAt l x = 10 → fndI ms x = x
  go : ∀ x, hasI (plOf acc) x = true → kindAt l x = 10 → hasI (plOf acc) (nInt l x.toNat) = true ∧ fndI ms x = fndI ms (nInt l x.toNat) ∧ (kindAt l (nInt l x.toNat) = 10 → x < nInt l x.toNat)
  end_ : ∀ x, hasI (plOf acc) x = true → hasI (plOf acc) (fndI ms x) = true ∧ ¬ kindAt l (fndI ms x) = 10
theorem OkC.ways {lim : Int} {l : List Wd} {acc : List Th} {ms : List (Int × Int)} (h : OkC lim l acc ms) : Ways l acc ms := by
  rcases mv_spec h.chain acc [] rfl with ⟨ms', h1, h2, h3⟩ | ⟨h1, _⟩
  · rw [h.moved] at h1
    injection h1 with h1
    subst h1
    have hmv := mv_follow h.chain acc [] ms rfl h.moved
    have hstay : ∀ x, ¬ kindAt l x = 10 → fndI ms x = x := fun x hk => by
      unfold fndI
      rw [if_neg]
      intro hh
      obtain ⟨t, _, hk', e⟩ := (h2.keys x).1 hh
      rw [e] at hk'
      exact hk hk'
    refine ⟨fun x hx => h.chain.within x hx, fun x _ hk => hstay x hk, fun x hx hk => ?_, fun x hx => ?_⟩
    · obtain ⟨i, hi, e⟩ := (h.chain.has x).1 hx
      have hm : acc[i] ∈ acc := List.getElem_mem hi
      have hk' : kindAt l (acc[i].h : Int) = 10 := by rw [e]; exact hk
      have ht : x.toNat = acc[i].h := by omega
      have hh : hasI ms x = true := (h2.keys x).2 ⟨acc[i], hm, hk', e⟩
      have ok := h3 _ hm hk'
      rw [ht]
      unfold okM at ok
      rw [ref_has h.chain] at ok
      simp only [Bool.and_eq_true, Bool.or_eq_true, decide_eq_true_eq] at ok
      refine ⟨ok.1, ?_, fun hk2 => ?_⟩
      · rw [← hmv _ hm hk', e]
        unfold fndI
        rw [if_pos hh]
      · rcases ok.2 with h' | h'
        · omega
        · omega
    · by_cases hh : hasI ms x = true
      · have hr := h2.recs x hh
        have e : fndI ms x = valI ms x := by unfold fndI; rw [if_pos hh]
        rw [e]
        have := rec_kind hr
        unfold recB at hr
        simp only [Bool.and_eq_true] at hr
        exact ⟨hr.1, by omega⟩
      · have e : fndI ms x = x := by unfold fndI; rw [if_neg hh]
        rw [e]
        refine ⟨hx, fun hk => hh ?_⟩
        obtain ⟨i, hi, e⟩ := (h.chain.has x).1 hx
        exact (h2.keys x).2 ⟨acc[i], List.getElem_mem hi, by rw [e]; exact hk, e⟩
  · rw [h.moved] at h1; cases h1
end Go.Proofs.Ytfjfobpdlmdddaa

/- A collection with all that was made: nothing is gone; plainly. -/
import Derived.Test.YtngaamjkegeioaaHPb
import Derived.Test.YtngaamjkegeioaaHColl
namespace Go.Proofs.Ytngaamjkegeioaa
set_option maxRecDepth 100000
open Go.RowKit Go.Maps
/-- Things that are all brought take as much as the heap. -/
theorem Inv.all {l : List Wd} {acc : List Th} {st : Br} {ord : List Th} {j p : Nat} (h : Inv l acc st ord j p) (hc : Chain l acc l.length) (hall : ∀ t ∈ acc, t ∈ ord) (hp : acc.Pairwise (fun a b => ¬ a.h = b.h)) : st.ws.length = l.length := by
  have h1 := sum_sub szT acc ord hp hall
  rw [chain_sum hc] at h1
  have h3 : offT ord ord.length = (ord.map szT).sum := by unfold offT; rw [List.take_length]
  have h4 := (h.small hc).1
  rw [h.len, h3] at h4 ⊢
  omega
theorem Inv.vals {l : List Wd} {acc : List Th} {ms : List (Int × Int)} {lim : Int} (hok : OkC lim l acc ms) (hwf : wfL l) {ord : List Th} {j : Nat} {hj : j < ord.length} : ∀ (n k : Nat) (st : Br), szT ord[j] - k = n → k ≤ szT ord[j] → ord[j].f - ord[j].h ≤ k → InS l acc ms ord j hj (valsV l ms ord[j].h (offT ord j) st k (szT ord[j] - k)) k st → InS l acc ms ord j hj (valsV l ms ord[j].h (offT ord j) st k (szT ord[j] - k)) (szT ord[j]) (valsV l ms ord[j].h (offT ord j) st k (szT ord[j] - k))
  | 0, k, st, hn, hk, hf, h => by
    have e : k = szT ord[j] := by omega
    subst e
    have e2 : valsV l ms ord[j].h (offT ord j) st (szT ord[j]) (szT ord[j] - szT ord[j]) = st := by rw [Nat.sub_self, valsV]
    rw [e2] at h ⊢
    exact h
  | n + 1, k, st, hn, hk, hf, h => by
    obtain ⟨x, h1, h2, h3, h4⟩ := h.step hok hwf hf (by omega)
    have hs := h4
    obtain ⟨r, hI, hV⟩ := h4
    rw [hV] at hs ⊢
    exact Inv.vals hok hwf n (k + 1) _ (by omega) (by omega) (by omega) hs
theorem parts_inv {l : List Wd} {acc : List Th} {ms : List (Int × Int)} {lim : Int} (hok : OkC lim l acc ms) (hwf : wfL l) : ∀ (n : Nat) (st : Br) (ord : List Th) (j : Nat), Inv l acc st ord j 0 → ∃ r j', Inv l acc (partsV l ms n st j) (ord ++ r) j' 0
  | 0, st, ord, j, h => ⟨[], j, by rw [List.append_nil, partsV]; exact h⟩
  | n + 1, st, ord, j, h => by
    by_cases hj : j < ord.length
    · rw [parts_step h hok.chain hj]
      have hta := (hok.chain.mem _ (h.mem _ (List.getElem_mem hj))).2
      have hle := tAt_le hta
      have hfs : ord[j].f - ord[j].h ≤ szT ord[j] := by unfold szT; omega
      have hs0 : InS l acc ms ord j hj (valsV l ms ord[j].h (offT ord j) st (ord[j].f - ord[j].h) (szT ord[j] - (ord[j].f - ord[j].h))) (ord[j].f - ord[j].h) st := ⟨[], by rw [List.append_nil]; exact h.skip (Nat.zero_le _), rfl⟩
      obtain ⟨_, r, hI, _, _⟩ := (Inv.vals hok hwf _ _ st rfl hfs (Nat.le_refl _) hs0).done
      obtain ⟨r2, j2, h2⟩ := parts_inv hok hwf n _ _ _ hI
      exact ⟨r ++ r2, j2, by rw [← List.append_assoc]; exact h2⟩
    · rw [parts_end h hj]
      exact ⟨[], j, by rw [List.append_nil]; exact h⟩
theorem chain_apart {l : List Wd} {acc : List Th} {a : Nat} (h : Chain l acc a) : acc.Pairwise (fun x y => ¬ x.h = y.h) ∧ ∀ t ∈ acc, t.h < a := by
  induction h with
  | nil => exact ⟨List.Pairwise.nil, fun t ht => by cases ht⟩
  | snoc hc hl ht ih =>
    have hle := tAt_le ht
    refine ⟨?_, fun t hm => ?_⟩
    · rw [List.pairwise_append]
      refine ⟨ih.1, List.pairwise_singleton _ _, fun x hx y hy e => ?_⟩
      rw [List.mem_singleton] at hy
      subst hy
      have := ih.2 x hx
      dsimp only at e
      omega
    · rcases List.mem_append.1 hm with h1 | h1
      · have := ih.2 t h1; omega
      · rw [List.mem_singleton] at h1; subst h1; dsimp only; omega
theorem brg_keeps {l : List Wd} {ms : List (Int × Int)} {st : Br} {x : Wd} {n : Int} (h : hasI st.nw n = true) : hasI (brg l ms st x).1.nw n = true := by
  unfold brg
  split
  · split
    · exact h
    · simp [hasI, h]
  · exact h
theorem brg_has {l : List Wd} {ms : List (Int × Int)} {st : Br} {x : Wd} (hk : x.k = 5) : hasI (brg l ms st x).1.nw (fndI ms x.n) = true := by
  unfold brg
  rw [if_pos hk]
  split
  · assumption
  · simp [hasI]
theorem brgs_keeps {l : List Wd} {ms : List (Int × Int)} {n : Int} : ∀ (R : List Wd) (st : Br), hasI st.nw n = true → hasI (brgs l ms st R).1.nw n = true
  | [], _, h => h
  | _ :: r, _, h => brgs_keeps r _ (brg_keeps h)
theorem brgs_has {l : List Wd} {ms : List (Int × Int)} {x : Wd} (hk : x.k = 5) : ∀ (R : List Wd) (st : Br), x ∈ R → hasI (brgs l ms st R).1.nw (fndI ms x.n) = true
  | y :: r, st, hx => by
    rcases List.mem_cons.1 hx with rfl | h
    · exact brgs_keeps r _ (brg_has hk)
    · exact brgs_has hk r _ h
/-- With all that was made nothing is gone. -/
theorem all_kept {l M l' R' : List Wd} {lim' r : Int} (h : MadeI l M) (hwf : wfL l) (hc : CoI 600 l M l' lim' R' r) : r = 0 ∧ l'.length = l.length := by
  obtain ⟨acc, ms, hok, hn, hv, hall⟩ := h
  rcases hc with ⟨_, hbad, _⟩ | ⟨_, ⟨acc', ms', h1, h2⟩, _⟩ | ⟨h0, acc', ms', h1, h2, hl, _, _⟩
  · exact absurd hbad hok.not_bad
  · obtain ⟨rfl, rfl⟩ := okC_same hok h1
    have : allB (plOf acc') M = true := by unfold allB; exact List.all_eq_true.2 (fun u hu => hv u hu)
    rw [this] at h2; cases h2
  · obtain ⟨rfl, rfl⟩ := okC_same hok h1
    have hm := no_moved hok hn
    subst hm
    refine ⟨h0, ?_⟩
    obtain ⟨ord1, hI1⟩ := Inv.brgs hok M ⟨[], []⟩ [] (Inv.empty l acc') (all_refs h2)
    obtain ⟨r2, j2, hI2⟩ := parts_inv hok hwf 60001 _ ord1 0 hI1
    rw [hl]
    refine hI2.all hok.chain (fun t ht => ?_) (chain_apart hok.chain).1
    obtain ⟨u, hu, hk, hn2⟩ := hall t ht
    have hh := brgs_has (l := l) (ms := []) hk M ⟨[], []⟩ hu
    have e : fndI [] u.n = u.n := by unfold fndI; simp [hasI]
    rw [e, hn2] at hh
    obtain ⟨t', ht', e'⟩ := (hI1.has _).1 hh
    have e1 : t'.h = t.h := by omega
    have q1 := (hok.chain.mem t ht).2
    have q2 := (hok.chain.mem t' (hI1.mem t' ht')).2
    rw [e1, q1] at q2
    injection q2 with q2
    injection q2 with q3 q4
    have : t = t' := by cases t; cases t'; simp_all
    rw [this]
    exact List.mem_append.2 (Or.inl ht')
/-- Without roots nothing is left. -/
theorem none_left {l M l' R' : List Wd} {lim' r : Int} (h : MadeI l M) (hc : CoI 600 l [] l' lim' R' r) : r = 0 ∧ l' = [] := by
  obtain ⟨acc, ms, hok, _⟩ := h
  rcases hc with ⟨_, hbad, _⟩ | ⟨_, ⟨acc', ms', h1, h2⟩, _⟩ | ⟨h0, acc', ms', h1, h2, hl, _, _⟩
  · exact absurd hbad hok.not_bad
  · simp [allB] at h2
  · exact ⟨h0, by rw [hl]; simp [brgs, partsV]⟩
theorem bad_root {l M l' R' : List Wd} {lim' r : Int} (h : MadeI l M) (hc : CoI 600 l [⟨5, (l.length : Int), ⟨#[]⟩⟩] l' lim' R' r) : r = 3 := by
  obtain ⟨acc, ms, hok, _⟩ := h
  rcases hc with ⟨_, hbad, _⟩ | ⟨h0, _⟩ | ⟨_, acc', ms', h1, h2, _⟩
  · exact absurd hbad hok.not_bad
  · exact h0
  · have := all_refs h2 _ (List.mem_singleton.2 rfl) rfl
    have := h1.chain.within _ this
    dsimp only at this
    omega
end Go.Proofs.Ytngaamjkegeioaa

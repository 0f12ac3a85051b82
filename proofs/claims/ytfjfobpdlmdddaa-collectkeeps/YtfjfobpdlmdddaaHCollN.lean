/- How much a collection leaves. -/
import Derived.Test.YtfjfobpdlmdddaaHColl
namespace Go.Proofs.Ytfjfobpdlmdddaa
set_option maxRecDepth 100000
open Go.RowKit Go.Maps
theorem Inv.vals {l : List Wd} {acc : List Th} {ms : List (Int × Int)} {lim : Int} (hok : OkC lim l acc ms) (hwf : wfL l) {ord : List Th} {j : Nat} {hj : j < ord.length} : ∀ (n k : Nat) (st : Br), szT ord[j] - k = n → k ≤ szT ord[j] → ord[j].f - ord[j].h ≤ k → InS l acc ms ord j hj (valsV l ms ord[j].h (offT ord j) st k (szT ord[j] - k)) k st → InS l acc ms ord j hj (valsV l ms ord[j].h (offT ord j) st k (szT ord[j] - k)) (szT ord[j]) (valsV l ms ord[j].h (offT ord j) st k (szT ord[j] - k))
  | 0, k, st, hn, hk, hf, h => by
    have e : k = szT ord[j] := by omega
    subst e
    have e2 : valsV l ms ord[j].h (offT ord j) st (szT ord[j]) (szT ord[j] - szT ord[j]) = st := by rw [Nat.sub_self, valsV]
    rw [e2] at h ⊢
    exact h
  | n + 1, k, st, hn, hk, hf, h => by
    obtain ⟨x, h1, h2, h3, h4⟩ := h.step hok hwf hf (by omega)
    have hs := h4
    obtain ⟨r, hI, hV⟩ := h4
    rw [hV] at hs ⊢
    exact Inv.vals hok hwf n (k + 1) _ (by omega) (by omega) (by omega) hs
theorem parts_inv {l : List Wd} {acc : List Th} {ms : List (Int × Int)} {lim : Int} (hok : OkC lim l acc ms) (hwf : wfL l) : ∀ (n : Nat) (st : Br) (ord : List Th) (j : Nat), Inv l acc st ord j 0 → ∃ r j', Inv l acc (partsV l ms n st j) (ord ++ r) j' 0
  | 0, st, ord, j, h => ⟨[], j, by rw [List.append_nil, partsV]; exact h⟩
  | n + 1, st, ord, j, h => by
    by_cases hj : j < ord.length
    · rw [parts_step h hok.chain hj]
      have hta := (hok.chain.mem _ (h.mem _ (List.getElem_mem hj))).2
      have hle := tAt_le hta
      have hfs : ord[j].f - ord[j].h ≤ szT ord[j] := by unfold szT; omega
      have hs0 : InS l acc ms ord j hj (valsV l ms ord[j].h (offT ord j) st (ord[j].f - ord[j].h) (szT ord[j] - (ord[j].f - ord[j].h))) (ord[j].f - ord[j].h) st := ⟨[], by rw [List.append_nil]; exact h.skip (Nat.zero_le _), rfl⟩
      obtain ⟨_, r, hI, _, _⟩ := (Inv.vals hok hwf _ _ st rfl hfs (Nat.le_refl _) hs0).done
      obtain ⟨r2, j2, h2⟩ := parts_inv hok hwf n _ _ _ hI
      exact ⟨r ++ r2, j2, by rw [← List.append_assoc]; exact h2⟩
    · rw [parts_end h hj]
      exact ⟨[], j, by rw [List.append_nil]; exact h⟩
theorem CoI.len {lim : Int} {l R l' : List Wd} {lim' : Int} {R' : List Wd} {r : Int} (h : CoI lim l R l' lim' R' r) (hwf : wfL l) : l'.length ≤ 60000 ∧ R'.length ≤ R.length := by
  rcases h with ⟨_, _, rfl, _, rfl⟩ | ⟨_, _, rfl, _, rfl⟩ | ⟨_, acc, ms, hok, hall, rfl, _, rfl⟩
  · simp
  · simp
  · obtain ⟨ord1, hI1⟩ := Inv.brgs hok R ⟨[], []⟩ [] (Inv.empty l acc) (all_refs hall)
    obtain ⟨r, j', hI⟩ := parts_inv (ms := ms) hok hwf 60001 _ ord1 0 hI1
    have h1 := (hI.small hok.chain).1
    have h2 := hok.hi
    have h3 := hok.room
    exact ⟨by omega, by rw [brgs_len]; exact Nat.le_refl _⟩
end Go.Proofs.Ytfjfobpdlmdddaa

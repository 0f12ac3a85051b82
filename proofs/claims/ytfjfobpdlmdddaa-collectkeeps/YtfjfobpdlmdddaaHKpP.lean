/- What is brought is as it was, but for where it lies; brought again it stays: a collection, plainly. -/
import Derived.Test.YtfjfobpdlmdddaaHCollN
namespace Go.Proofs.Ytfjfobpdlmdddaa
set_option maxRecDepth 100000
open Go.RowKit Go.Maps
/-- A value, and what it is on the new heap. -/
def RenR (ord : List Th) (ms : List (Int × Int)) (x y : Wd) : Prop :=
  (¬ x.k = 5 ∧ y = x) ∨ (x.k = 5 ∧ ∃ i, ∃ hi : i < ord.length, (ord[i].h : Int) = fndI ms x.n ∧ y = ⟨5, (offT ord i : Int), x.s⟩)
theorem RenR.app {ord : List Th} {ms : List (Int × Int)} {x y : Wd} (h : RenR ord ms x y) (r : List Th) : RenR (ord ++ r) ms x y := by
  rcases h with h | ⟨h1, i, hi, h2, h3⟩
  · exact Or.inl h
  · exact Or.inr ⟨h1, i, by simp; omega, by rw [List.getElem_append_left hi]; exact h2, by rw [offT_apps ord r i (by omega)]; exact h3⟩
theorem val_of_mem : ∀ {nw : List (Int × Int)} {p : Int × Int}, (nw.map (·.1)).Nodup → p ∈ nw → valI nw p.1 = p.2
  | [], p, _, hp => by cases hp
  | q :: r, p, hn, hp => by
    rw [List.map_cons, List.nodup_cons] at hn
    rcases List.mem_cons.1 hp with rfl | hp
    · simp [valI]
    · have hne : ¬ q.1 = p.1 := fun e => hn.1 (by rw [e]; exact List.mem_map.2 ⟨p, hp, rfl⟩)
      unfold valI
      rw [if_neg hne]
      exact val_of_mem hn.2 hp
section
variable {l : List Wd} {acc : List Th} {ms : List (Int × Int)} {lim : Int} {st : Br} {ord : List Th} {j p : Nat}
theorem Inv.knod (h : Inv l acc st ord j p) : (st.nw.map (·.1)).Nodup := by
  have e : st.nw.map (·.1) = (ord.map fun t => (t.h : Int)).reverse := by
    rw [h.nw, List.map_reverse, List.map_map]
    congr 1
    have : (List.map ((fun x : Int × Int => x.1) ∘ fun q : Th × Nat => ((q.1.h : Int), (offT ord q.2 : Int))) ord.zipIdx) = (ord.zipIdx.map Prod.fst).map (fun t => (t.h : Int)) := by rw [List.map_map]; rfl
    rw [this, List.zipIdx_map_fst]
  rw [e]
  unfold List.Nodup
  rw [List.pairwise_reverse]
  exact List.pairwise_map.2 (h.nod.imp (fun hab e => hab (by omega)))
theorem Inv.mem_nw (h : Inv l acc st ord j p) (i : Nat) (hi : i < ord.length) : ((ord[i].h : Int), (offT ord i : Int)) ∈ st.nw := by
  have h1 := h.at i hi
  rw [← List.mem_reverse]
  exact List.mem_of_getElem? h1
theorem Inv.valo (h : Inv l acc st ord j p) (i : Nat) (hi : i < ord.length) : valI st.nw (ord[i].h : Int) = (offT ord i : Int) := val_of_mem h.knod (h.mem_nw i hi)
/-- A value is brought: what it is then. -/
theorem inv_ren (h : Inv l acc st ord j p) (hok : OkC lim l acc ms) (x : Wd) (hx : x.k = 5 → hasI (plOf acc) x.n = true) :
    ∃ r, Inv l acc (brg l ms st x).1 (ord ++ r) j p ∧ RenR (ord ++ r) ms x (brg l ms st x).2 ∧ (brg l ms st x).1.ws = st.ws ++ (brg l ms st x).1.ws.drop st.ws.length := by
  by_cases hk : x.k = 5
  · cases hh : hasI st.nw (fndI ms x.n)
    · have he := (hok.ways.end_ x.n (hx hk)).1
      have he2 := (hok.ways.end_ x.n (hx hk)).2
      obtain ⟨i, hi, e⟩ := (hok.chain.has _).1 he
      have hta := (hok.chain.mem acc[i] (List.getElem_mem hi)).2
      rw [brg_new hk hh e.symm hta]
      refine ⟨[acc[i]], h.more (List.getElem_mem hi) hta (by rw [e]; exact hh) (by rw [e]; exact he2), Or.inr ⟨hk, ord.length, by simp, by simpa using e, ?_⟩, by simp⟩
      rw [offT_app ord _ _ (Nat.le_refl _), ← h.len]
    · rw [brg_old hk hh]
      obtain ⟨t, ht, e⟩ := (h.has _).1 hh
      obtain ⟨i, hi, rfl⟩ := List.getElem_of_mem ht
      refine ⟨[], by rw [List.append_nil]; exact h, ?_, by simp⟩
      rw [List.append_nil]
      exact Or.inr ⟨hk, i, hi, e, by rw [← e, h.valo i hi]⟩
  · rw [brg_no hk]
    exact ⟨[], by rw [List.append_nil]; exact h, Or.inl ⟨hk, rfl⟩, by simp⟩
end
/-- The values of the first j things, and those of the next one ahead of p, are what they are on the new heap. -/
def Done (l : List Wd) (ms : List (Int × Int)) (ord : List Th) (ws : List Wd) (j p : Nat) : Prop :=
  ∀ i (hi : i < ord.length) k, ord[i].f - ord[i].h ≤ k → k < szT ord[i] → (i < j ∨ (i = j ∧ k < p)) → ∃ x y, l[ord[i].h + k]? = some x ∧ ws[offT ord i + k]? = some y ∧ RenR ord ms x y
theorem off_in {ord : List Th} {i k : Nat} (hi : i < ord.length) (hk : k < szT ord[i]) : offT ord i + k < offT ord ord.length := by
  have h2 := offT_succ ord i hi
  have h3 := offT_le ord (i + 1) (ord.length - (i + 1)) (by omega)
  rw [show i + 1 + (ord.length - (i + 1)) = ord.length by omega] at h3
  omega
theorem Done.app {l : List Wd} {ms : List (Int × Int)} {ord : List Th} {ws : List Wd} {j p : Nat} (h : Done l ms ord ws j p) (hj : j < ord.length ∨ (j = ord.length ∧ p = 0)) (r : List Th) {ws' : List Wd} (hws : ∀ q, q < offT ord ord.length → ws'[q]? = ws[q]?) : Done l ms (ord ++ r) ws' j p := by
  intro i hi k h1 h2 hc
  have hlt : i < ord.length := by
    rcases hc with h | ⟨h, h'⟩
    · rcases hj with q | q <;> omega
    · rcases hj with q | q <;> omega
  have eg : (ord ++ r)[i] = ord[i] := List.getElem_append_left hlt
  rw [eg] at h1 h2
  obtain ⟨x, y, q1, q2, q3⟩ := h i hlt k h1 h2 hc
  refine ⟨x, y, by rw [eg]; exact q1, ?_, q3.app r⟩
  rw [offT_apps ord r i (by omega), hws _ (off_in hlt h2)]
  exact q2
/-- One value more. -/
theorem done_step {l : List Wd} {acc : List Th} {ms : List (Int × Int)} {lim : Int} {st : Br} {ord : List Th} {j p : Nat} (h : Inv l acc st ord j p) (hok : OkC lim l acc ms) (hD : Done l ms ord st.ws j p) (hj : j < ord.length) (hf : ord[j].f - ord[j].h ≤ p) (hpz : p < szT ord[j]) :
    ∃ r, Inv l acc (stepV l ms st ord[j].h (offT ord j) p) (ord ++ r) j (p + 1) ∧ Done l ms (ord ++ r) (stepV l ms st ord[j].h (offT ord j) p).ws j (p + 1) := by
  obtain ⟨x, h1, _, h3⟩ := h.val hok hj hf hpz
  obtain ⟨r, hI, hR, hpre⟩ := inv_ren h hok x h3
  obtain ⟨e, _⟩ := h.step hok hj hf hpz h1 h3
  have eg : (ord ++ r)[j]'(by simp; omega) = ord[j] := List.getElem_append_left hj
  have h2 := hI.set (by simp; omega) (by rw [eg]; exact hf) (by rw [eg]; exact hpz) (brg l ms st x).2
  rw [offT_apps ord r j (by omega), ← e] at h2
  refine ⟨r, h2, ?_⟩
  have hlen := h.len
  have hin := off_in hj hpz
  have hws : ∀ q, q < offT ord ord.length → ¬ q = offT ord j + p → (stepV l ms st ord[j].h (offT ord j) p).ws[q]? = st.ws[q]? := fun q hq hne => by
    rw [e]
    dsimp only
    rw [List.getElem?_set_ne (fun e => hne e.symm), hpre, List.getElem?_append_left (by omega)]
  intro i hi k q1 q2 hc
  by_cases he : i = j ∧ k = p
  · obtain ⟨rfl, rfl⟩ := he
    rw [eg] at q1 q2 ⊢
    refine ⟨x, (brg l ms st x).2, h1, ?_, hR⟩
    rw [offT_apps ord r i (by omega), e]
    dsimp only
    rw [List.getElem?_set_self]
    rw [hpre, List.length_append]
    omega
  · have hlt : i < ord.length := by rcases hc with h | ⟨h, _⟩ <;> omega
    have eg2 : (ord ++ r)[i] = ord[i] := List.getElem_append_left hlt
    rw [eg2] at q1 q2
    obtain ⟨x', y', q3, q4, q5⟩ := hD i hlt k q1 q2 (by rcases hc with h | ⟨h, h'⟩; exact Or.inl h; exact Or.inr ⟨h, by omega⟩)
    refine ⟨x', y', by rw [eg2]; exact q3, ?_, q5.app r⟩
    rw [offT_apps ord r i (by omega), hws _ (off_in hlt q2) (fun e => ?_)]
    · exact q4
    · rcases Nat.lt_trichotomy i j with hl | rfl | hl
      · have a1 := offT_succ ord i hlt
        have a2 := offT_le ord (i + 1) (j - (i + 1)) (by omega)
        rw [show i + 1 + (j - (i + 1)) = j by omega] at a2
        omega
      · exact he ⟨rfl, by omega⟩
      · rcases hc with h | ⟨h, _⟩ <;> omega
theorem done_vals {l : List Wd} {acc : List Th} {ms : List (Int × Int)} {lim : Int} (hok : OkC lim l acc ms) : ∀ (n k : Nat) (st : Br) (ord : List Th) (j : Nat) (hj : j < ord.length), szT ord[j] - k = n → k ≤ szT ord[j] → ord[j].f - ord[j].h ≤ k → Inv l acc st ord j k → Done l ms ord st.ws j k →
    ∃ r, Inv l acc (valsV l ms ord[j].h (offT ord j) st k n) (ord ++ r) j (k + n) ∧ Done l ms (ord ++ r) (valsV l ms ord[j].h (offT ord j) st k n).ws j (k + n)
  | 0, k, st, ord, j, hj, hn, hk, hf, hI, hD => ⟨[], by rw [List.append_nil]; exact ⟨hI, hD⟩⟩
  | n + 1, k, st, ord, j, hj, hn, hk, hf, hI, hD => by
    obtain ⟨r, h1, h2⟩ := done_step hI hok hD hj hf (by omega)
    have eg : (ord ++ r)[j]'(by simp; omega) = ord[j] := List.getElem_append_left hj
    have eo := offT_apps ord r j (by omega)
    obtain ⟨r2, h3, h4⟩ := done_vals hok n (k + 1) _ (ord ++ r) j (by simp; omega) (by rw [eg]; omega) (by rw [eg]; omega) (by rw [eg]; omega) h1 h2
    rw [eg, eo] at h3 h4
    exact ⟨r ++ r2, by rw [valsV, ← List.append_assoc, show k + (n + 1) = k + 1 + n by omega]; exact ⟨h3, h4⟩⟩
/-- All is done in the end. -/
theorem done_parts {l : List Wd} {acc : List Th} {ms : List (Int × Int)} {lim : Int} (hok : OkC lim l acc ms) : ∀ (n : Nat) (st : Br) (ord : List Th) (j : Nat), j ≤ ord.length → l.length < n + j → Inv l acc st ord j 0 → Done l ms ord st.ws j 0 →
    ∃ r, Inv l acc (partsV l ms n st j) (ord ++ r) (ord ++ r).length 0 ∧ Done l ms (ord ++ r) (partsV l ms n st j).ws (ord ++ r).length 0
  | 0, st, ord, j, hj, hn, hI, hD => by
    have := (hI.small hok.chain).2.2
    omega
  | n + 1, st, ord, j, hj, hn, hI, hD => by
    by_cases hlt : j < ord.length
    · rw [parts_step hI hok.chain hlt]
      have hta := (hok.chain.mem _ (hI.mem _ (List.getElem_mem hlt))).2
      have hle := tAt_le hta
      have hfs : ord[j].f - ord[j].h ≤ szT ord[j] := by unfold szT; omega
      have hD' : Done l ms ord st.ws j (ord[j].f - ord[j].h) := fun i hi k q1 q2 hc => hD i hi k q1 q2 (by
        rcases hc with h | ⟨rfl, h⟩
        · exact Or.inl h
        · omega)
      obtain ⟨r, h1, h2⟩ := done_vals hok _ (ord[j].f - ord[j].h) st ord j hlt rfl hfs (Nat.le_refl _) (hI.skip (Nat.zero_le _)) hD'
      rw [show ord[j].f - ord[j].h + (szT ord[j] - (ord[j].f - ord[j].h)) = szT ord[j] by omega] at h1 h2
      have eg : (ord ++ r)[j]'(by simp; omega) = ord[j] := List.getElem_append_left hlt
      have h2' : Done l ms (ord ++ r) (valsV l ms ord[j].h (offT ord j) st (ord[j].f - ord[j].h) (szT ord[j] - (ord[j].f - ord[j].h))).ws (j + 1) 0 := fun i hi k q1 q2 hc => h2 i hi k q1 q2 (by
        rcases hc with h | ⟨_, h⟩
        · by_cases e : i = j
          · subst e; rw [eg] at q2; exact Or.inr ⟨rfl, q2⟩
          · exact Or.inl (by omega)
        · omega)
      obtain ⟨r2, h3, h4⟩ := done_parts hok n _ (ord ++ r) (j + 1) (by simp; omega) (by omega) h1.next h2'
      exact ⟨r ++ r2, by rw [← List.append_assoc]; exact ⟨h3, h4⟩⟩
    · have e : j = ord.length := by omega
      subst e
      rw [parts_end hI hlt]
      exact ⟨[], by rw [List.append_nil]; exact ⟨hI, hD⟩⟩
/-- The roots. -/
theorem ren_roots {l : List Wd} {acc : List Th} {ms : List (Int × Int)} {lim : Int} (hok : OkC lim l acc ms) : ∀ (R : List Wd) (st : Br) (ord : List Th), Inv l acc st ord 0 0 → (∀ x ∈ R, x.k = 5 → hasI (plOf acc) x.n = true) →
    ∃ r, Inv l acc (brgs l ms st R).1 (ord ++ r) 0 0 ∧ (brgs l ms st R).2.length = R.length ∧ ∀ i (h1 : i < R.length) (h2 : i < (brgs l ms st R).2.length), RenR (ord ++ r) ms R[i] (brgs l ms st R).2[i]
  | [], st, ord, h, _ => ⟨[], by rw [List.append_nil]; exact h, rfl, fun i h1 => absurd h1 (by simp)⟩
  | x :: R, st, ord, h, hx => by
    obtain ⟨r, h1, h2, _⟩ := inv_ren h hok x (hx x (List.mem_cons_self ..))
    obtain ⟨r2, h3, h4, h5⟩ := ren_roots hok R _ _ h1 (fun y hy => hx y (List.mem_cons_of_mem _ hy))
    refine ⟨r ++ r2, by rw [← List.append_assoc]; exact h3, by simp [brgs, h4], fun i q1 q2 => ?_⟩
    rw [← List.append_assoc]
    cases i with
    | zero => exact h2.app r2
    | succ i => exact h5 i (by simpa using q1) (by simpa [brgs] using q2)
end Go.Proofs.Ytfjfobpdlmdddaa

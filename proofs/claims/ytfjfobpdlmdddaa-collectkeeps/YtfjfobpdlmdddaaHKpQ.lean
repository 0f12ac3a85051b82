/- Brought again all stays as it is: a collection of what was collected, plainly. -/
import Derived.Test.YtfjfobpdlmdddaaHKpP
namespace Go.Proofs.Ytfjfobpdlmdddaa
set_option maxRecDepth 100000
open Go.RowKit Go.Maps
/-- What a collection leaves, with the order in which things were reached. -/
structure FinG (l : List Wd) (ms : List (Int × Int)) (g : List Wd) (ord : List Th) : Prop where
  len : g.length = offT ord ord.length
  shape : ∀ i (hi : i < ord.length), tAt g (offT ord i) = some (offT ord i + (ord[i].f - ord[i].h), offT ord i + (ord[i].e - ord[i].h))
  pos : ∀ i (hi : i < ord.length), ord[i].h < ord[i].f ∧ ord[i].f ≤ ord[i].e
  nod : ord.Pairwise (fun a b => ¬ a.h = b.h)
  head : ∀ i (hi : i < ord.length), g[offT ord i]? = l[ord[i].h]?
  front : ∀ i (hi : i < ord.length) k, k < ord[i].f - ord[i].h → g[offT ord i + k]? = l[ord[i].h + k]?
  kin : ∀ i (hi : i < ord.length), ¬ kindAt l ord[i].h = 10
  may : ∀ i (hi : i < ord.length) k x, ord[i].f - ord[i].h ≤ k → k < szT ord[i] → l[ord[i].h + k]? = some x → (¬ x.k = 5 → ∀ ps, valB ps x.k x.n x.s = true) ∧ (x.k = 5 → x.s = ⟨#[]⟩)
  vals : ∀ i (hi : i < ord.length) k, ord[i].f - ord[i].h ≤ k → k < szT ord[i] → ∃ x y, l[ord[i].h + k]? = some x ∧ g[offT ord i + k]? = some y ∧ RenR ord ms x y
/-- The second collection, when so many things were reached. -/
def S2 (g : List Wd) (ord : List Th) (m : Nat) : Br := ⟨g.take (offT ord m), ((List.range m).map fun i => ((offT ord i : Int), (offT ord i : Int))).reverse⟩
theorem FinG.lt {l g : List Wd} {ms : List (Int × Int)} {ord : List Th} (h : FinG l ms g ord) {i m : Nat} (him : i < m) (hm : m ≤ ord.length) : offT ord i < offT ord m := by
  have h1 := offT_succ ord i (by omega)
  have h2 := offT_le ord (i + 1) (m - (i + 1)) (by omega)
  rw [show i + 1 + (m - (i + 1)) = m by omega] at h2
  have := h.pos i (by omega)
  unfold szT at h1
  omega
theorem S2.has {g : List Wd} {ord : List Th} {m : Nat} {x : Int} : hasI (S2 g ord m).nw x = true ↔ ∃ i, i < m ∧ (offT ord i : Int) = x := by
  rw [hasI_rev]
  unfold S2
  simp only [List.mem_reverse, List.mem_map, List.mem_range]
  constructor
  · rintro ⟨_, ⟨i, hi, rfl⟩, h⟩; exact ⟨i, hi, h⟩
  · rintro ⟨i, hi, h⟩; exact ⟨_, ⟨i, hi, rfl⟩, h⟩
theorem same_val : ∀ {nw : List (Int × Int)} {x : Int}, (∀ p ∈ nw, p.2 = p.1) → hasI nw x = true → valI nw x = x
  | [], x, _, h => by cases h
  | p :: r, x, hp, h => by
    unfold valI
    by_cases e : p.1 = x
    · rw [if_pos e, hp p (List.mem_cons_self ..), e]
    · rw [if_neg e]
      refine same_val (fun q hq => hp q (List.mem_cons_of_mem _ hq)) ?_
      unfold hasI at h
      rw [Bool.or_eq_true] at h
      rcases h with h | h
      · exact absurd (by simpa using h) e
      · exact h
theorem S2.val {g : List Wd} {ord : List Th} {m i : Nat} (hi : i < m) : valI (S2 g ord m).nw (offT ord i : Int) = (offT ord i : Int) := by
  refine same_val (fun p hp => ?_) (S2.has.2 ⟨i, hi, rfl⟩)
  unfold S2 at hp
  simp only [List.mem_reverse, List.mem_map, List.mem_range] at hp
  obtain ⟨j, _, rfl⟩ := hp
  rfl
theorem fnd0 (x : Int) : fndI [] x = x := by unfold fndI; simp [hasI]
theorem S2.at {g : List Wd} {ord : List Th} {m j : Nat} : (S2 g ord m).nw.reverse[j]? = if j < m then some ((offT ord j : Int), (offT ord j : Int)) else none := by
  unfold S2
  rw [List.reverse_reverse, List.getElem?_map]
  by_cases h : j < m
  · rw [if_pos h, List.getElem?_range h]; rfl
  · rw [if_neg h, List.getElem?_eq_none (by simp; omega)]; rfl
/-- The value that is there is set there. -/
theorem take_same {g : List Wd} {n q : Nat} {y : Wd} (h : g[q]? = some y) : (g.take n).set q y = g.take n := by
  refine List.ext_getElem? fun i => ?_
  by_cases e : q = i
  · subst e
    by_cases hq : q < (g.take n).length
    · rw [List.getElem?_set_self hq, List.getElem?_take_of_lt (by simp at hq; omega), h]
    · rw [List.getElem?_eq_none (by simpa using hq), List.getElem?_eq_none (by simpa using hq)]
  · rw [List.getElem?_set_ne e]
/-- One value in the second collection: it stays, and what it refers to is the next thing, or one that was reached. -/
theorem S2.brg {g : List Wd} {ord : List Th} {m : Nat} {y : Wd} (hy : ¬ y.k = 5 ∨ (∃ i s, i < m ∧ y = ⟨5, (offT ord i : Int), s⟩)) : Go.Proofs.Ytfjfobpdlmdddaa.brg g [] (S2 g ord m) y = (S2 g ord m, y) := by
  rcases hy with hy | ⟨i, s, hi, rfl⟩
  · exact brg_no hy
  · have hh : hasI (S2 g ord m).nw (fndI [] (offT ord i : Int)) = true := by rw [fnd0]; exact S2.has.2 ⟨i, hi, rfl⟩
    rw [brg_old rfl hh, fnd0, S2.val hi]
theorem S2.next {l g : List Wd} {ms : List (Int × Int)} {ord : List Th} (h : FinG l ms g ord) {m : Nat} (hm : m < ord.length) (s : ByteArray) : Go.Proofs.Ytfjfobpdlmdddaa.brg g [] (S2 g ord m) ⟨5, (offT ord m : Int), s⟩ = (S2 g ord (m + 1), ⟨5, (offT ord m : Int), s⟩) := by
  have hno : hasI (S2 g ord m).nw (fndI [] (offT ord m : Int)) = false := by
    rw [fnd0, Bool.eq_false_iff]
    intro hh
    obtain ⟨i, hi, e⟩ := S2.has.1 hh
    have := h.lt hi (by omega)
    omega
  have hs := h.shape m hm
  have hsu := offT_succ ord m hm
  have hl := h.lt hm (Nat.le_refl _)
  rw [← h.len] at hl
  have hlen : (S2 g ord m).ws.length = offT ord m := by unfold S2; simp; omega
  rw [brg_new (t := ⟨offT ord m, offT ord m + (ord[m].f - ord[m].h), offT ord m + (ord[m].e - ord[m].h)⟩) rfl hno (fnd0 _) hs]
  dsimp only
  rw [hlen]
  have e1 : offT ord m + (ord[m].e - ord[m].h) = offT ord (m + 1) := by rw [hsu]; rfl
  rw [e1]
  have e2 : (S2 g ord m).ws ++ sub g (offT ord m) (offT ord (m + 1)) = (S2 g ord (m + 1)).ws := by
    unfold S2 sub
    dsimp only
    have : g.take (offT ord m) = (g.take (offT ord (m + 1))).take (offT ord m) := by rw [List.take_take]; congr 1; omega
    rw [this, List.take_append_drop]
  have e3 : ((offT ord m : Int), (offT ord m : Int)) :: (S2 g ord m).nw = (S2 g ord (m + 1)).nw := by
    unfold S2
    dsimp only
    rw [List.range_succ, List.map_append, List.reverse_append]
    rfl
  rw [e2, e3]
theorem ren_eq {ord : List Th} {ms : List (Int × Int)} {x y z : Wd} (hn : ord.Pairwise (fun a b => ¬ a.h = b.h)) (h : RenR ord ms x y) (h' : RenR ord ms x z) : y = z := by
  rcases h with ⟨h1, h2⟩ | ⟨h1, i, hi, h2, h3⟩
  · rcases h' with ⟨_, h4⟩ | ⟨h4, _⟩
    · rw [h2, h4]
    · exact absurd h4 h1
  · rcases h' with ⟨h4, _⟩ | ⟨_, k, hk, h5, h6⟩
    · exact absurd h1 h4
    · have e : ord[i].h = ord[k].h := by omega
      have hik : i = k := by
        rcases Nat.lt_trichotomy i k with q | q | q
        · exact absurd e (List.pairwise_iff_getElem.1 hn i k hi hk q)
        · exact q
        · exact absurd e.symm (List.pairwise_iff_getElem.1 hn k i hk hi q)
      subst hik
      rw [h3, h6]
/-- A value is brought, and brought again. -/
theorem sim_brg {l : List Wd} {acc : List Th} {ms : List (Int × Int)} {lim : Int} {st : Br} {ord : List Th} {j p : Nat} (h : Inv l acc st ord j p) (hok : OkC lim l acc ms) (x : Wd) (hx : x.k = 5 → hasI (plOf acc) x.n = true) :
    ∃ r, Inv l acc (brg l ms st x).1 (ord ++ r) j p ∧ RenR (ord ++ r) ms x (brg l ms st x).2 ∧ (brg l ms st x).1.ws = st.ws ++ (brg l ms st x).1.ws.drop st.ws.length ∧
      ∀ rest g, FinG l ms g (ord ++ r ++ rest) → brg g [] (S2 g (ord ++ r ++ rest) ord.length) (brg l ms st x).2 = (S2 g (ord ++ r ++ rest) (ord ++ r).length, (brg l ms st x).2) := by
  by_cases hk : x.k = 5
  · cases hh : hasI st.nw (fndI ms x.n)
    · have he := (hok.ways.end_ x.n (hx hk)).1
      have he2 := (hok.ways.end_ x.n (hx hk)).2
      obtain ⟨i, hi, e⟩ := (hok.chain.has _).1 he
      have hta := (hok.chain.mem acc[i] (List.getElem_mem hi)).2
      rw [brg_new hk hh e.symm hta]
      refine ⟨[acc[i]], h.more (List.getElem_mem hi) hta (by rw [e]; exact hh) (by rw [e]; exact he2), Or.inr ⟨hk, ord.length, by simp, by simpa using e, ?_⟩, by simp, fun rest g hF => ?_⟩
      · rw [offT_app ord _ _ (Nat.le_refl _), ← h.len]
      · have := S2.next hF (m := ord.length) (by simp) x.s
        dsimp only
        have ho : offT (ord ++ [acc[i]] ++ rest) ord.length = st.ws.length := by rw [offT_apps _ rest _ (by simp), offT_app ord _ _ (Nat.le_refl _), h.len]
        rw [ho] at this
        rw [this, List.length_append]
        try rfl
    · rw [brg_old hk hh]
      obtain ⟨t, ht, e⟩ := (h.has _).1 hh
      obtain ⟨i, hi, rfl⟩ := List.getElem_of_mem ht
      refine ⟨[], by rw [List.append_nil]; exact h, ?_, by simp, fun rest g hF => ?_⟩
      · rw [List.append_nil]
        exact Or.inr ⟨hk, i, hi, e, by rw [← e, h.valo i hi]⟩
      · rw [List.append_nil] at hF ⊢
        dsimp only
        refine S2.brg (Or.inr ⟨i, x.s, hi, ?_⟩)
        rw [← e, h.valo i hi, offT_apps ord rest i (by omega)]
  · rw [brg_no hk]
    exact ⟨[], by rw [List.append_nil]; exact h, Or.inl ⟨hk, rfl⟩, by simp, fun rest g hF => by rw [List.append_nil] at hF ⊢; exact S2.brg (Or.inl hk)⟩
theorem sim_step {l : List Wd} {acc : List Th} {ms : List (Int × Int)} {lim : Int} {st : Br} {ord : List Th} {j p : Nat} (h : Inv l acc st ord j p) (hok : OkC lim l acc ms) (hD : Done l ms ord st.ws j p) (hj : j < ord.length) (hf : ord[j].f - ord[j].h ≤ p) (hpz : p < szT ord[j]) :
    ∃ r, Inv l acc (stepV l ms st ord[j].h (offT ord j) p) (ord ++ r) j (p + 1) ∧ Done l ms (ord ++ r) (stepV l ms st ord[j].h (offT ord j) p).ws j (p + 1) ∧
      ∀ rest g, FinG l ms g (ord ++ r ++ rest) → stepV g [] (S2 g (ord ++ r ++ rest) ord.length) (offT ord j) (offT ord j) p = S2 g (ord ++ r ++ rest) (ord ++ r).length := by
  obtain ⟨x, h1, _, h3⟩ := h.val hok hj hf hpz
  obtain ⟨r, hI, hR, hpre, hsim⟩ := sim_brg h hok x h3
  obtain ⟨e, _⟩ := h.step hok hj hf hpz h1 h3
  have eg : (ord ++ r)[j]'(by simp; omega) = ord[j] := List.getElem_append_left hj
  have h2 := hI.set (by simp; omega) (by rw [eg]; exact hf) (by rw [eg]; exact hpz) (brg l ms st x).2
  rw [offT_apps ord r j (by omega), ← e] at h2
  have hlen := h.len
  have hin := off_in hj hpz
  have hws : ∀ q, q < offT ord ord.length → ¬ q = offT ord j + p → (stepV l ms st ord[j].h (offT ord j) p).ws[q]? = st.ws[q]? := fun q hq hne => by
    rw [e]
    dsimp only
    rw [List.getElem?_set_ne (fun e => hne e.symm), hpre, List.getElem?_append_left (by omega)]
  refine ⟨r, h2, ?_, fun rest g hF => ?_⟩
  · intro i hi k q1 q2 hc
    by_cases he : i = j ∧ k = p
    · obtain ⟨rfl, rfl⟩ := he
      rw [eg] at q1 q2 ⊢
      refine ⟨x, (brg l ms st x).2, h1, ?_, hR⟩
      rw [offT_apps ord r i (by omega), e]
      dsimp only
      rw [List.getElem?_set_self]
      rw [hpre, List.length_append]
      omega
    · have hlt : i < ord.length := by rcases hc with h | ⟨h, _⟩ <;> omega
      have eg2 : (ord ++ r)[i] = ord[i] := List.getElem_append_left hlt
      rw [eg2] at q1 q2
      obtain ⟨x', y', q3, q4, q5⟩ := hD i hlt k q1 q2 (by rcases hc with h | ⟨h, h'⟩; exact Or.inl h; exact Or.inr ⟨h, by omega⟩)
      refine ⟨x', y', by rw [eg2]; exact q3, ?_, q5.app r⟩
      rw [offT_apps ord r i (by omega), hws _ (off_in hlt q2) (fun e => ?_)]
      · exact q4
      · rcases Nat.lt_trichotomy i j with hl | rfl | hl
        · have a1 := offT_succ ord i hlt
          have a2 := offT_le ord (i + 1) (j - (i + 1)) (by omega)
          rw [show i + 1 + (j - (i + 1)) = j by omega] at a2
          omega
        · exact he ⟨rfl, by omega⟩
        · rcases hc with h | ⟨h, _⟩ <;> omega
  · have hj3 : j < (ord ++ r ++ rest).length := by simp; omega
    have eg3 : (ord ++ r ++ rest)[j] = ord[j] := by rw [List.getElem_append_left (by simp; omega), eg]
    have eo3 : offT (ord ++ r ++ rest) j = offT ord j := by rw [offT_apps _ rest j (by simp; omega), offT_apps ord r j (by omega)]
    obtain ⟨x', y, q1, q2, q3⟩ := hF.vals j hj3 p (by rw [eg3]; exact hf) (by rw [eg3]; exact hpz)
    rw [eg3, h1] at q1
    injection q1 with q1
    subst q1
    have hy := ren_eq hF.nod q3 (hR.app rest)
    subst hy
    rw [eo3] at q2
    have hs := hsim rest g hF
    unfold stepV
    rw [q2]
    dsimp only
    rw [hs]
    dsimp only
    have : (S2 g (ord ++ r ++ rest) (ord ++ r).length).ws.set (offT ord j + p) (brg l ms st x).2 = (S2 g (ord ++ r ++ rest) (ord ++ r).length).ws := by
      unfold S2
      exact take_same q2
    rw [this]
theorem sim_vals {l : List Wd} {acc : List Th} {ms : List (Int × Int)} {lim : Int} (hok : OkC lim l acc ms) : ∀ (n k : Nat) (st : Br) (ord : List Th) (j : Nat) (hj : j < ord.length), szT ord[j] - k = n → k ≤ szT ord[j] → ord[j].f - ord[j].h ≤ k → Inv l acc st ord j k → Done l ms ord st.ws j k →
    ∃ r, Inv l acc (valsV l ms ord[j].h (offT ord j) st k n) (ord ++ r) j (k + n) ∧ Done l ms (ord ++ r) (valsV l ms ord[j].h (offT ord j) st k n).ws j (k + n) ∧
      ∀ rest g, FinG l ms g (ord ++ r ++ rest) → valsV g [] (offT ord j) (offT ord j) (S2 g (ord ++ r ++ rest) ord.length) k n = S2 g (ord ++ r ++ rest) (ord ++ r).length
  | 0, k, st, ord, j, hj, hn, hk, hf, hI, hD => ⟨[], by rw [List.append_nil]; exact ⟨hI, hD, fun rest g _ => rfl⟩⟩
  | n + 1, k, st, ord, j, hj, hn, hk, hf, hI, hD => by
    obtain ⟨r, h1, h2, h5⟩ := sim_step hI hok hD hj hf (by omega)
    have eg : (ord ++ r)[j]'(by simp; omega) = ord[j] := List.getElem_append_left hj
    have eo := offT_apps ord r j (by omega)
    obtain ⟨r2, h3, h4, h6⟩ := sim_vals hok n (k + 1) _ (ord ++ r) j (by simp; omega) (by rw [eg]; omega) (by rw [eg]; omega) (by rw [eg]; omega) h1 h2
    rw [eg, eo] at h3 h4
    refine ⟨r ++ r2, ?_⟩
    rw [valsV, ← List.append_assoc, show k + (n + 1) = k + 1 + n by omega]
    refine ⟨h3, h4, fun rest g hF => ?_⟩
    have q1 := h5 (r2 ++ rest) g (by rw [← List.append_assoc]; exact hF)
    rw [← List.append_assoc] at q1
    have q2 := h6 rest g hF
    rw [eo] at q2
    rw [valsV, q1, q2]
theorem sim_parts {l : List Wd} {acc : List Th} {ms : List (Int × Int)} {lim : Int} (hok : OkC lim l acc ms) : ∀ (n : Nat) (st : Br) (ord : List Th) (j : Nat), j ≤ ord.length → l.length < n + j → Inv l acc st ord j 0 → Done l ms ord st.ws j 0 →
    ∃ r, Inv l acc (partsV l ms n st j) (ord ++ r) (ord ++ r).length 0 ∧ Done l ms (ord ++ r) (partsV l ms n st j).ws (ord ++ r).length 0 ∧
      ∀ g, FinG l ms g (ord ++ r) → partsV g [] n (S2 g (ord ++ r) ord.length) j = S2 g (ord ++ r) (ord ++ r).length
  | 0, st, ord, j, hj, hn, hI, hD => by
    have := (hI.small hok.chain).2.2
    omega
  | n + 1, st, ord, j, hj, hn, hI, hD => by
    by_cases hlt : j < ord.length
    · rw [parts_step hI hok.chain hlt]
      have hta := (hok.chain.mem _ (hI.mem _ (List.getElem_mem hlt))).2
      have hle := tAt_le hta
      have hfs : ord[j].f - ord[j].h ≤ szT ord[j] := by unfold szT; omega
      have hD' : Done l ms ord st.ws j (ord[j].f - ord[j].h) := fun i hi k q1 q2 hc => hD i hi k q1 q2 (by
        rcases hc with h | ⟨rfl, h⟩
        · exact Or.inl h
        · omega)
      obtain ⟨r, h1, h2, h5⟩ := sim_vals hok _ (ord[j].f - ord[j].h) st ord j hlt rfl hfs (Nat.le_refl _) (hI.skip (Nat.zero_le _)) hD'
      rw [show ord[j].f - ord[j].h + (szT ord[j] - (ord[j].f - ord[j].h)) = szT ord[j] by omega] at h1 h2
      have eg : (ord ++ r)[j]'(by simp; omega) = ord[j] := List.getElem_append_left hlt
      have h2' : Done l ms (ord ++ r) (valsV l ms ord[j].h (offT ord j) st (ord[j].f - ord[j].h) (szT ord[j] - (ord[j].f - ord[j].h))).ws (j + 1) 0 := fun i hi k q1 q2 hc => h2 i hi k q1 q2 (by
        rcases hc with h | ⟨_, h⟩
        · by_cases e : i = j
          · subst e; rw [eg] at q2; exact Or.inr ⟨rfl, q2⟩
          · exact Or.inl (by omega)
        · omega)
      obtain ⟨r2, h3, h4, h6⟩ := sim_parts hok n _ (ord ++ r) (j + 1) (by simp; omega) (by omega) h1.next h2'
      refine ⟨r ++ r2, ?_⟩
      rw [← List.append_assoc]
      refine ⟨h3, h4, fun g hF => ?_⟩
      have q1 := h5 r2 g hF
      have q2 := h6 g hF
      have hj3 : j < (ord ++ r ++ r2).length := by simp; omega
      have eg3 : (ord ++ r ++ r2)[j] = ord[j] := by rw [List.getElem_append_left (by simp; omega), eg]
      have eo3 : offT (ord ++ r ++ r2) j = offT ord j := by rw [offT_apps _ r2 j (by simp; omega), offT_apps ord r j (by omega)]
      have hsh := hF.shape j hj3
      rw [eg3, eo3] at hsh
      rw [partsV, S2.at, if_pos hlt]
      dsimp only
      rw [eo3, Int.toNat_natCast]
      have f1 : frontI g (offT ord j) = ord[j].f - ord[j].h := by unfold frontI; rw [hsh]; dsimp only; omega
      have f2 : sizeI g (offT ord j) = szT ord[j] := by unfold sizeI szT; rw [hsh]; dsimp only; omega
      rw [f1, f2, q1, q2]
    · have e : j = ord.length := by omega
      subst e
      rw [parts_end hI hlt]
      refine ⟨[], ?_⟩
      rw [List.append_nil]
      refine ⟨hI, hD, fun g hF => ?_⟩
      rw [partsV, S2.at, if_neg (by omega)]
/-- The roots, brought again. -/
theorem sim_roots {l : List Wd} {acc : List Th} {ms : List (Int × Int)} {lim : Int} (hok : OkC lim l acc ms) : ∀ (R : List Wd) (st : Br) (ord : List Th), Inv l acc st ord 0 0 → (∀ x ∈ R, x.k = 5 → hasI (plOf acc) x.n = true) →
    ∃ r, Inv l acc (brgs l ms st R).1 (ord ++ r) 0 0 ∧ (brgs l ms st R).2.length = R.length ∧ (∀ i (h1 : i < R.length) (h2 : i < (brgs l ms st R).2.length), RenR (ord ++ r) ms R[i] (brgs l ms st R).2[i]) ∧
      ∀ rest g, FinG l ms g (ord ++ r ++ rest) → brgs g [] (S2 g (ord ++ r ++ rest) ord.length) (brgs l ms st R).2 = (S2 g (ord ++ r ++ rest) (ord ++ r).length, (brgs l ms st R).2)
  | [], st, ord, h, _ => ⟨[], by rw [List.append_nil]; exact h, rfl, fun i h1 => absurd h1 (by simp), fun rest g _ => by rw [List.append_nil]; rfl⟩
  | x :: R, st, ord, h, hx => by
    obtain ⟨r, h1, h2, _, h6⟩ := sim_brg h hok x (hx x (List.mem_cons_self ..))
    obtain ⟨r2, h3, h4, h5, h7⟩ := sim_roots hok R _ _ h1 (fun y hy => hx y (List.mem_cons_of_mem _ hy))
    refine ⟨r ++ r2, by rw [← List.append_assoc]; exact h3, by simp [brgs, h4], fun i q1 q2 => ?_, fun rest g hF => ?_⟩
    · rw [← List.append_assoc]
      cases i with
      | zero => exact h2.app r2
      | succ i => exact h5 i (by simpa using q1) (by simpa [brgs] using q2)
    · rw [← List.append_assoc] at hF ⊢
      have q1 := h6 (r2 ++ rest) g (by rw [← List.append_assoc]; exact hF)
      rw [← List.append_assoc] at q1
      have q2 := h7 rest g hF
      simp only [brgs]
      rw [q1]
      dsimp only
      rw [q2]
end Go.Proofs.Ytfjfobpdlmdddaa

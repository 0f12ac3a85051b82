/- A collection, plainly: what is brought lies in order, each thing once; P3.7. -/
import Derived.Test.YtfjfobpdlmdddaaHBringP
namespace Go.Proofs.Ytfjfobpdlmdddaa
set_option maxRecDepth 100000
open Go.RowKit Go.Maps
def szT (t : Th) : Nat := t.e - t.h
def offT (ord : List Th) (i : Nat) : Nat := ((ord.take i).map szT).sum
theorem offT_succ (ord : List Th) (i : Nat) (h : i < ord.length) : offT ord (i + 1) = offT ord i + szT ord[i] := by
  unfold offT
  rw [List.take_succ_eq_append_getElem h, List.map_append, List.sum_append]
  simp
theorem offT_le (ord : List Th) (i : Nat) : ∀ d, i + d ≤ ord.length → offT ord i ≤ offT ord (i + d)
  | 0, _ => Nat.le_refl _
  | d + 1, h => by
    have h1 := offT_le ord i d (by omega)
    have h2 := offT_succ ord (i + d) (by omega)
    rw [← Nat.add_assoc]; omega
theorem offT_app (ord : List Th) (t : Th) (i : Nat) (h : i ≤ ord.length) : offT (ord ++ [t]) i = offT ord i := by
  unfold offT
  rw [List.take_append_of_le_length h]
theorem sum_sub (f : Th → Nat) : ∀ (r acc : List Th), r.Pairwise (fun a b => ¬ a.h = b.h) → (∀ t ∈ r, t ∈ acc) → (r.map f).sum ≤ (acc.map f).sum
  | [], _, _, _ => by simp
  | t :: r, acc, hp, hm => by
    obtain ⟨s1, s2, rfl⟩ := List.append_of_mem (hm t (List.mem_cons_self ..))
    obtain ⟨h1, h2⟩ := List.pairwise_cons.1 hp
    have ih := sum_sub f r (s1 ++ s2) h2 (fun x hx => by
      have hx1 := hm x (List.mem_cons_of_mem _ hx)
      rcases List.mem_append.1 hx1 with h | h
      · exact List.mem_append.2 (Or.inl h)
      · rcases List.mem_cons.1 h with rfl | h
        · exact absurd rfl (h1 x hx)
        · exact List.mem_append.2 (Or.inr h))
    simp only [List.map_cons, List.sum_cons, List.map_append, List.sum_append] at ih ⊢
    omega
theorem chain_sum {l : List Wd} {acc : List Th} {a : Nat} (h : Chain l acc a) : (acc.map szT).sum = a := by
  induction h with
  | nil => rfl
  | snoc hc hl ht ih =>
    have := tAt_le ht
    rw [List.map_append, List.sum_append, ih]
    simp [szT]
    omega
theorem len_sum (l : List Wd) : ∀ (r : List Th), (∀ t ∈ r, tAt l t.h = some (t.f, t.e)) → r.length ≤ (r.map szT).sum
  | [], _ => by simp
  | t :: r, h => by
    have ih := len_sum l r (fun x hx => h x (List.mem_cons_of_mem _ hx))
    have := tAt_le (h t (List.mem_cons_self ..))
    simp [szT] at ih ⊢
    omega
/-- What was brought, in its order: the values of the first j things, and p words of the next one, are brought, too. -/
structure Inv (l : List Wd) (acc : List Th) (st : Br) (ord : List Th) (j p : Nat) : Prop where
  mem : ∀ t ∈ ord, t ∈ acc
  nod : ord.Pairwise (fun a b => ¬ a.h = b.h)
  nw : st.nw = (ord.zipIdx.map fun q => ((q.1.h : Int), (offT ord q.2 : Int))).reverse
  len : st.ws.length = offT ord ord.length
  kin : ∀ t ∈ ord, ¬ kindAt l t.h = 10
  old : ∀ i (hi : i < ord.length) k, k < szT ord[i] → (k < ord[i].f - ord[i].h ∨ j < i ∨ (i = j ∧ p ≤ k)) → st.ws[offT ord i + k]? = l[ord[i].h + k]?
theorem Inv.small {l : List Wd} {acc : List Th} {st : Br} {ord : List Th} {j p : Nat} (h : Inv l acc st ord j p) (hc : Chain l acc l.length) : st.ws.length ≤ l.length ∧ st.nw.length ≤ l.length ∧ ord.length ≤ l.length := by
  have h1 := sum_sub szT ord acc h.nod h.mem
  rw [chain_sum hc] at h1
  have h2 := len_sum l ord (fun t ht => (hc.mem t (h.mem t ht)).2)
  have h3 : offT ord ord.length = (ord.map szT).sum := by unfold offT; rw [List.take_length]
  have h4 : st.nw.length = ord.length := by rw [h.nw]; simp
  refine ⟨by rw [h.len, h3]; exact h1, by omega, by omega⟩
theorem Inv.empty (l : List Wd) (acc : List Th) : Inv l acc ⟨[], []⟩ [] 0 0 := ⟨fun t h => (by cases h), List.Pairwise.nil, rfl, rfl, fun t h => (by cases h), fun i hi => absurd hi (by simp)⟩
theorem hasI_rev {L : List (Int × Int)} {x : Int} : hasI L x = true ↔ ∃ p ∈ L, p.1 = x := by
  induction L with
  | nil => simp [hasI]
  | cons p r ih => simp [hasI, ih]
theorem Inv.has {l : List Wd} {acc : List Th} {st : Br} {ord : List Th} {j p : Nat} (h : Inv l acc st ord j p) (x : Int) : hasI st.nw x = true ↔ ∃ t ∈ ord, (t.h : Int) = x := by
  rw [hasI_rev, h.nw]
  constructor
  · rintro ⟨q, hq, rfl⟩
    rw [List.mem_reverse, List.mem_map] at hq
    obtain ⟨z, hz, rfl⟩ := hq
    obtain ⟨_, _, h2⟩ := List.mem_zipIdx hz
    exact ⟨z.1, by rw [h2]; exact List.getElem_mem _, rfl⟩
  · rintro ⟨t, ht, rfl⟩
    obtain ⟨i, hi, rfl⟩ := List.getElem_of_mem ht
    refine ⟨((ord[i].h : Int), (offT ord i : Int)), ?_, rfl⟩
    rw [List.mem_reverse, List.mem_map]
    exact ⟨(ord[i], i), by rw [List.mem_zipIdx_iff_getElem?]; simp [List.getElem?_eq_getElem hi], rfl⟩
theorem Inv.at {l : List Wd} {acc : List Th} {st : Br} {ord : List Th} {j p : Nat} (h : Inv l acc st ord j p) (i : Nat) (hi : i < ord.length) : st.nw.reverse[i]? = some ((ord[i].h : Int), (offT ord i : Int)) := by
  rw [h.nw, List.reverse_reverse, List.getElem?_map, List.getElem?_zipIdx, List.getElem?_eq_getElem hi]
  simp
/-- The things behind the last one. -/
theorem Inv.more {l : List Wd} {acc : List Th} {st : Br} {ord : List Th} {j p : Nat} (h : Inv l acc st ord j p) {t : Th} (ht : t ∈ acc) (hta : tAt l t.h = some (t.f, t.e)) (hno : hasI st.nw (t.h : Int) = false) (hk10 : ¬ kindAt l t.h = 10) :
    Inv l acc ⟨st.ws ++ sub l t.h t.e, ((t.h : Int), (st.ws.length : Int)) :: st.nw⟩ (ord ++ [t]) j p := by
  have hle := tAt_le hta
  have hsub : (sub l t.h t.e).length = szT t := sub_length hle.2.2
  refine ⟨?_, ?_, ?_, ?_, ?_, ?_⟩
  · intro x hx
    rcases List.mem_append.1 hx with h1 | h1
    · exact h.mem x h1
    · rw [List.mem_singleton] at h1; rw [h1]; exact ht
  · rw [List.pairwise_append]
    refine ⟨h.nod, List.pairwise_singleton _ _, fun a ha b hb e => ?_⟩
    rw [List.mem_singleton] at hb
    subst hb
    have := (h.has (b.h : Int)).2 ⟨a, ha, by rw [e]⟩
    rw [this] at hno
    cases hno
  · rw [List.zipIdx_append, List.map_append, List.reverse_append]
    simp only [List.zipIdx_cons, List.zipIdx_nil, List.map_cons, List.map_nil, List.reverse_cons, List.reverse_nil, List.nil_append, List.singleton_append, Nat.zero_add]
    rw [offT_app ord t ord.length (Nat.le_refl _), ← h.len, h.nw]
    congr 2
    refine List.map_congr_left fun q hq => ?_
    obtain ⟨_, h2, _⟩ := List.mem_zipIdx hq
    rw [offT_app ord t q.2 (by omega)]
  · have e := offT_succ (ord ++ [t]) ord.length (by simp)
    have el : (ord ++ [t]).length = ord.length + 1 := by simp
    dsimp only
    rw [el, e, offT_app ord t _ (Nat.le_refl _), List.length_append, h.len, hsub]
    simp
  · intro x hx
    rcases List.mem_append.1 hx with h1 | h1
    · exact h.kin x h1
    · rw [List.mem_singleton] at h1; rw [h1]; exact hk10
  · intro i hi k hk hcase
    dsimp only
    by_cases hlt : i < ord.length
    · have e : (ord ++ [t])[i] = ord[i] := List.getElem_append_left hlt
      rw [e] at hk hcase ⊢
      rw [offT_app ord t i (by omega)]
      have h1 := h.old i hlt k hk hcase
      have h2 := offT_succ ord i hlt
      have h3 := offT_le ord (i + 1) (ord.length - (i + 1)) (by omega)
      rw [show i + 1 + (ord.length - (i + 1)) = ord.length by omega] at h3
      rw [List.getElem?_append_left (by rw [h.len]; omega), h1]
    · have hi2 : i = ord.length := by simp at hi; omega
      subst hi2
      have e : (ord ++ [t])[ord.length] = t := by simp
      rw [e] at hk ⊢
      rw [offT_app ord t _ (Nat.le_refl _), ← h.len, List.getElem?_append_right (by omega)]
      rw [show st.ws.length + k - st.ws.length = k by omega]
      obtain ⟨hb, h5⟩ := sub_at (l := l) (f := t.h) (e := t.e) (i := k) hle.2.2 (by rw [hsub]; exact hk)
      rw [List.getElem?_eq_getElem (by rw [hsub]; exact hk), h5, List.getElem?_eq_getElem hb]
/-- A value is brought, and laid in its place. -/
theorem Inv.set {l : List Wd} {acc : List Th} {st : Br} {ord : List Th} {j p : Nat} (h : Inv l acc st ord j p) (hj : j < ord.length) (hf : ord[j].f - ord[j].h ≤ p) (hpz : p < szT ord[j]) (x : Wd) : Inv l acc ⟨st.ws.set (offT ord j + p) x, st.nw⟩ ord j (p + 1) := by
  refine ⟨h.mem, h.nod, h.nw, by dsimp only; rw [List.length_set]; exact h.len, h.kin, fun i hi k hk hcase => ?_⟩
  dsimp only
  have hne : ¬ offT ord j + p = offT ord i + k := by
    intro e
    rcases Nat.lt_trichotomy i j with hl | rfl | hl
    · have h2 := offT_succ ord i hi
      have h3 := offT_le ord (i + 1) (j - (i + 1)) (by omega)
      rw [show i + 1 + (j - (i + 1)) = j by omega] at h3
      omega
    · omega
    · have h2 := offT_succ ord j hj
      have h3 := offT_le ord (j + 1) (i - (j + 1)) (by omega)
      rw [show j + 1 + (i - (j + 1)) = i by omega] at h3
      omega
  rw [List.getElem?_set_ne hne]
  exact h.old i hi k hk (by omega)
theorem Inv.next {l : List Wd} {acc : List Th} {st : Br} {ord : List Th} {j p : Nat} (h : Inv l acc st ord j p) : Inv l acc st ord (j + 1) 0 :=
  ⟨h.mem, h.nod, h.nw, h.len, h.kin, fun i hi k hk hcase => h.old i hi k hk (by omega)⟩
theorem Inv.skip {l : List Wd} {acc : List Th} {st : Br} {ord : List Th} {j p q : Nat} (h : Inv l acc st ord j p) (hq : p ≤ q) : Inv l acc st ord j q :=
  ⟨h.mem, h.nod, h.nw, h.len, h.kin, fun i hi k hk hcase => h.old i hi k hk (by omega)⟩
theorem intAt_same {l w : List Wd} {a b : Nat} {c : Int} (h : w[b]? = l[a]?) : intAt w b c = intAt l a c := by unfold intAt; rw [h]
theorem nAt_same {l w : List Wd} {a b : Nat} (h : w[b]? = l[a]?) : nAt w b = nAt l a := by unfold nAt; rw [h]
theorem fitT_of {l : List Wd} {f n : Nat} {p : Nat × Nat} (h : fitT l f n = some p) : p = (f, f + n) := by
  unfold fitT at h
  split at h
  · injection h with h; exact h.symm
  · cases h
theorem fitT_mk {w : List Wd} {f n : Nat} (h : f + n ≤ w.length) : fitT w f n = some (f, f + n) := by unfold fitT; rw [if_pos h]
theorem tailT_shift {l w : List Wd} {a b f e c : Nat} {k : Int} (h : tailT l (a + c) k = some (f, e)) (hs : ∀ q, a + q < f → w[b + q]? = l[a + q]?) (hl : b + (e - a) ≤ w.length) : tailT w (b + c) k = some (b + (f - a), b + (e - a)) := by
  unfold tailT at h ⊢
  split at h
  · rename_i hc
    split at h
    · rename_i hi
      have e1 := fitT_of h
      injection e1 with e1 e2
      have s1 := hs c (by omega)
      rw [if_pos hc, intAt_same s1, if_pos hi, nAt_same s1, fitT_mk (by omega)]
      congr 2 <;> omega
    · cases h
  · rename_i hc
    have e1 := fitT_of h
    injection e1 with e1 e2
    rw [if_neg hc, fitT_mk (by omega)]
    congr 2 <;> omega
/-- A thing's shape hangs on its head alone. -/
theorem tAt_shift {l w : List Wd} {a b f e : Nat} (h : tAt l a = some (f, e)) (hs : ∀ q, a + q < f → w[b + q]? = l[a + q]?) (hl : b + (e - a) ≤ w.length) : tAt w b = some (b + (f - a), b + (e - a)) := by
  have hle := tAt_le h
  have h0 := hs 0 (by omega)
  simp only [Nat.add_zero] at h0
  unfold tAt at h ⊢
  rw [h0]
  split at h
  · cases h
  · split at h
    · cases h
    · rename_i hp
      rw [if_neg hp]
      split at h
      · rename_i hv
        rw [if_pos hv]
        split at h
        · rename_i hi
          have hf : a + 2 ≤ f := by
            have := h
            unfold tailT at this
            split at this
            · split at this
              · have := fitT_of this; injection this with e1 e2; omega
              · cases this
            · have := fitT_of this; injection this with e1 e2; omega
          have s1 := hs 1 (by omega)
          rw [intAt_same s1, if_pos hi]
          exact tailT_shift h hs hl
        · cases h
      · rename_i hv
        rw [if_neg hv]
        exact tailT_shift h hs hl
/-- The next thing that was brought, as it lies among what was brought. -/
theorem Inv.shape {l : List Wd} {acc : List Th} {st : Br} {ord : List Th} {j p : Nat} (h : Inv l acc st ord j p) (hc : Chain l acc l.length) (i : Nat) (hi : i < ord.length) : tAt st.ws (offT ord i) = some (offT ord i + (ord[i].f - ord[i].h), offT ord i + (ord[i].e - ord[i].h)) := by
  have hta := (hc.mem _ (h.mem _ (List.getElem_mem hi))).2
  have hle := tAt_le hta
  have h2 := offT_succ ord i hi
  have h3 := offT_le ord (i + 1) (ord.length - (i + 1)) (by omega)
  rw [show i + 1 + (ord.length - (i + 1)) = ord.length by omega] at h3
  have h4 := h.len
  unfold szT at h2
  refine tAt_shift hta (fun q hq => h.old i hi q (by unfold szT; omega) (by omega)) (by omega)
/-- One value of a thing, from its old place. -/
def stepV (l : List Wd) (ms : List (Int × Int)) (st : Br) (h o k : Nat) : Br :=
  match l[h + k]? with
  | some x => ⟨(brg l ms st x).1.ws.set (o + k) (brg l ms st x).2, (brg l ms st x).1.nw⟩
  | none => st
def valsV (l : List Wd) (ms : List (Int × Int)) (h o : Nat) : Br → Nat → Nat → Br
  | st, _, 0 => st
  | st, k, n + 1 => valsV l ms h o (stepV l ms st h o k) (k + 1) n
def frontI (l : List Wd) (h : Nat) : Nat := match tAt l h with
  | some p => p.1 - h
  | none => 0
def sizeI (l : List Wd) (h : Nat) : Nat := match tAt l h with
  | some p => p.2 - h
  | none => 0
/-- The values of all that was brought, from the j-th thing on. -/
def partsV (l : List Wd) (ms : List (Int × Int)) : Nat → Br → Nat → Br
  | 0, st, _ => st
  | n + 1, st, j => match st.nw.reverse[j]? with
    | none => st
    | some q => partsV l ms n (valsV l ms q.1.toNat q.2.toNat st (frontI l q.1.toNat) (sizeI l q.1.toNat - frontI l q.1.toNat)) (j + 1)
/-- A value is brought: what was there stays, one thing more, or none. -/
theorem Inv.brg {l : List Wd} {acc : List Th} {ms : List (Int × Int)} {lim : Int} {st : Br} {ord : List Th} {j p : Nat} (h : Inv l acc st ord j p) (hok : OkC lim l acc ms) (x : Wd) (hx : x.k = 5 → hasI (plOf acc) x.n = true) :
    ∃ r, Inv l acc (brg l ms st x).1 (ord ++ r) j p := by
  by_cases hk : x.k = 5
  · cases hh : hasI st.nw (fndI ms x.n)
    · have he := (hok.ways.end_ x.n (hx hk)).1
      have he2 := (hok.ways.end_ x.n (hx hk)).2
      obtain ⟨i, hi, e⟩ := (hok.chain.has _).1 he
      have hta := (hok.chain.mem acc[i] (List.getElem_mem hi)).2
      rw [brg_new hk hh e.symm hta]
      exact ⟨[acc[i]], h.more (List.getElem_mem hi) hta (by rw [e]; exact hh) (by rw [e]; exact he2)⟩
    · rw [brg_old hk hh]
      exact ⟨[], by rw [List.append_nil]; exact h⟩
  · rw [brg_no hk]
    exact ⟨[], by rw [List.append_nil]; exact h⟩
theorem brgs_snoc (l : List Wd) (ms : List (Int × Int)) (x : Wd) : ∀ (r : List Wd) (st : Br), brgs l ms st (r ++ [x]) = ((brg l ms (brgs l ms st r).1 x).1, (brgs l ms st r).2 ++ [(brg l ms (brgs l ms st r).1 x).2])
  | [], st => by simp [brgs]
  | y :: r, st => by
    have ih := brgs_snoc l ms x r (Go.Proofs.Ytfjfobpdlmdddaa.brg l ms st y).1
    simp only [List.cons_append, brgs, ih]
theorem brgs_len (l : List Wd) (ms : List (Int × Int)) : ∀ (r : List Wd) (st : Br), (brgs l ms st r).2.length = r.length
  | [], _ => rfl
  | y :: r, st => by simp [brgs, brgs_len l ms r]
theorem Inv.brgs {l : List Wd} {acc : List Th} {ms : List (Int × Int)} {lim : Int} (hok : OkC lim l acc ms) : ∀ (r : List Wd) (st : Br) (ord : List Th), Inv l acc st ord 0 0 → (∀ x ∈ r, x.k = 5 → hasI (plOf acc) x.n = true) → ∃ ord', Inv l acc (brgs l ms st r).1 ord' 0 0
  | [], _, ord, h, _ => ⟨ord, h⟩
  | y :: r, st, ord, h, hx => by
    obtain ⟨o, h1⟩ := h.brg hok y (hx y (List.mem_cons_self ..))
    exact Inv.brgs hok r _ _ h1 (fun x hm => hx x (List.mem_cons_of_mem _ hm))
theorem offT_apps (ord r : List Th) (i : Nat) (h : i ≤ ord.length) : offT (ord ++ r) i = offT ord i := by
  unfold offT
  rw [List.take_append_of_le_length h]
/-- The value that stands at a place of a thing that was brought, as it was. -/
theorem Inv.val {l : List Wd} {acc : List Th} {ms : List (Int × Int)} {lim : Int} {st : Br} {ord : List Th} {j p : Nat} (h : Inv l acc st ord j p) (hok : OkC lim l acc ms) (hj : j < ord.length) (hf : ord[j].f - ord[j].h ≤ p) (hpz : p < szT ord[j]) :
    ∃ x, l[ord[j].h + p]? = some x ∧ st.ws[offT ord j + p]? = some x ∧ (x.k = 5 → hasI (plOf acc) x.n = true) := by
  have hm := h.mem _ (List.getElem_mem hj)
  have hta := (hok.chain.mem _ hm).2
  have hle := tAt_le hta
  unfold szT at hpz
  have hlt : ord[j].h + p < l.length := by omega
  refine ⟨l[ord[j].h + p], List.getElem?_eq_getElem hlt, ?_, ?_⟩
  · rw [h.old j hj p (by unfold szT; omega) (by omega), List.getElem?_eq_getElem hlt]
  · intro hk
    have h1 := (List.all_eq_true.1 hok.vals) _ hm
    unfold thB at h1
    have h2 := h.kin _ (List.getElem_mem hj)
    simp only [Bool.or_eq_true, decide_eq_true_eq] at h1
    rcases h1 with h1 | h1
    · exact absurd h1 h2
    · unfold allB at h1
      have hl2 : p - (ord[j].f - ord[j].h) < (sub l ord[j].f ord[j].e).length := by rw [sub_length hle.2.2]; omega
      obtain ⟨hb, e⟩ := sub_at (l := l) hle.2.2 hl2
      have h3 := (List.all_eq_true.1 h1) _ (List.getElem_mem hl2)
      rw [e] at h3
      have e2 : ord[j].f + (p - (ord[j].f - ord[j].h)) = ord[j].h + p := by omega
      simp only [e2] at h3
      unfold valB at h3
      rw [hk] at h3
      simp at h3
      exact h3.1
theorem Inv.step {l : List Wd} {acc : List Th} {ms : List (Int × Int)} {lim : Int} {st : Br} {ord : List Th} {j p : Nat} (h : Inv l acc st ord j p) (hok : OkC lim l acc ms) (hj : j < ord.length) (hf : ord[j].f - ord[j].h ≤ p) (hpz : p < szT ord[j]) {x : Wd} (hx : l[ord[j].h + p]? = some x) (h5 : x.k = 5 → hasI (plOf acc) x.n = true) :
    stepV l ms st ord[j].h (offT ord j) p = ⟨(Go.Proofs.Ytfjfobpdlmdddaa.brg l ms st x).1.ws.set (offT ord j + p) (Go.Proofs.Ytfjfobpdlmdddaa.brg l ms st x).2, (Go.Proofs.Ytfjfobpdlmdddaa.brg l ms st x).1.nw⟩ ∧ ∃ r, Inv l acc (stepV l ms st ord[j].h (offT ord j) p) (ord ++ r) j (p + 1) := by
  have e : stepV l ms st ord[j].h (offT ord j) p = ⟨(Go.Proofs.Ytfjfobpdlmdddaa.brg l ms st x).1.ws.set (offT ord j + p) (Go.Proofs.Ytfjfobpdlmdddaa.brg l ms st x).2, (Go.Proofs.Ytfjfobpdlmdddaa.brg l ms st x).1.nw⟩ := by unfold stepV; rw [hx]
  refine ⟨e, ?_⟩
  obtain ⟨r, hr⟩ := h.brg hok x h5
  have eg : (ord ++ r)[j]'(by simp; omega) = ord[j] := List.getElem_append_left hj
  have h2 := hr.set (by simp; omega) (by rw [eg]; exact hf) (by rw [eg]; exact hpz) (Go.Proofs.Ytfjfobpdlmdddaa.brg l ms st x).2
  rw [offT_apps ord r j (by omega)] at h2
  exact ⟨r, by rw [e]; exact h2⟩
theorem parts_step {l : List Wd} {acc : List Th} {ms : List (Int × Int)} {st : Br} {ord : List Th} {j p n : Nat} (h : Inv l acc st ord j p) (hc : Chain l acc l.length) (hj : j < ord.length) :
    partsV l ms (n + 1) st j = partsV l ms n (valsV l ms ord[j].h (offT ord j) st (ord[j].f - ord[j].h) (szT ord[j] - (ord[j].f - ord[j].h))) (j + 1) := by
  have hta := (hc.mem _ (h.mem _ (List.getElem_mem hj))).2
  rw [partsV, h.at j hj]
  dsimp only
  rw [Int.toNat_natCast, Int.toNat_natCast]
  unfold frontI sizeI szT
  rw [hta]
theorem parts_end {l : List Wd} {acc : List Th} {ms : List (Int × Int)} {st : Br} {ord : List Th} {j p n : Nat} (h : Inv l acc st ord j p) (hj : ¬ j < ord.length) : partsV l ms (n + 1) st j = st := by
  have e : st.nw.reverse[j]? = none := by rw [List.getElem?_eq_none]; rw [h.nw]; simp; omega
  rw [partsV, e]
theorem vals_step (l : List Wd) (ms : List (Int × Int)) (h o : Nat) (st : Br) (k n : Nat) (hk : k < n) : valsV l ms h o st k (n - k) = valsV l ms h o (stepV l ms st h o k) (k + 1) (n - (k + 1)) := by
  obtain ⟨m, hm⟩ : ∃ m, n - k = m + 1 := ⟨n - k - 1, by omega⟩
  rw [hm, show n - (k + 1) = m by omega, valsV]
end Go.Proofs.Ytfjfobpdlmdddaa

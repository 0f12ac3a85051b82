/- What a collection leaves may be, and stays when it is collected again, plainly. -/
import Derived.Test.YtfjfobpdlmdddaaHKpQ
import Derived.Test.YtfjfobpdlmdddaaHRaws
import Derived.Test.YtfjfobpdlmdddaaHPart2
namespace Go.Proofs.Ytfjfobpdlmdddaa
set_option maxRecDepth 100000
open Go.RowKit Go.Maps
theorem valB_free {ps qs : List (Int × Int)} {k n : Int} {s : ByteArray} (hk : ¬ k = 5) (h : valB ps k n s = true) : valB qs k n s = true := by
  unfold valB at h ⊢
  rw [if_neg hk] at h
  rw [if_neg hk]
  exact h
theorem fin_of {lim : Int} {l : List Wd} {acc : List Th} {ms : List (Int × Int)} {st : Br} {ord : List Th} (hok : OkC lim l acc ms) (h : Inv l acc st ord ord.length 0) (hD : Done l ms ord st.ws ord.length 0) : FinG l ms st.ws ord := by
  have hpos : ∀ i (hi : i < ord.length), ord[i].h < ord[i].f ∧ ord[i].f ≤ ord[i].e ∧ ord[i].e ≤ l.length := fun i hi => tAt_le (hok.chain.mem _ (h.mem _ (List.getElem_mem hi))).2
  refine ⟨h.len, fun i hi => h.shape hok.chain i hi, fun i hi => ⟨(hpos i hi).1, (hpos i hi).2.1⟩, h.nod, fun i hi => ?_, fun i hi k hk => h.old i hi k (by have := hpos i hi; unfold szT; omega) (Or.inl hk), fun i hi => h.kin _ (List.getElem_mem hi), fun i hi k x h1 h2 h3 => ?_, fun i hi k h1 h2 => hD i hi k h1 h2 (Or.inl hi)⟩
  · have hp := hpos i hi
    have := h.old i hi 0 (by unfold szT; omega) (Or.inl (by omega))
    simpa using this
  · have hm := h.mem _ (List.getElem_mem hi)
    have hp := hpos i hi
    have v1 := (List.all_eq_true.1 hok.vals) _ hm
    unfold thB at v1
    simp only [Bool.or_eq_true, decide_eq_true_eq] at v1
    rcases v1 with v1 | v1
    · exact absurd v1 (h.kin _ (List.getElem_mem hi))
    · unfold allB at v1
      unfold szT at h2
      have hl2 : k - (ord[i].f - ord[i].h) < (sub l ord[i].f ord[i].e).length := by rw [sub_length hp.2.2]; omega
      obtain ⟨hb, e⟩ := sub_at (l := l) hp.2.2 hl2
      have v3 := (List.all_eq_true.1 v1) _ (List.getElem_mem hl2)
      rw [e] at v3
      have e2 : ord[i].f + (k - (ord[i].f - ord[i].h)) = ord[i].h + k := by omega
      simp only [e2] at v3
      obtain ⟨_, h4⟩ := List.getElem?_eq_some_iff.1 h3
      rw [h4] at v3
      exact ⟨fun h5 ps => valB_free h5 v3, fun h5 => bare_of (val_ref v3 h5).1⟩
/-- The things that were brought, where they lie. -/
def gth (ord : List Th) (i : Nat) : Th := match ord[i]? with
  | some t => ⟨offT ord i, offT ord i + (t.f - t.h), offT ord i + (t.e - t.h)⟩
  | none => ⟨0, 0, 0⟩
theorem gth_at {ord : List Th} {i : Nat} (hi : i < ord.length) : gth ord i = ⟨offT ord i, offT ord i + (ord[i].f - ord[i].h), offT ord i + (ord[i].e - ord[i].h)⟩ := by
  unfold gth
  rw [List.getElem?_eq_getElem hi]
def accG (ord : List Th) : Nat → List Th
  | 0 => []
  | n + 1 => accG ord n ++ [gth ord n]
theorem accG_mem {ord : List Th} {t : Th} : ∀ {n : Nat}, t ∈ accG ord n ↔ ∃ i, i < n ∧ t = gth ord i
  | 0 => by simp [accG]
  | n + 1 => by
    rw [accG, List.mem_append, accG_mem, List.mem_singleton]
    constructor
    · rintro (⟨i, hi, h⟩ | h)
      · exact ⟨i, by omega, h⟩
      · exact ⟨n, by omega, h⟩
    · rintro ⟨i, hi, h⟩
      by_cases e : i = n
      · subst e; exact Or.inr h
      · exact Or.inl ⟨i, by omega, h⟩
section
variable {lim : Int} {l g : List Wd} {ms : List (Int × Int)} {ord : List Th}
theorem FinG.chain (h : FinG l ms g ord) : ∀ n, n ≤ ord.length → Chain g (accG ord n) (offT ord n)
  | 0, _ => Chain.nil
  | n + 1, hn => by
    have hs := h.shape n (by omega)
    have hl := h.lt (show n < ord.length by omega) (Nat.le_refl _)
    rw [← h.len] at hl
    have hc := Chain.snoc (h.chain n (by omega)) hl hs
    rw [accG, gth_at (by omega), offT_succ ord n (by omega)]
    exact hc
theorem FinG.has (h : FinG l ms g ord) {i : Nat} (hi : i < ord.length) : hasI (plOf (accG ord ord.length)) (offT ord i : Int) = true := by
  have hc := h.chain _ (Nat.le_refl _)
  rw [← h.len] at hc
  have hm : gth ord i ∈ accG ord ord.length := accG_mem.2 ⟨i, hi, rfl⟩
  obtain ⟨q, hq, e⟩ := List.getElem_of_mem hm
  exact (hc.has _).2 ⟨q, hq, by rw [e, gth_at hi]⟩
theorem FinG.ren_val (h : FinG l ms g ord) {x y : Wd} (hR : RenR ord ms x y) (h1 : ¬ x.k = 5 → ∀ ps, valB ps x.k x.n x.s = true) (h2 : x.k = 5 → x.s = ⟨#[]⟩) : valB (plOf (accG ord ord.length)) y.k y.n y.s = true := by
  rcases hR with ⟨q1, rfl⟩ | ⟨q1, i, hi, _, rfl⟩
  · exact h1 q1 _
  · rw [h2 q1]
    dsimp only
    unfold valB
    rw [if_neg (by decide), if_neg (by decide), if_neg (by decide), if_neg (by decide), if_pos rfl, h.has hi]
    rfl
theorem FinG.kind (h : FinG l ms g ord) {i : Nat} (hi : i < ord.length) : kindAt g (offT ord i : Int) = kindAt l (ord[i].h : Int) := by
  unfold kindAt
  rw [Int.toNat_natCast, Int.toNat_natCast, h.head i hi]
/-- What was collected may be a heap. -/
theorem FinG.ok (h : FinG l ms g ord) (h0 : 50 ≤ lim) (h1 : lim ≤ 60000) (h2 : (g.length : Int) ≤ lim) : OkC lim g (accG ord ord.length) [] := by
  have hc := h.chain _ (Nat.le_refl _)
  rw [← h.len] at hc
  have hno : ∀ t, t ∈ accG ord ord.length → ¬ kindAt g t.h = 10 := fun t ht => by
    obtain ⟨i, hi, rfl⟩ := accG_mem.1 ht
    rw [gth_at hi]
    show ¬ kindAt g (offT ord i : Int) = 10
    rw [h.kind hi]
    exact h.kin i hi
  have hv : (accG ord ord.length).all (thB g (plOf (accG ord ord.length))) = true := by
    refine List.all_eq_true.2 fun t ht => ?_
    obtain ⟨i, hi, rfl⟩ := accG_mem.1 ht
    have hp := h.pos i hi
    have hsu := offT_succ ord i hi
    have hle := offT_le ord (i + 1) (ord.length - (i + 1)) (by omega)
    rw [show i + 1 + (ord.length - (i + 1)) = ord.length by omega, ← h.len, hsu] at hle
    unfold szT at hle
    unfold thB
    rw [Bool.or_eq_true, gth_at hi]
    refine Or.inr ?_
    dsimp only
    unfold allB
    refine List.all_eq_true.2 fun y hy => ?_
    obtain ⟨q, hq, rfl⟩ := List.getElem_of_mem hy
    have hql := hq
    rw [sub_length (by omega)] at hql
    obtain ⟨hb, e⟩ := sub_at (l := g) (by omega) hq
    obtain ⟨x, y, e1, e2, hR⟩ := h.vals i hi (ord[i].f - ord[i].h + q) (by omega) (by unfold szT; omega)
    have hm := h.may i hi _ x (by omega) (by unfold szT; omega) e1
    rw [show offT ord i + (ord[i].f - ord[i].h + q) = offT ord i + (ord[i].f - ord[i].h) + q by omega, List.getElem?_eq_getElem hb] at e2
    injection e2 with e2
    rw [e, e2]
    exact h.ren_val hR hm.1 hm.2
  rcases mv_spec hc (accG ord ord.length) [] rfl with ⟨ms', e1, _, _⟩ | ⟨_, t', ht', hk', _⟩
  · have hok : OkC lim g (accG ord ord.length) ms' := ⟨h0, h1, h2, hc, e1, hv⟩
    have := no_moved hok hno
    subst this
    exact hok
  · exact absurd hk' (hno t' ht')
end
theorem thing_val {lim : Int} {l : List Wd} {acc : List Th} {ms : List (Int × Int)} {t : Th} {k : Nat} {x : Wd} (hok : OkC lim l acc ms) (ht : t ∈ acc) (hk : ¬ kindAt l t.h = 10) (h1 : t.f - t.h ≤ k) (h2 : k < szT t) (h3 : l[t.h + k]? = some x) : valB (plOf acc) x.k x.n x.s = true := by
  have hp := tAt_le (hok.chain.mem t ht).2
  have v1 := (List.all_eq_true.1 hok.vals) _ ht
  unfold thB at v1
  simp only [Bool.or_eq_true, decide_eq_true_eq] at v1
  rcases v1 with v1 | v1
  · exact absurd v1 hk
  · unfold allB at v1
    unfold szT at h2
    have hl2 : k - (t.f - t.h) < (sub l t.f t.e).length := by rw [sub_length hp.2.2]; omega
    obtain ⟨hb, e⟩ := sub_at (l := l) hp.2.2 hl2
    have v3 := (List.all_eq_true.1 v1) _ (List.getElem_mem hl2)
    rw [e] at v3
    have e2 : t.f + (k - (t.f - t.h)) = t.h + k := by omega
    simp only [e2] at v3
    obtain ⟨_, h4⟩ := List.getElem?_eq_some_iff.1 h3
    rw [h4] at v3
    exact v3
/-- What a collection leaves, and what comes of it when it is collected again. -/
theorem kept_all {lim : Int} {l R : List Wd} {acc : List Th} {ms : List (Int × Int)} (hok : OkC lim l acc ms) (hall : allB (plOf acc) R = true) {g R' : List Wd} {lim' r : Int} (hc : CoI lim l R g lim' R' r) :
    r = 0 ∧ lim' = lim ∧ R'.length = R.length ∧ g.length ≤ l.length ∧ ∃ ord, FinG l ms g ord ∧ (∀ t ∈ ord, t ∈ acc) ∧ OkC lim g (accG ord ord.length) [] ∧ (∀ i (h1 : i < R.length) (h2 : i < R'.length), RenR ord ms R[i] R'[i]) ∧
      ∀ g2 R2 lim2 r2, CoI lim g R' g2 lim2 R2 r2 → r2 = 0 ∧ g2 = g ∧ R2 = R' ∧ lim2 = lim := by
  rcases hc with ⟨_, h1, _⟩ | ⟨_, ⟨acc', ms', h1, h2⟩, _⟩ | ⟨h0, acc', ms', h1, _, h3, h4, h5⟩
  · exact absurd h1 hok.not_bad
  · obtain ⟨rfl, rfl⟩ := okC_same hok h1
    rw [hall] at h2; cases h2
  · obtain ⟨rfl, rfl⟩ := okC_same hok h1
    obtain ⟨r1, hI1, hlen1, hren1, hsim1⟩ := sim_roots hok R ⟨[], []⟩ [] (Inv.empty l acc') (all_refs hall)
    rw [List.nil_append] at hI1 hren1
    have hD1 : Done l ms' r1 (brgs l ms' ⟨[], []⟩ R).1.ws 0 0 := fun i hi k _ _ h => by rcases h with h | ⟨_, h⟩ <;> omega
    have hll : l.length < 60001 + 0 := by have := hok.room; have := hok.hi; omega
    obtain ⟨r2, hI2, hD2, hsim2⟩ := sim_parts hok 60001 _ r1 0 (Nat.zero_le _) hll hI1 hD1
    have hF := fin_of hok hI2 hD2
    rw [← h3] at hF
    have hsm := (hI2.small hok.chain).1
    rw [← h3] at hsm
    have hokg := hF.ok hok.lo hok.hi (by have := hok.room; omega)
    have hR' : R'.length = R.length := by rw [h5]; exact hlen1
    have hren : ∀ i (q1 : i < R.length) (q2 : i < R'.length), RenR (r1 ++ r2) ms' R[i] R'[i] := fun i q1 q2 => by
      subst h5
      exact (hren1 i q1 q2).app r2
    refine ⟨h0, h4, hR', hsm, r1 ++ r2, hF, hI2.mem, hokg, hren, fun g2 R2 lim2 q2 hc2 => ?_⟩
    have hallR : allB (plOf (accG (r1 ++ r2) (r1 ++ r2).length)) R' = true := by
      unfold allB
      refine List.all_eq_true.2 fun y hy => ?_
      obtain ⟨i, hi, rfl⟩ := List.getElem_of_mem hy
      have hi1 : i < R.length := by omega
      have hv := List.all_eq_true.1 hall R[i] (List.getElem_mem hi1)
      exact hF.ren_val (hren i hi1 hi) (fun h5 ps => valB_free h5 hv) (fun h5 => bare_of (val_ref hv h5).1)
    rcases hc2 with ⟨_, k1, _⟩ | ⟨_, ⟨acc2, ms2, k1, k2⟩, _⟩ | ⟨k0, acc2, ms2, k1, _, k3, k4, k5⟩
    · exact absurd k1 hokg.not_bad
    · obtain ⟨rfl, rfl⟩ := okC_same hokg k1
      rw [hallR] at k2; cases k2
    · obtain ⟨rfl, rfl⟩ := okC_same hokg k1
      have s1 := hsim1 r2 g (by rw [List.nil_append]; exact hF)
      rw [List.nil_append, ← h5] at s1
      have s2 := hsim2 g hF
      have e0 : S2 g (r1 ++ r2) ([] : List Th).length = ⟨[], []⟩ := by unfold S2; simp [offT]
      rw [e0] at s1
      rw [s1] at k3 k5
      dsimp only at k3 k5
      rw [s2] at k3
      refine ⟨k0, ?_, k5, k4⟩
      rw [k3]
      unfold S2
      dsimp only
      rw [← hF.len, List.take_length]
theorem ren_wf {ord : List Th} {ms : List (Int × Int)} {x y : Wd} (h : RenR ord ms x y) (hx : wfI x.n ∧ x.s.size ≤ 9223372036854775807) (ho : offT ord ord.length ≤ 60000) : wfI y.n ∧ y.s.size ≤ 9223372036854775807 := by
  rcases h with ⟨_, rfl⟩ | ⟨_, i, hi, _, rfl⟩
  · exact hx
  · have := offT_le ord i (ord.length - i) (by omega)
    rw [show i + (ord.length - i) = ord.length by omega] at this
    exact ⟨wfI_nat (by omega), hx.2⟩
theorem off_cover (ord : List Th) : ∀ n, n ≤ ord.length → ∀ p, p < offT ord n → ∃ i, ∃ hi : i < ord.length, ∃ k, k < szT ord[i] ∧ p = offT ord i + k
  | 0, _, p, hp => by simp [offT] at hp
  | n + 1, hn, p, hp => by
    rw [offT_succ ord n (by omega)] at hp
    by_cases h : p < offT ord n
    · exact off_cover ord n (by omega) p h
    · exact ⟨n, by omega, p - offT ord n, by omega, by omega⟩
theorem FinG.wf {l g : List Wd} {ms : List (Int × Int)} {ord : List Th} (h : FinG l ms g ord) (hw : wfL l) (hg : g.length ≤ 60000) : wfL g := by
  intro p hp
  obtain ⟨i, hi, k, hk, rfl⟩ := off_cover ord ord.length (Nat.le_refl _) p (by rw [← h.len]; exact hp)
  by_cases hf : k < ord[i].f - ord[i].h
  · have := h.front i hi k hf
    rw [List.getElem?_eq_getElem hp] at this
    obtain ⟨hl, e⟩ := List.getElem?_eq_some_iff.1 this.symm
    rw [← e]
    exact hw _ hl
  · obtain ⟨x, y, e1, e2, hR⟩ := h.vals i hi k (by omega) hk
    rw [List.getElem?_eq_getElem hp] at e2
    injection e2 with e2
    rw [e2]
    obtain ⟨hl, e⟩ := List.getElem?_eq_some_iff.1 e1
    exact ren_wf hR (by rw [← e]; exact hw _ hl) (by rw [← h.len]; exact hg)
/-- A value and its twin. -/
structure Twin (lim : Int) (l g : List Wd) (acc ord : List Th) : Prop where
  okl : OkC lim l acc []
  okg : OkC lim g (accG ord ord.length) []
  fin : FinG l [] g ord
  mem : ∀ t ∈ ord, t ∈ acc
theorem find_good {lim : Int} {l : List Wd} {acc : List Th} {k n k' n' r : Int} {s s' : ByteArray} (hok : OkC lim l acc []) (hv : valB (plOf acc) k n s = true) (hf : FdI lim l k n s k' n' s' r) : k' = k ∧ n' = n ∧ s' = s ∧ r = 0 := by
  rcases hf with ⟨acc', ms', h1, _, e1, e2, e3, e4⟩ | ⟨_, ⟨_, acc', ms', h1, h2⟩ | ⟨_, h1⟩⟩
  · obtain ⟨rfl, rfl⟩ := okC_same hok h1
    refine ⟨e1, ?_, e3, e4⟩
    rw [e2]
    unfold atI
    split
    · exact fnd0 n
    · rfl
  · obtain ⟨rfl, rfl⟩ := okC_same hok h1
    rw [hv] at h2; cases h2
  · exact absurd h1 hok.not_bad
/-- A value of a thing. -/
theorem part_good {lim : Int} {l : List Wd} {acc : List Th} {t : Th} {q : Nat} {k' n' r : Int} {s s' : ByteArray} (hok : OkC lim l acc []) (ht : t ∈ acc) (hs : s = ⟨#[]⟩) (hp : PtI lim l 5 (t.h : Int) s (q : Int) k' n' s' r) :
    (q < t.e - t.f ∧ r = 0 ∧ ∃ x : Wd, l[t.f + q]? = some x ∧ k' = x.k ∧ n' = x.n ∧ s' = x.s) ∨ (¬ q < t.e - t.f ∧ r = 2 ∧ k' = 0 ∧ n' = 0 ∧ s' = ⟨#[]⟩) := by
  subst hs
  have htr := (hok.chain.ref.mem t ht).2
  have hle := tRef_le htr
  have hv : valB (plOf acc) 5 (t.h : Int) ⟨#[]⟩ = true := by
    unfold valB
    obtain ⟨i, hi, e⟩ := List.getElem_of_mem ht
    rw [if_neg (by decide), if_neg (by decide), if_neg (by decide), if_neg (by decide), if_pos rfl, (hok.chain.has _).2 ⟨i, hi, by rw [e]⟩]
    rfl
  rcases hp with ⟨acc', ms', h1, _, x, hpr, hx⟩ | ⟨_, ⟨_, acc', ms', h1, h2⟩ | ⟨_, h1⟩⟩
  · obtain ⟨rfl, rfl⟩ := okC_same hok h1
    rcases hpr with ⟨h, _⟩ | ⟨_, m, f, e, hm, _, h2, hr⟩
    · exact absurd rfl h
    · rw [fnd0] at hm
      obtain rfl : m = t.h := by omega
      rw [htr] at h2
      injection h2 with h2
      injection h2 with hf he
      subst hf he
      rcases hr with ⟨h3, h4, h5, h6⟩ | ⟨h3, _, h6⟩
      · rcases hx with ⟨h, _⟩ | ⟨_, z, hz, hxz, e1, e2, e3⟩
        · exact absurd h6 h
        · obtain rfl : z = t.f + q := by omega
          exact Or.inl ⟨by omega, h6, l[t.f + q], List.getElem?_eq_getElem hz, e1, e2, e3⟩
      · rcases hx with ⟨_, e1, e2, e3⟩ | ⟨h, _⟩
        · exact Or.inr ⟨by omega, h6, e1, e2, e3⟩
        · rw [h6] at h; cases h
  · obtain ⟨rfl, rfl⟩ := okC_same hok h1
    rw [hv] at h2; cases h2
  · exact absurd h1 hok.not_bad
/-- The values of a thing and of its twin are twins. -/
theorem Twin.parts {lim : Int} {l g : List Wd} {acc ord : List Th} (h : Twin lim l g acc ord) {i q : Nat} (hi : i < ord.length) {k1 n1 r1 k2 n2 r2 : Int} {s1 s2 : ByteArray} (hp1 : PtI lim l 5 (ord[i].h : Int) ⟨#[]⟩ (q : Int) k1 n1 s1 r1) (hp2 : PtI lim g 5 (offT ord i : Int) ⟨#[]⟩ (q : Int) k2 n2 s2 r2) :
    (q < ord[i].e - ord[i].f ∧ r1 = 0 ∧ r2 = 0 ∧ valB (plOf acc) k1 n1 s1 = true ∧ RenR ord [] ⟨k1, n1, s1⟩ ⟨k2, n2, s2⟩) ∨ (¬ q < ord[i].e - ord[i].f ∧ r1 = 2 ∧ r2 = 2) := by
  have hm := h.mem _ (List.getElem_mem hi)
  have hg : gth ord i ∈ accG ord ord.length := accG_mem.2 ⟨i, hi, rfl⟩
  have hpos := h.fin.pos i hi
  have a1 := part_good h.okl hm rfl hp1
  have hp2' : PtI lim g 5 ((gth ord i).h : Int) ⟨#[]⟩ (q : Int) k2 n2 s2 r2 := by rw [gth_at hi]; exact hp2
  have a2 := part_good h.okg hg rfl hp2'
  rw [gth_at hi] at a2
  dsimp only at a2
  rcases a1 with ⟨c1, c2, x, c3, rfl, rfl, rfl⟩ | ⟨c1, c2, _⟩
  · rcases a2 with ⟨d1, d2, y, d3, rfl, rfl, rfl⟩ | ⟨d1, _⟩
    · refine Or.inl ⟨c1, c2, d2, ?_, ?_⟩
      · exact thing_val (k := ord[i].f - ord[i].h + q) h.okl hm (h.fin.kin i hi) (by omega) (by unfold szT; omega) (by rw [show ord[i].h + (ord[i].f - ord[i].h + q) = ord[i].f + q by omega]; exact c3)
      · obtain ⟨x', y', e1, e2, hR⟩ := h.fin.vals i hi (ord[i].f - ord[i].h + q) (by omega) (by unfold szT; omega)
        rw [show ord[i].h + (ord[i].f - ord[i].h + q) = ord[i].f + q by omega, c3] at e1
        rw [show offT ord i + (ord[i].f - ord[i].h + q) = offT ord i + (ord[i].f - ord[i].h) + q by omega, d3] at e2
        injection e1 with e1
        injection e2 with e2
        subst e1 e2
        exact hR
    · omega
  · rcases a2 with ⟨d1, _⟩ | ⟨d1, d2, _⟩
    · omega
    · exact Or.inr ⟨c1, c2, d2⟩
end Go.Proofs.Ytfjfobpdlmdddaa

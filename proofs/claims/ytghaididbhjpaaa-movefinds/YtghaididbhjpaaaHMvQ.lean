/- What the calls tell of a record that is moved again and again, plainly. -/
import Derived.Test.YtghaididbhjpaaaHMvP
import Derived.Test.YtghaididbhjpaaaHRaws
namespace Go.Proofs.Ytghaididbhjpaaa
set_option maxRecDepth 100000
open Go.RowKit Go.Maps
theorem thg_has {l : List Wd} {acc : List Th} {ms : List (Int × Int)} {L m j : Nat} (hok : OkC 600 l (mvA acc L m) ms) (hj : j < m) : hasI (plOf (mvA acc L m)) ((L + 4 * j : Nat) : Int) = true := by
  obtain ⟨q, hq, e⟩ := List.getElem_of_mem (mvA_mem.2 (Or.inr ⟨j, hj, rfl⟩) : thg L j ∈ mvA acc L m)
  exact (hok.chain.has _).2 ⟨q, hq, by rw [e]; rfl⟩
theorem put_rec {l l' : List Wd} {acc : List Th} {ms : List (Int × Int)} {k : Int} {v : Wd} {lim' p r : Int} (hok : OkC 600 l acc ms) (hr : l.length + 4 ≤ 600) (h0 : 0 ≤ k) (h1 : k < 20) (hv : valB (plOf acc) v.k v.n v.s = true) (hp : PuI 600 l (recw k v) l' lim' p r) : l' = l ++ recw k v ∧ lim' = 600 ∧ p = (l.length : Int) ∧ r = 0 := by
  have hxl : (recw k v).length = 4 := rfl
  rcases hp with ⟨h, _⟩ | ⟨acc', ms', hok', ⟨h, _⟩ | ⟨_, hl, _⟩ | ⟨_, _, ⟨hg, _⟩ | ⟨_, h2, h3, h4, h5⟩⟩⟩
  · exact absurd h hok.not_bad
  · cases h
  · rw [hxl] at hl; omega
  · obtain ⟨rfl, _⟩ := okC_same hok hok'
    rw [rec_grows h0 h1 hv] at hg; cases hg
  · exact ⟨h2, h3, h4, h5⟩
theorem rec_tRef {lim : Int} {l : List Wd} {acc : List Th} {ms : List (Int × Int)} (hok : OkC lim l acc ms) {t : Th} (ht : t ∈ acc) : tRef l t.h = some (t.f, t.e) := (hok.chain.ref.mem t ht).2
theorem kindI {l : List Wd} {n : Nat} {w : Wd} (h : l[n]? = some w) {x : Int} (hx : x = (n : Int)) : kindAt l x = w.k := by subst hx; exact kind_of h
/-- The move. -/
theorem MvS.move {l l' : List Wd} {acc : List Th} {L i : Nat} {v : Wd} {lim' r : Int} (h : MvS l acc L i) (hi : i < 10) (hL : L ≤ 400) (hv : valB (plOf acc) v.k v.n v.s = true) (hm : MvdI 600 (l ++ recw ((i + 1 : Nat) : Int) v) ((L + 4 * i : Nat) : Int) ((L + 4 * i + 4 : Nat) : Int) l' lim' r) : MvS l' acc L (i + 1) ∧ lim' = 600 ∧ r = 0 ∧ l' = leaveL (l ++ recw ((i + 1 : Nat) : Int) v) (L + 4 * i) (L + 4 * i + 3) (L + 4 * i + 4) ((L + 4 * (i + 1) : Nat) : Int) := by
  have hN := h.next hi hL hv
  obtain ⟨ms, hok⟩ := h.put hi hL hv
  obtain ⟨ms2, hok2⟩ := hN.ok
  have hlen := h.len
  have g0 : (l ++ recw ((i + 1 : Nat) : Int) v)[L + 4 * i]? = some ⟨9, 0, ⟨#[]⟩⟩ := by rw [List.getElem?_append_left (by omega)]; exact h.last
  have g1 : (l ++ recw ((i + 1 : Nat) : Int) v)[L + 4 * i + 4]? = some ⟨9, 0, ⟨#[]⟩⟩ := by rw [List.getElem?_append_right (by omega), show L + 4 * i + 4 - l.length = 0 by omega]; rfl
  have r0 : recB (l ++ recw ((i + 1 : Nat) : Int) v) (plOf (mvA acc L (i + 2))) ((L + 4 * i : Nat) : Int) = true := by
    unfold recB
    rw [thg_has hok (by omega), kind_of g0]
    rfl
  have r1 : recB (l ++ recw ((i + 1 : Nat) : Int) v) (plOf (mvA acc L (i + 2))) ((L + 4 * i + 4 : Nat) : Int) = true := by
    unfold recB
    rw [kind_of g1, show L + 4 * i + 4 = L + 4 * (i + 1) by omega, thg_has hok (by omega)]
    rfl
  have hne : ¬ ((L + 4 * i : Nat) : Int) = ((L + 4 * i + 4 : Nat) : Int) := by omega
  rcases hm with ⟨acc', ms', hok', ⟨hno, _⟩ | ⟨_, hh, f, e, e1, e2, e3, e4, hc⟩⟩ | ⟨h1, _⟩
  · obtain ⟨rfl, _⟩ := okC_same hok hok'
    exact absurd ⟨r0, r1, hne⟩ hno
  · obtain ⟨rfl, _⟩ := okC_same hok hok'
    obtain rfl : hh = L + 4 * i := by omega
    have ht := rec_tRef hok (mvA_mem.2 (Or.inr ⟨i, by omega, rfl⟩) : thg L i ∈ mvA acc L (i + 2))
    have ht2 : tRef (l ++ recw ((i + 1 : Nat) : Int) v) (L + 4 * i) = some (L + 4 * i + 3, L + 4 * i + 4) := ht
    rw [e4] at ht2
    injection ht2 with ht2
    injection ht2 with f1 f2
    subst f1 f2
    rw [show ((L + 4 * i + 4 : Nat) : Int) = ((L + 4 * (i + 1) : Nat) : Int) by omega] at hc
    rcases hc with ⟨hb, _⟩ | ⟨_, h2, h3, h4⟩
    · exact absurd hb hok2.not_bad
    · exact ⟨by rw [h2]; exact hN, h3, h4, h2⟩
  · exact absurd h1 hok.not_bad
theorem MvS.fnd {l : List Wd} {acc : List Th} {L k : Nat} {ms : List (Int × Int)} (h : MvS l acc L k) (hok : OkC 600 l (mvA acc L (k + 1)) ms) : ∀ d j, j + d = k → fndI ms ((L + 4 * j : Nat) : Int) = ((L + 4 * k : Nat) : Int)
  | 0, j, hj => by
    obtain rfl : j = k := by omega
    exact hok.ways.stay _ (thg_has hok (by omega)) (by rw [kind_of h.last]; decide)
  | d + 1, j, hj => by
    have ht := h.tomb j (by omega)
    have hg := (hok.ways.go _ (thg_has hok (show j < k + 1 by omega)) (by rw [kind_of ht])).2.1
    rw [hg, Int.toNat_natCast]
    have hn : nInt l (L + 4 * j) = ((L + 4 * (j + 1) : Nat) : Int) := by unfold nInt; rw [ht]
    rw [hn]
    exact MvS.fnd h hok d (j + 1) (by omega)
theorem thg_val {l : List Wd} {acc : List Th} {ms : List (Int × Int)} {L m j : Nat} (hok : OkC 600 l (mvA acc L m) ms) (hj : j < m) : valB (plOf (mvA acc L m)) 5 ((L + 4 * j : Nat) : Int) ⟨#[]⟩ = true := by
  unfold valB
  rw [if_neg (by decide), if_neg (by decide), if_neg (by decide), if_neg (by decide), if_pos rfl, thg_has hok hj]
  rfl
theorem MvS.find {l : List Wd} {acc : List Th} {L k : Nat} (h : MvS l acc L k) {k' n' : Int} {s' : ByteArray} {r : Int} (hf : FdI 600 l 5 (L : Int) ⟨#[]⟩ k' n' s' r) : k' = 5 ∧ n' = ((L + 4 * k : Nat) : Int) ∧ s' = ⟨#[]⟩ ∧ r = 0 := by
  obtain ⟨ms, hok⟩ := h.ok
  have hfn := h.fnd hok k 0 (by omega)
  have hv := thg_val hok (show 0 < k + 1 by omega)
  rw [show L + 4 * 0 = L by omega] at hfn hv
  rcases hf with ⟨acc', ms', h1, _, e1, e2, e3, e4⟩ | ⟨_, ⟨_, acc', ms', h1, h2⟩ | ⟨_, h1⟩⟩
  · obtain ⟨rfl, rfl⟩ := okC_same hok h1
    refine ⟨e1, ?_, e3, e4⟩
    rw [e2]
    unfold atI
    rw [if_pos rfl, hfn]
  · obtain ⟨rfl, rfl⟩ := okC_same hok h1
    rw [hv] at h2; cases h2
  · exact absurd h1 hok.not_bad
theorem MvS.again {l l' : List Wd} {acc : List Th} {L k : Nat} {lim' r y : Int} (h : MvS l acc L k) (hk : 0 < k) (hm : MvdI 600 l (L : Int) y l' lim' r) : r = 3 := by
  obtain ⟨ms, hok⟩ := h.ok
  have ht := h.tomb 0 hk
  rw [show L + 4 * 0 = L by omega] at ht
  have hkd : kindAt l (L : Int) = 10 := kind_of ht
  rcases hm with ⟨acc', ms', hok', ⟨_, _, _, h3⟩ | ⟨⟨h1, _⟩, _⟩⟩ | ⟨h1, _⟩
  · exact h3
  · unfold recB at h1
    rw [hkd] at h1
    simp at h1
  · exact absurd h1 hok.not_bad
theorem MvS.coll {l l' R' : List Wd} {acc : List Th} {L k : Nat} {lim' r : Int} (h : MvS l acc L k) (hwf : wfL l) (hc : CoI 600 l [⟨5, (L : Int), ⟨#[]⟩⟩, ⟨5, ((L + 4 * k : Nat) : Int), ⟨#[]⟩⟩] l' lim' R' r) : r = 0 ∧ R' = [⟨5, 0, ⟨#[]⟩⟩, ⟨5, 0, ⟨#[]⟩⟩] ∧ l'[1]? = some ⟨1, (k : Int), ⟨#[]⟩⟩ := by
  obtain ⟨ms, hok⟩ := h.ok
  have hf0 := h.fnd hok k 0 (by omega)
  have hfk := h.fnd hok 0 k (by omega)
  have hv0 := thg_val hok (show 0 < k + 1 by omega)
  have hvk := thg_val hok (show k < k + 1 by omega)
  rw [show L + 4 * 0 = L by omega] at hf0 hv0
  have hmem : thg L k ∈ mvA acc L (k + 1) := mvA_mem.2 (Or.inr ⟨k, by omega, rfl⟩)
  have hta := (hok.chain.mem _ hmem).2
  rcases hc with ⟨_, h1, _⟩ | ⟨_, ⟨acc', ms', hok', h2⟩, _⟩ | ⟨h1, acc', ms', hok', hall, h2, _, h3⟩
  · exact absurd h1 hok.not_bad
  · obtain ⟨rfl, rfl⟩ := okC_same hok hok'
    simp only [allB, List.all_cons, List.all_nil, Bool.and_true, hv0, hvk] at h2
    cases h2
  · obtain ⟨rfl, rfl⟩ := okC_same hok hok'
    have b1 := brg_new (l := l) (ms := ms') (st := ⟨[], []⟩) (x := ⟨5, (L : Int), ⟨#[]⟩⟩) (t := thg L k) rfl rfl hf0 hta
    have b2 := brg_old (l := l) (ms := ms') (st := ⟨sub l (thg L k).h (thg L k).e, [(((thg L k).h : Int), 0)]⟩) (x := ⟨5, ((L + 4 * k : Nat) : Int), ⟨#[]⟩⟩) rfl (by
      show hasI _ (fndI ms' ((L + 4 * k : Nat) : Int)) = true
      rw [hfk]
      simp [hasI, thg])
    have hvv : valI [(((thg L k).h : Int), (0 : Int))] (fndI ms' ((L + 4 * k : Nat) : Int)) = 0 := by rw [hfk]; simp [valI, thg]
    have hb : brgs l ms' ⟨[], []⟩ [⟨5, (L : Int), ⟨#[]⟩⟩, ⟨5, ((L + 4 * k : Nat) : Int), ⟨#[]⟩⟩] = (⟨sub l (thg L k).h (thg L k).e, [(((thg L k).h : Int), 0)]⟩, [⟨5, 0, ⟨#[]⟩⟩, ⟨5, 0, ⟨#[]⟩⟩]) := by
      simp only [brgs, b1, List.nil_append, List.length_nil, Int.natCast_zero, b2, hvv]
    have hI := (Inv.empty l (mvA acc L (k + 1))).more hmem hta (by rfl) (by
      show ¬ kindAt l ((L + 4 * k : Nat) : Int) = 10
      rw [kind_of h.last]; decide)
    simp only [List.nil_append, List.length_nil, Int.natCast_zero] at hI
    obtain ⟨q, j', hI2⟩ := parts_inv (ms := ms') hok hwf 60001 _ [thg L k] 0 hI
    refine ⟨h1, by rw [h3, hb], ?_⟩
    rw [h2, hb]
    have ho := hI2.old 0 (by simp) 1 (by simp [szT, thg]) (Or.inl (by simp [thg]))
    have e0 : offT ([thg L k] ++ q) 0 = 0 := rfl
    rw [e0] at ho
    simp only [List.singleton_append, List.getElem_cons_zero, Nat.zero_add] at ho
    rw [ho]
    exact h.num
end Go.Proofs.Ytghaididbhjpaaa

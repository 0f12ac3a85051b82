/- A record that is moved again and again, plainly. -/
import Derived.Test.YtghaididbhjpaaaHMove2P
import Derived.Test.YtghaididbhjpaaaHGrowP
import Derived.Test.YtghaididbhjpaaaHCollN
import Derived.Test.YtghaididbhjpaaaHBuilt
namespace Go.Proofs.Ytghaididbhjpaaa
set_option maxRecDepth 100000
open Go.RowKit Go.Maps
theorem chain_sep {l : List Wd} {acc : List Th} {a : Nat} (h : Chain l acc a) : acc.Pairwise (fun x y => x.e ≤ y.h) ∧ ∀ t ∈ acc, t.e ≤ a := by
  induction h with
  | nil => exact ⟨List.Pairwise.nil, fun t h => by cases h⟩
  | snoc h1 h2 h3 ih =>
    have hle := tAt_le h3
    refine ⟨List.pairwise_append.2 ⟨ih.1, List.pairwise_singleton _ _, fun x hx y hy => ?_⟩, fun t ht => ?_⟩
    · rw [List.mem_singleton] at hy; subst hy; exact ih.2 x hx
    · rcases List.mem_append.1 ht with h | h
      · have := ih.2 t h; omega
      · rw [List.mem_singleton] at h; subst h; exact Nat.le_refl _
theorem sep_of : ∀ {acc : List Th}, acc.Pairwise (fun x y => x.e ≤ y.h) → ∀ {t t' : Th}, t ∈ acc → t' ∈ acc → t' = t ∨ t'.e ≤ t.h ∨ t.e ≤ t'.h
  | [], _, t, _, h, _ => by cases h
  | x :: r, hp, t, t', h, h' => by
    obtain ⟨h1, h2⟩ := List.pairwise_cons.1 hp
    rcases List.mem_cons.1 h with e | q
    · rcases List.mem_cons.1 h' with e' | q'
      · exact Or.inl (e'.trans e.symm)
      · exact Or.inr (Or.inr (by rw [e]; exact h1 _ q'))
    · rcases List.mem_cons.1 h' with e' | q'
      · exact Or.inr (Or.inl (by rw [e']; exact h1 _ q))
      · exact sep_of h2 q q'
theorem nilN_get (l : List Wd) (f j : Nat) : ∀ k, (j < f ∨ f + k ≤ j) → (nilN l f k)[j]? = l[j]?
  | 0, _ => rfl
  | k + 1, h => by
    unfold nilN
    rw [List.getElem?_set_ne (by omega), nilN_get l f j k (by omega)]
theorem leave_get (l : List Wd) {h f e j : Nat} (b : Int) (hf : h + 1 < f) (hfe : f ≤ e) (hj : j < h ∨ (h + 1 < j ∧ j < f) ∨ e ≤ j) : (leaveL l h f e b)[j]? = l[j]? := by
  unfold leaveL headL
  rw [nilN_get _ _ _ _ (by omega), List.getElem?_set_ne (by omega), List.getElem?_set_ne (by omega)]
theorem leave_h (l : List Wd) {h f e : Nat} (b : Int) (hf : h + 1 < f) (hl : h < l.length) : (leaveL l h f e b)[h]? = some ⟨10, b, ⟨#[]⟩⟩ := by
  unfold leaveL headL
  rw [nilN_get _ _ _ _ (by omega), List.getElem?_set_ne (by omega), List.getElem?_set_self hl]
theorem leave_h1 (l : List Wd) {h f e : Nat} (b : Int) (hf : h + 1 < f) (hl : h + 1 < l.length) : (leaveL l h f e b)[h + 1]? = some ⟨1, 0, ⟨#[]⟩⟩ := by
  unfold leaveL headL
  rw [nilN_get _ _ _ _ (by omega), List.getElem?_set_self (by simpa using hl)]
theorem plain_at (n b : Int) (h0 : 0 ≤ n) (h1 : n < b) : plainB n ⟨#[]⟩ b = true := by
  unfold plainB
  simp only [Bool.and_eq_true, decide_eq_true_eq]
  exact ⟨⟨h0, h1⟩, rfl⟩
theorem intAt_of {l : List Wd} {a : Nat} {n b : Int} (h : l[a]? = some ⟨1, n, ⟨#[]⟩⟩) (h0 : 0 ≤ n) (h1 : n < b) : intAt l a b = true := by
  unfold intAt
  rw [h]
  dsimp only
  rw [plain_at n b h0 h1]
  rfl
/-- What begins at a record's place, once it was left. -/
theorem leave_tAt {l : List Wd} {h f e : Nat} {b : Int} (ht : tAt l h = some (f, e)) (hk : kindAt l h = 9) (hb0 : 0 ≤ b) (hb1 : b < 60000) : f = h + 3 ∧ tAt (leaveL l h f e b) h = some (f, e) := by
  have hle := tAt_le ht
  have hl : h < l.length := by omega
  have hkk : l[h].k = 9 := by rw [← hk]; exact (kindAt_nat hl).symm
  have ht' := ht
  unfold tAt at ht
  rw [List.getElem?_eq_getElem hl] at ht
  dsimp only at ht
  split at ht
  · cases ht
  · rw [hkk, if_pos (show (0 : Int) < versI 9 by decide)] at ht
    split at ht
    · have ht2 := ht
      unfold tailT at ht
      rw [if_pos (show cntdB 9 = true by decide)] at ht
      split at ht
      · rename_i hv hc
        have hfit := ht
        have he := fitT_of ht
        injection he with he1 he2
        have hf3 : f = h + 3 := by omega
        refine ⟨hf3, ?_⟩
        have h2l : h + 2 < l.length := by omega
        have g2 : (leaveL l h f e b)[h + 2]? = l[h + 2]? := leave_get l b (by omega) (by omega) (by omega)
        unfold tAt
        rw [leave_h l b (by omega) hl]
        dsimp only
        rw [show headsI 10 = 60000 from rfl, plain_at b 60000 hb0 hb1, if_neg (by simp), if_pos (show (0 : Int) < versI 10 by decide), show versI 10 = 1 from rfl, intAt_of (leave_h1 l b (by omega) (by omega)) (Int.le_refl _) (by omega), if_pos rfl]
        unfold tailT
        rw [if_pos (show cntdB 10 = true by decide), show valsI 10 = valsI 9 from rfl, intAt_same g2, if_pos hc, nAt_same g2]
        unfold fitT at hfit ⊢
        rw [leaveL_length]
        exact hfit
      · cases ht
    · cases ht
/-- A chain of things of which one was left. -/
theorem leave_chain {l : List Wd} {h f e : Nat} {b : Int} (ht : tAt l h = some (f, e)) (hk : kindAt l h = 9) (hb0 : 0 ≤ b) (hb1 : b < 60000) : ∀ {acc : List Th} {a : Nat}, Chain l acc a → (∀ t ∈ acc, t = ⟨h, f, e⟩ ∨ t.e ≤ h ∨ e ≤ t.h) → Chain (leaveL l h f e b) acc a := by
  intro acc a hc
  induction hc with
  | nil => exact fun _ => Chain.nil
  | snoc h1 h2 h3 ih =>
    rename_i acc a f' e'
    intro hs
    have hle := tAt_le ht
    have hle3 := tAt_le h3
    obtain ⟨hf3, ht2⟩ := leave_tAt (b := b) ht hk hb0 hb1
    refine Chain.snoc (ih (fun t ht => hs t (List.mem_append.2 (Or.inl ht)))) (by rw [leaveL_length]; exact h2) ?_
    rcases hs ⟨a, f', e'⟩ (by simp) with q | q
    · injection q with q1 q2 q3
      subst q1 q2 q3
      exact ht2
    · dsimp only at q
      have := tAt_shift (w := leaveL l h f e b) (b := a) h3 (fun i hi => leave_get l b (by omega) (by omega) (by omega)) (by rw [leaveL_length]; omega)
      rw [show a + (f' - a) = f' by omega, show a + (e' - a) = e' by omega] at this
      exact this
theorem kind_same {l l' : List Wd} {n : Int} (h : l'[n.toNat]? = l[n.toNat]?) : kindAt l' n = kindAt l n := by unfold kindAt; rw [h]
theorem nInt_same {l l' : List Wd} {n : Nat} (h : l'[n]? = l[n]?) : nInt l' n = nInt l n := by unfold nInt; rw [h]
theorem sub_same {l l' : List Wd} {f e : Nat} (hl : l'.length = l.length) (h : ∀ j, f ≤ j → j < e → l'[j]? = l[j]?) : sub l' f e = sub l f e := by
  unfold sub
  refine List.ext_getElem? fun j => ?_
  rw [List.getElem?_drop, List.getElem?_drop]
  by_cases hj : f + j < e
  · rw [List.getElem?_take_of_lt hj, List.getElem?_take_of_lt hj, h _ (by omega) hj]
  · rw [List.getElem?_eq_none (by simp; omega), List.getElem?_eq_none (by simp; omega)]
/-- A record that was left for another one: the heap may be. -/
theorem leave_ok {lim : Int} {l : List Wd} {acc : List Th} {ms : List (Int × Int)} {t : Th} {b : Int} (hok : OkC lim l acc ms) (ht : t ∈ acc) (hk : kindAt l t.h = 9) (hb : refB l.length acc b = true) (hkb : kindAt l b = 9) (hne : ¬ b = t.h) (hall : ∀ t' ∈ acc, kindAt l t'.h = 10 → t'.h < t.h) :
    ∃ ms', OkC lim (leaveL l t.h t.f t.e b) acc ms' := by
  have hta := (hok.chain.mem t ht).2
  have hle := tAt_le hta
  have hbr := refB_in hb
  have hlim := hok.room
  have hhi := hok.hi
  obtain ⟨hf3, _⟩ := leave_tAt (b := b) hta hk hbr.1 (by omega)
  have hsep := (chain_sep hok.chain).1
  have hs : ∀ t' ∈ acc, t' = t ∨ t'.e ≤ t.h ∨ t.e ≤ t'.h := fun t' ht' => sep_of hsep ht ht'
  have hc := leave_chain (b := b) hta hk hbr.1 (by omega) hok.chain hs
  have hlen := leaveL_length l t.h t.f t.e b
  have hcl : Chain (leaveL l t.h t.f t.e b) acc (leaveL l t.h t.f t.e b).length := by rw [hlen]; exact hc
  have hget : ∀ t' ∈ acc, ¬ t' = t → ∀ j, t'.h ≤ j → j < t'.e → (leaveL l t.h t.f t.e b)[j]? = l[j]? := fun t' ht' hn j h1 h2 => by
    have hle' := tAt_le (hok.chain.mem t' ht').2
    rcases hs t' ht' with h | h | h
    · exact absurd h hn
    · exact leave_get l b (by omega) (by omega) (by omega)
    · exact leave_get l b (by omega) (by omega) (by omega)
  have hkd : ∀ t' ∈ acc, ¬ t' = t → kindAt (leaveL l t.h t.f t.e b) (t'.h : Int) = kindAt l (t'.h : Int) := fun t' ht' hn => by
    have hle' := tAt_le (hok.chain.mem t' ht').2
    exact kind_same (by rw [Int.toNat_natCast]; exact hget t' ht' hn _ (Nat.le_refl _) (by omega))
  have href : ∀ x, refB l.length acc x = true → ∃ t' ∈ acc, (t'.h : Int) = x := fun x hx => by
    have h1 := hx
    rw [ref_has hok.chain] at h1
    obtain ⟨i, hi, e⟩ := (hok.chain.has x).1 h1
    exact ⟨acc[i], List.getElem_mem hi, e⟩
  have hkt : kindAt (leaveL l t.h t.f t.e b) (t.h : Int) = 10 := by
    unfold kindAt
    rw [Int.toNat_natCast, leave_h l b (by omega) (by omega)]
  rcases mv_spec hcl acc [] rfl with ⟨ms', e1, _, _⟩ | ⟨_, t', ht', hk', hno⟩
  · refine ⟨ms', hok.lo, hok.hi, by rw [hlen]; exact hok.room, hcl, e1, List.all_eq_true.2 (fun t' ht' => ?_)⟩
    by_cases he : t' = t
    · subst he
      unfold thB
      rw [decide_eq_true hkt]
      rfl
    · have hold := List.all_eq_true.1 hok.vals t' ht'
      have hle' := tAt_le (hok.chain.mem t' ht').2
      unfold thB at hold ⊢
      rw [hkd t' ht' he, sub_same hlen (fun j h1 h2 => hget t' ht' he j (by omega) h2)]
      exact hold
  · exfalso
    have hyes : okM (leaveL l t.h t.f t.e b).length (leaveL l t.h t.f t.e b) acc t'.h (nInt (leaveL l t.h t.f t.e b) t'.h) = true := by
      rw [hlen]
      by_cases he : t' = t
      · subst he
        have hn : nInt (leaveL l t'.h t'.f t'.e b) t'.h = b := by unfold nInt; rw [leave_h l b (by omega) (by omega)]
        rw [hn]
        unfold okM
        rw [hb]
        obtain ⟨t2, ht2, e2⟩ := href b hb
        have hne2 : ¬ t2 = t' := fun e => hne (by rw [← e2, e])
        have hk2 := hkd t2 ht2 hne2
        rw [e2] at hk2
        rw [hk2, hkb]
        rfl
      · have hle' := tAt_le (hok.chain.mem t' ht').2
        rw [hkd t' ht' he] at hk'
        have hn : nInt (leaveL l t.h t.f t.e b) t'.h = nInt l t'.h := nInt_same (hget t' ht' he _ (Nat.le_refl _) (by omega))
        rw [hn]
        have hold : okM l.length l acc t'.h (nInt l t'.h) = true := by
          rcases mv_spec hok.chain acc [] rfl with ⟨_, _, _, e3⟩ | ⟨e1, _⟩
          · exact e3 t' ht' hk'
          · rw [hok.moved] at e1; cases e1
        unfold okM at hold ⊢
        rw [Bool.and_eq_true] at hold ⊢
        refine ⟨hold.1, ?_⟩
        obtain ⟨t2, ht2, e2⟩ := href _ hold.1
        by_cases he2 : t2 = t
        · subst he2
          rw [← e2, hkt]
          have := hall t' ht' hk'
          simp
          omega
        · have hh := hold.2
          rw [← e2] at hh ⊢
          rw [hkd t2 ht2 he2]
          exact hh
    rw [hyes] at hno
    cases hno
/-- A record of one value. -/
def recw (k : Int) (v : Wd) : List Wd := [⟨9, 0, ⟨#[]⟩⟩, ⟨1, k, ⟨#[]⟩⟩, ⟨1, 1, ⟨#[]⟩⟩, v]
theorem tAt_rec {k : Int} (v : Wd) (h0 : 0 ≤ k) (h1 : k < 20) : tAt (recw k v) 0 = some (3, 4) := by
  unfold tAt recw
  simp only [List.getElem?_cons_zero]
  rw [plain_at 0 _ (Int.le_refl _) (by decide), if_neg (by simp), if_pos (show (0 : Int) < versI 9 by decide), intAt_of (n := k) rfl h0 (by show k < 20; exact h1), if_pos rfl]
  unfold tailT
  rw [if_pos (show cntdB 9 = true by decide), intAt_of (n := 1) rfl (by decide) (by decide), if_pos rfl]
  rfl
theorem sub_rec (k : Int) (v : Wd) : sub (recw k v) 3 4 = [v] := rfl
theorem rec_grows {l : List Wd} {acc : List Th} {k : Int} {v : Wd} (h0 : 0 ≤ k) (h1 : k < 20) (hv : valB (plOf acc) v.k v.n v.s = true) : grB l (recw k v) acc = true :=
  grB_of (f := 3) (tAt_rec v h0 h1) (by show ¬ (9 : Int) = 10; decide) (by
    show allB _ (sub (recw k v) 3 4) = true
    rw [sub_rec]
    simp only [allB, List.all_cons, List.all_nil, Bool.and_true]
    exact valB_snoc hv)
theorem rec_more {lim : Int} {l : List Wd} {acc : List Th} {ms : List (Int × Int)} {k : Int} {v : Wd} (hok : OkC lim l acc ms) (hr : (l.length : Int) + 4 ≤ lim) (h0 : 0 ≤ k) (h1 : k < 20) (hv : valB (plOf acc) v.k v.n v.s = true) :
    ∃ ms', OkC lim (l ++ recw k v) (acc ++ [⟨l.length, l.length + 3, l.length + 4⟩]) ms' := by
  obtain ⟨f, e, ms', h, _⟩ := grow_more hok (x := recw k v) (by simp [recw]) (by simpa [recw] using hr) (rec_grows h0 h1 hv)
  have hs := tAt_sh l (recw k v) 0
  rw [Nat.add_zero, tAt_rec v h0 h1] at hs
  have hm := (h.chain.mem ⟨l.length, f, e⟩ (by simp)).2
  dsimp only at hm
  rw [hs] at hm
  injection hm with hm
  injection hm with e1 e2
  subst e1 e2
  exact ⟨ms', h⟩
/-- The j-th record behind the old things. -/
def thg (L : Nat) (j : Nat) : Th := ⟨L + 4 * j, L + 4 * j + 3, L + 4 * j + 4⟩
def mvA (acc : List Th) (L : Nat) : Nat → List Th
  | 0 => acc
  | j + 1 => mvA acc L j ++ [thg L j]
theorem mvA_mem {acc : List Th} {L : Nat} {t : Th} : ∀ {n : Nat}, t ∈ mvA acc L n ↔ t ∈ acc ∨ ∃ j, j < n ∧ t = thg L j
  | 0 => by simp [mvA]
  | n + 1 => by
    rw [mvA, List.mem_append, mvA_mem, List.mem_singleton]
    constructor
    · rintro ((h | ⟨j, hj, h⟩) | h)
      · exact Or.inl h
      · exact Or.inr ⟨j, by omega, h⟩
      · exact Or.inr ⟨n, by omega, h⟩
    · rintro (h | ⟨j, hj, h⟩)
      · exact Or.inl (Or.inl h)
      · by_cases e : j = n
        · subst e; exact Or.inr h
        · exact Or.inl (Or.inr ⟨j, by omega, h⟩)
theorem valB_mvA {acc : List Th} {L : Nat} {k n : Int} {s : ByteArray} (h : valB (plOf acc) k n s = true) : ∀ m, valB (plOf (mvA acc L m)) k n s = true
  | 0 => h
  | m + 1 => valB_snoc (valB_mvA h m)
/-- Behind i moves. -/
structure MvS (l : List Wd) (acc : List Th) (L i : Nat) : Prop where
  ok : ∃ ms, OkC 600 l (mvA acc L (i + 1)) ms
  len : l.length = L + 4 * i + 4
  tomb : ∀ j, j < i → l[L + 4 * j]? = some ⟨10, (L + 4 * (j + 1) : Nat), ⟨#[]⟩⟩
  last : l[L + 4 * i]? = some ⟨9, 0, ⟨#[]⟩⟩
  num : l[L + 4 * i + 1]? = some ⟨1, (i : Int), ⟨#[]⟩⟩
  old : ∀ t, t ∈ acc → t.h < L ∧ ¬ kindAt l t.h = 10
theorem mvS_first {l : List Wd} {acc : List Th} {ms : List (Int × Int)} {v : Wd} (hok : OkC 600 l acc ms) (hn : ∀ t, t ∈ acc → ¬ kindAt l t.h = 10) (hl : l.length ≤ 400) (hv : valB (plOf acc) v.k v.n v.s = true) : MvS (l ++ recw 0 v) acc l.length 0 := by
  obtain ⟨ms', h⟩ := rec_more (k := 0) hok (by omega) (Int.le_refl _) (by decide) hv
  refine ⟨⟨ms', h⟩, by simp [recw], fun j hj => absurd hj (by omega), ?_, ?_, fun t ht => ?_⟩
  · rw [List.getElem?_append_right (by omega)]; simp [recw]
  · rw [List.getElem?_append_right (by omega)]; simp [recw]
  · have hi := (hok.chain.mem t ht).1
    exact ⟨hi, by rw [kindAt_app (by omega) (by omega)]; exact hn t ht⟩
theorem kind_of {l : List Wd} {n : Nat} {w : Wd} (h : l[n]? = some w) : kindAt l (n : Int) = w.k := by unfold kindAt; rw [Int.toNat_natCast, h]
/-- One record more. -/
theorem MvS.put {l : List Wd} {acc : List Th} {L i : Nat} {v : Wd} (h : MvS l acc L i) (hi : i < 10) (hL : L ≤ 400) (hv : valB (plOf acc) v.k v.n v.s = true) : ∃ ms, OkC 600 (l ++ recw ((i + 1 : Nat) : Int) v) (mvA acc L (i + 2)) ms := by
  obtain ⟨ms, hok⟩ := h.ok
  obtain ⟨ms', h'⟩ := rec_more (k := ((i + 1 : Nat) : Int)) hok (by have := h.len; omega) (by omega) (by omega) (valB_mvA hv _)
  refine ⟨ms', ?_⟩
  have e : (⟨l.length, l.length + 3, l.length + 4⟩ : Th) = thg L (i + 1) := by
    unfold thg
    have := h.len
    congr 1 <;> omega
  rw [e] at h'
  exact h'
/-- The record ahead of it is left for it. -/
theorem MvS.next {l : List Wd} {acc : List Th} {L i : Nat} {v : Wd} (h : MvS l acc L i) (hi : i < 10) (hL : L ≤ 400) (hv : valB (plOf acc) v.k v.n v.s = true) :
    MvS (leaveL (l ++ recw ((i + 1 : Nat) : Int) v) (L + 4 * i) (L + 4 * i + 3) (L + 4 * i + 4) ((L + 4 * (i + 1) : Nat) : Int)) acc L (i + 1) := by
  obtain ⟨ms, hok⟩ := h.put hi hL hv
  have hlen := h.len
  have hxl : (recw ((i + 1 : Nat) : Int) v).length = 4 := rfl
  have hG : (l ++ recw ((i + 1 : Nat) : Int) v).length = L + 4 * i + 8 := by rw [List.length_append, hxl]; omega
  have g0 : ∀ j, j < l.length → (l ++ recw ((i + 1 : Nat) : Int) v)[j]? = l[j]? := fun j hj => List.getElem?_append_left hj
  have g1 : ∀ j, (l ++ recw ((i + 1 : Nat) : Int) v)[L + 4 * i + 4 + j]? = (recw ((i + 1 : Nat) : Int) v)[j]? := fun j => by rw [List.getElem?_append_right (by omega)]; congr 1; omega
  have hkt : kindAt (l ++ recw ((i + 1 : Nat) : Int) v) ((L + 4 * i : Nat) : Int) = 9 := kind_of ((g0 _ (by omega)).trans h.last)
  have hkb : kindAt (l ++ recw ((i + 1 : Nat) : Int) v) ((L + 4 * (i + 1) : Nat) : Int) = 9 := kind_of (w := ⟨9, 0, ⟨#[]⟩⟩) (by have := g1 0; rw [show L + 4 * (i + 1) = L + 4 * i + 4 + 0 by omega, this]; rfl)
  have hmem : thg L i ∈ mvA acc L (i + 2) := mvA_mem.2 (Or.inr ⟨i, by omega, rfl⟩)
  have hmem2 : thg L (i + 1) ∈ mvA acc L (i + 2) := mvA_mem.2 (Or.inr ⟨i + 1, by omega, rfl⟩)
  have hrb : refB (l ++ recw ((i + 1 : Nat) : Int) v).length (mvA acc L (i + 2)) ((L + 4 * (i + 1) : Nat) : Int) = true := by
    rw [ref_has hok.chain]
    obtain ⟨q, hq, e⟩ := List.getElem_of_mem hmem2
    exact (hok.chain.has _).2 ⟨q, hq, by rw [e]; rfl⟩
  have hall : ∀ t' ∈ mvA acc L (i + 2), kindAt (l ++ recw ((i + 1 : Nat) : Int) v) t'.h = 10 → t'.h < (thg L i).h := fun t' ht' hk => by
    rcases mvA_mem.1 ht' with q | ⟨j, hj, rfl⟩
    · have := (h.old t' q).1
      show t'.h < L + 4 * i
      omega
    · show L + 4 * j < L + 4 * i
      rcases Nat.lt_trichotomy j i with q | q | q
      · omega
      · subst q
        have e : kindAt (l ++ recw ((j + 1 : Nat) : Int) v) ((thg L j).h : Int) = 9 := hkt
        rw [e] at hk; cases hk
      · obtain rfl : j = i + 1 := by omega
        have e : kindAt (l ++ recw ((i + 1 : Nat) : Int) v) ((thg L (i + 1)).h : Int) = 9 := hkb
        rw [e] at hk; cases hk
  have hL2 := leave_ok (t := thg L i) hok hmem hkt hrb hkb (by show ¬ ((L + 4 * (i + 1) : Nat) : Int) = ((L + 4 * i : Nat) : Int); omega) hall
  have hget : ∀ j, (j < L + 4 * i ∨ L + 4 * i + 4 ≤ j) → (leaveL (l ++ recw ((i + 1 : Nat) : Int) v) (L + 4 * i) (L + 4 * i + 3) (L + 4 * i + 4) ((L + 4 * (i + 1) : Nat) : Int))[j]? = (l ++ recw ((i + 1 : Nat) : Int) v)[j]? := fun j hj => leave_get _ _ (by omega) (by omega) (by omega)
  refine ⟨hL2, by rw [leaveL_length, hG]; omega, fun j hj => ?_, ?_, ?_, fun t ht => ?_⟩
  · by_cases e : j = i
    · subst e
      exact leave_h _ _ (by omega) (by omega)
    · rw [hget _ (by omega), g0 _ (by omega)]
      exact h.tomb j (by omega)
  · rw [hget _ (by omega), show L + 4 * (i + 1) = L + 4 * i + 4 + 0 by omega, g1]; rfl
  · rw [hget _ (by omega), show L + 4 * (i + 1) + 1 = L + 4 * i + 4 + 1 by omega, g1]; rfl
  · have ho := h.old t ht
    refine ⟨ho.1, ?_⟩
    rw [kind_same (l := l) (by rw [Int.toNat_natCast, hget _ (by omega), g0 _ (by omega)])]
    exact ho.2
end Go.Proofs.Ytghaididbhjpaaa

/- A tree without quotes: its datum is shown as its text, and nothing is wrong with it. -/
import Derived.Test.YtfhiolnoalghmaaDoorKData
import Derived.Test.YtfhiolnoalghmaaDoorShows2
namespace Go.Proofs.YtfhiolnoalghmaaDoor
open Go.RowKit
mutual
/-- Quotes written out. -/
def Tx.un : Tx → Tx
  | .w b => .w b
  | .q t => .l [.w [113, 117, 111, 116, 101], t.un]
  | .l ts => .l (Tx.uns ts)
def Tx.uns : List Tx → List Tx
  | [] => []
  | t :: r => t.un :: Tx.uns r
/-- No quotes. -/
def Tx.noq : Tx → Bool
  | .w _ => true
  | .q _ => false
  | .l ts => Tx.noqs ts
def Tx.noqs : List Tx → Bool
  | [] => true
  | t :: r => t.noq && Tx.noqs r
end
theorem wordD_quote' : wordD [113, 117, 111, 116, 101] = .lit (.string [113, 117, 111, 116, 101]) := by kernel_rfl
theorem wordOk_quote : wordOk [113, 117, 111, 116, 101] = true := by decide +kernel
mutual
theorem un_noq : ∀ t : Tx, t.un.noq = true
  | .w _ => rfl
  | .q t => by simp [Tx.un, Tx.noq, Tx.noqs, un_noq t]
  | .l ts => uns_noq ts
theorem uns_noq : ∀ ts : List Tx, Tx.noqs (Tx.uns ts) = true
  | [] => rfl
  | t :: r => by simp [Tx.uns, Tx.noqs, un_noq t, uns_noq r]
end
mutual
theorem un_ok : ∀ t : Tx, t.ok = true → t.un.ok = true
  | .w _, h => h
  | .q t, h => by
    have := un_ok t h
    simp [Tx.un, Tx.ok, Tx.oks, this, wordOk_quote]
  | .l ts, h => uns_ok ts h
theorem uns_ok : ∀ ts : List Tx, Tx.oks ts = true → Tx.oks (Tx.uns ts) = true
  | [], _ => rfl
  | t :: r, h => by
    simp only [Tx.oks, Bool.and_eq_true] at h
    simp [Tx.uns, Tx.oks, un_ok t h.1, uns_ok r h.2]
end
mutual
theorem un_dat : ∀ t : Tx, t.un.dat = t.dat
  | .w _ => rfl
  | .q t => by simp only [Tx.un, Tx.dat, Tx.dats, quoteT, wordD_quote', un_dat t]
  | .l ts => by simp only [Tx.un, Tx.dat, uns_dat ts]
theorem uns_dat : ∀ ts : List Tx, Tx.dats (Tx.uns ts) = Tx.dats ts
  | [] => rfl
  | t :: r => by simp only [Tx.uns, Tx.dats, un_dat t, uns_dat r]
end
mutual
theorem un_dep : ∀ t : Tx, t.un.dep ≤ t.dep ∧ 1 ≤ t.dep
  | .w _ => ⟨Nat.le_refl _, Nat.le_refl _⟩
  | .q t => by
    have := un_dep t
    simp only [Tx.un, Tx.dep, Tx.deps]
    omega
  | .l ts => by
    have := uns_dep ts
    simp only [Tx.un, Tx.dep]
    omega
theorem uns_dep : ∀ ts : List Tx, Tx.deps (Tx.uns ts) ≤ Tx.deps ts
  | [] => Nat.le_refl _
  | t :: r => by
    have h1 := un_dep t
    have h2 := uns_dep r
    simp only [Tx.uns, Tx.deps]
    omega
end
mutual
theorem un_num : ∀ t : Tx, t.un.num = t.num + t.quo
  | .w _ => rfl
  | .q t => by
    have := un_num t
    simp only [Tx.un, Tx.num, Tx.nums, Tx.quo]
    omega
  | .l ts => by
    have := uns_num ts
    simp only [Tx.un, Tx.num, Tx.quo]
    omega
theorem uns_num : ∀ ts : List Tx, Tx.nums (Tx.uns ts) = Tx.nums ts + Tx.quos ts
  | [] => rfl
  | t :: r => by
    have h1 := un_num t
    have h2 := uns_num r
    simp only [Tx.uns, Tx.nums, Tx.quos]
    omega
end
mutual
theorem un_len : ∀ t : Tx, t.un.pr.length = t.pr.length + 7 * t.quo
  | .w _ => rfl
  | .q t => by
    have := un_len t
    simp only [Tx.un, Tx.pr, Tx.prs, Tx.quo, List.length_cons, List.length_append, List.length_nil]
    omega
  | .l ts => by
    have := uns_len ts
    simp only [Tx.un, Tx.pr, Tx.quo, List.length_cons, List.length_append, List.length_nil]
    omega
theorem uns_len : ∀ ts : List Tx, (Tx.prs (Tx.uns ts)).length = (Tx.prs ts).length + 7 * Tx.quos ts
  | [] => rfl
  | [t] => by
    have := un_len t
    simp only [Tx.uns, Tx.prs, Tx.quos]
    omega
  | t :: u :: r => by
    have h1 := un_len t
    have h2 := uns_len (u :: r)
    simp only [Tx.uns, Tx.prs, Tx.quos, List.length_append, List.length_cons] at h2 ⊢
    omega
end
theorem prs_snoc (t : Tx) : ∀ ts : List Tx, Tx.prs (ts ++ [t]) = Tx.prs ts ++ (if 0 < ts.length then [32] else []) ++ t.pr
  | [] => by simp [Tx.prs]
  | [u] => by simp [Tx.prs]
  | u :: v :: r => by
    have ih := prs_snoc t (v :: r)
    simp only [List.cons_append] at ih
    simp only [List.cons_append, Tx.prs, ih, List.append_assoc, List.length_cons]
    simp
theorem joinTo_prs (f : Nat → List UInt8) (ts : List Tx) (h : ∀ i t, ts[i]? = some t → f i = t.pr) : ∀ j, j ≤ ts.length → joinTo f j = Tx.prs (ts.take j)
  | 0, _ => by simp [joinTo, Tx.prs]
  | j + 1, hj => by
    have hlt : j < ts.length := by omega
    rw [joinTo, joinTo_prs f ts h j (by omega), List.take_succ_eq_append_getElem hlt, prs_snoc, h j ts[j] (List.getElem?_eq_getElem hlt)]
    congr 2
    simp only [List.length_take]
    rw [show min j ts.length = j from by omega]
theorem firstI_none (f : Nat → Int) : ∀ (m i : Nat), (∀ j, i ≤ j → j < i + m → f j = 0) → firstI f i m = 0
  | 0, _, _ => rfl
  | m + 1, i, h => by
    unfold firstI
    rw [if_pos (h i (Nat.le_refl _) (by omega))]
    exact firstI_none f m (i + 1) (fun j h1 h2 => h j (by omega) (by omega))
theorem dats_get : ∀ (ts : List Tx) (i : Nat) (t : Tx), ts[i]? = some t → (Tx.dats ts)[i]? = some t.dat
  | [], _, _, h => by simp at h
  | u :: r, 0, t, h => by simp at h; simp [Tx.dats, h]
  | u :: r, i + 1, t, h => by simp at h; simpa [Tx.dats] using dats_get r i t h
theorem dats_len : ∀ ts : List Tx, (Tx.dats ts).length = ts.length
  | [] => rfl
  | _ :: r => by simp [Tx.dats, dats_len r]
/-- What is told of a datum in memory: its text, no fault, and its form. -/
def Told (W : World) (d : Nat) (t : Tx) (k n : Int) (s : ByteArray) (a : Option Addr) (len : Nat) : Prop := txtI W d k n s a len = t.pr ∧ fltI W d k n s a len = 0 ∧ Fine W W.heap.size d s a len
theorem word_cases {b : List UInt8} (h : wordOk b = true) :
    (b = [35, 116] ∧ wordD b = .lit (.bool true)) ∨ (b = [35, 102] ∧ wordD b = .lit (.bool false)) ∨ (nameB b = true ∧ wordD b = .lit (.string b)) ∨ ∃ n, wordD b = .lit (.int .i64 n) ∧ Lib.itoa n = b ∧ inI (-1099511627776) n 1099511627776 = true := by
  simp only [wordOk, Bool.and_eq_true] at h
  have hw := h.2
  unfold wordD
  unfold wordT at hw ⊢
  by_cases h1 : b = [35, 116]
  · exact Or.inl ⟨h1, by rw [if_pos h1]⟩
  · by_cases h2 : b = [35, 102]
    · exact Or.inr (Or.inl ⟨h2, by rw [if_neg h1, if_pos h2]⟩)
    · by_cases h3 : nameB b = true
      · exact Or.inr (Or.inr (Or.inl ⟨h3, by rw [if_neg h1, if_neg h2, if_pos h3]⟩))
      · rw [if_neg h1, if_neg h2, if_neg h3] at hw ⊢
        refine Or.inr (Or.inr (Or.inr ?_))
        unfold numT at hw ⊢
        cases ha : Lib.atoiAll b with
        | ok n =>
          rw [ha] at hw
          simp only at hw ⊢
          by_cases h4 : Lib.itoa n = b
          · rw [if_pos h4] at hw ⊢
            by_cases h5 : inI (-1099511627776) n 1099511627776 = true
            · rw [if_pos h5]
              exact ⟨n, rfl, h4, h5⟩
            · rw [if_neg h5] at hw; simp at hw
          · rw [if_neg h4] at hw; simp at hw
        | _ => rw [ha] at hw; simp at hw
theorem leaf_told {W : World} {t : DataW Unit} {k n : Int} {s : ByteArray} {a : Option Addr} {len cap : Nat} {b : List UInt8} (d : Nat) (hd : 1 ≤ d) (hb : wordOk b = true) (ht : t = wordD b) (h : Leaf t (.int .i64 k) (.int .i64 n) (.string s) (.slice a len cap)) : Told W d (.w b) k n s a len := by
  obtain ⟨d, rfl⟩ : ∃ e, d = e + 1 := ⟨d - 1, by omega⟩
  have hb16 : nameB b = true → b.length ≤ 16 := fun h => by simp only [nameB, Bool.and_eq_true, decide_eq_true_eq] at h; exact h.1.1.2
  have fin : ∀ (k n : Int) (s : ByteArray), s.size ≤ 9223372036854775807 → aloneI k n s 0 (39 - d) = 0 → leafOr k n s ([40] ++ joinTo (elemT W (txtI W d) none) 0 ++ [41]) = b → Told W (d + 1) (.w b) k n s none 0 := by
    intro k n s hs h1 h2
    refine ⟨h2, ?_, hs, by omega, fun i hi => absurd hi (by omega)⟩
    rw [fltI_pos W d k n s none 0 h1]
    rfl
  have ho : ¬ (40 : Int) ≤ 39 - d := by omega
  have hem : (ByteArray.mk #[]).toList = [] := by decide +kernel
  rcases word_cases hb with ⟨rfl, hw⟩ | ⟨rfl, hw⟩ | ⟨hn, hw⟩ | ⟨m, hw, hi, hin⟩
  all_goals rw [ht, hw] at h
  all_goals rcases h with ⟨x, hx, e0, e1, e2, e3⟩ | ⟨x, hx, e0, e1, e2, e3⟩ | ⟨x, hx, e0, e1, e2, e3⟩
  all_goals first | (cases hx; done) | skip
  all_goals
    injection hx with hx
    injection hx with hx
  all_goals simp only [Value.int.injEq, Value.string.injEq, Value.slice.injEq, true_and] at e0 e1 e2 e3
  all_goals
    obtain ⟨rfl, rfl, rfl⟩ := e3
    subst e0 e1 e2
  · subst hx
    exact fin _ _ _ (by decide) (by simp [aloneI, ho, moreB, hem]) (by simp [leafOr, boolT])
  · subst hx
    exact fin _ _ _ (by decide) (by simp [aloneI, ho, moreB, hem]) (by simp [leafOr, boolT])
  · subst hx
    refine fin _ _ _ (by show b.toArray.size ≤ _; have := hb16 hn; simp; omega) ?_ (by simp [leafOr])
    simp [aloneI, ho, moreB, hn]
  · rename_i hn
    subst hn
    refine fin _ _ _ (by decide) ?_ (by simpa [leafOr] using hi)
    simp [aloneI, ho, moreB, hem, hin]
mutual
theorem told_tree (W : World) (S : Nat → Prop) (hS : ∀ b, S b → b < W.heap.size) : ∀ (t : Tx) (d : Nat) (k n : Int) (s : ByteArray) (a : Option Addr) (len cap : Nat), t.ok = true → t.noq = true → t.dep ≤ d → Dat W S d t.dat (.int .i64 k) (.int .i64 n) (.string s) (.slice a len cap) → Told W d t k n s a len
  | .w b, d, k, n, s, a, len, cap, hok, _, hd, h => by
    simp only [Tx.dep] at hd
    obtain ⟨d, rfl⟩ : ∃ e, d = e + 1 := ⟨d - 1, by omega⟩
    rcases h with h | ⟨items, b', l, c, ht, _⟩
    · exact leaf_told (d + 1) (by omega) hok rfl h
    · exfalso
      simp only [Tx.dat] at ht
      rcases word_cases hok with ⟨_, hw⟩ | ⟨_, hw⟩ | ⟨_, hw⟩ | ⟨m, hw, _⟩ <;> rw [hw] at ht <;> cases ht
  | .q t, _, _, _, _, _, _, _, _, hq, _, _ => by simp [Tx.noq] at hq
  | .l ts, d, k, n, s, a, len, cap, hok, hq, hd, h => by
    simp only [Tx.dep] at hd
    obtain ⟨d, rfl⟩ : ∃ e, d = e + 1 := ⟨d - 1, by omega⟩
    rcases h with h | ⟨items, a', l, c, ht, e0, e1, e2, e3, hlc, hrow⟩
    · exfalso
      simp only [Tx.dat] at h
      rcases h with ⟨x, hx, _⟩ | ⟨x, hx, _⟩ | ⟨x, hx, _⟩ <;> cases hx
    · simp only [Tx.dat] at ht
      injection ht with ht _
      subst ht
      simp only [Value.int.injEq, Value.string.injEq, Value.slice.injEq, true_and] at e0 e1 e2 e3
      obtain ⟨rfl, rfl, rfl⟩ := e3
      subst e0 e1 e2
      obtain ⟨hlen, hrow⟩ := hrow
      rw [dats_len] at hlen
      have each : ∀ i t, ts[i]? = some t → ∃ b o k n s a' len' cap', a = some ⟨b, o, none⟩ ∧ b < W.heap.size ∧ W.cell? ⟨b, o + i * 4, none⟩ = some (.int .i64 k) ∧ W.cell? ⟨b, o + i * 4 + 1, none⟩ = some (.int .i64 n) ∧ W.cell? ⟨b, o + i * 4 + 2, none⟩ = some (.string s) ∧ W.cell? ⟨b, o + i * 4 + 3, none⟩ = some (.slice a' len' cap') ∧ Told W d t k n s a' len' := by
        intro i t hi
        obtain ⟨b, o, u0, u1, u2, u3, rfl, hSb, c0, c1, c2, c3, hD⟩ := hrow i t.dat (dats_get ts i t hi)
        obtain ⟨k', n', s', x', l', cp', rfl, rfl, rfl, rfl⟩ := hD.shape
        exact ⟨b, o, k', n', s', x', l', cp', rfl, hS b hSb, c0, c1, c2, c3, told_trees W S hS ts i t hi d k' n' s' x' l' cp' hok hq (by omega) hD⟩
      have hem : (ByteArray.mk #[]).toList = [] := by decide +kernel
      have ho : ¬ (40 : Int) ≤ 39 - d := by omega
      have hal : aloneI 4 0 ⟨#[]⟩ len (39 - d) = 0 := by simp [aloneI, ho, moreB, hem]
      refine ⟨?_, ?_, by decide, hlc.2, fun i hi => ?_⟩
      · have hj : joinTo (elemT W (txtI W d) a) len = Tx.prs ts := by
          rw [joinTo_prs _ ts (fun i t hi => ?_) len (by omega), hlen, List.take_length]
          obtain ⟨b, o, k', n', s', x', l', cp', rfl, _, c0, c1, c2, c3, hT⟩ := each i t hi
          rw [elemT_eq _ c0 c1 c2 c3]
          exact hT.1
        simp only [txtI, leafOr, hj, Tx.pr]
        simp
      · rw [fltI_pos W d 4 0 _ a len hal]
        refine firstI_none _ len 0 (fun j _ hj => ?_)
        obtain ⟨t, ht⟩ : ∃ t, ts[j]? = some t := ⟨_, List.getElem?_eq_getElem (by omega)⟩
        obtain ⟨b, o, k', n', s', x', l', cp', rfl, _, c0, c1, c2, c3, hT⟩ := each j t ht
        rw [elemI_eq _ c0 c1 c2 c3]
        exact hT.2.1
      · obtain ⟨t, ht⟩ : ∃ t, ts[i]? = some t := ⟨_, List.getElem?_eq_getElem (by omega)⟩
        obtain ⟨b, o, k', n', s', x', l', cp', rfl, hlt, c0, c1, c2, c3, hT⟩ := each i t ht
        exact ⟨b, o, k', n', s', x', l', cp', rfl, hlt, c0, c1, c2, c3, hT.2.2⟩
theorem told_trees (W : World) (S : Nat → Prop) (hS : ∀ b, S b → b < W.heap.size) : ∀ (ts : List Tx) (i : Nat) (t : Tx), ts[i]? = some t → ∀ (d : Nat) (k n : Int) (s : ByteArray) (a : Option Addr) (len cap : Nat), Tx.oks ts = true → Tx.noqs ts = true → Tx.deps ts ≤ d → Dat W S d t.dat (.int .i64 k) (.int .i64 n) (.string s) (.slice a len cap) → Told W d t k n s a len
  | [], _, _, h, _, _, _, _, _, _, _, _, _, _, _ => by simp at h
  | u :: r, 0, t, h, d, k, n, s, a, len, cap, hok, hq, hd, hD => by
    simp at h
    subst h
    simp only [Tx.oks, Tx.noqs, Bool.and_eq_true] at hok hq
    simp only [Tx.deps] at hd
    exact told_tree W S hS u d k n s a len cap hok.1 hq.1 (by omega) hD
  | u :: r, i + 1, t, h, d, k, n, s, a, len, cap, hok, hq, hd, hD => by
    simp only [Tx.oks, Tx.noqs, Bool.and_eq_true] at hok hq
    simp only [Tx.deps] at hd
    exact told_trees W S hS r i t (by simpa using h) d k n s a len cap hok.2 hq.2 (by omega) hD
end
end Go.Proofs.YtfhiolnoalghmaaDoor

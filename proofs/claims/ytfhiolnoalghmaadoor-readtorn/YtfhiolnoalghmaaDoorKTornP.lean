/- A tree's text that is cut is too short, or bad ahead of its end. -/
import Derived.Test.YtfhiolnoalghmaaDoorKData
namespace Go.Proofs.YtfhiolnoalghmaaDoor
/-- How reading what is left of a text may end. -/
def Bad (o : Res) : Prop := o = .inl (5, []) ∨ ∃ q, q ≠ [] ∧ o = .inl (4, q)
def Cut (o : Res) : Prop := Bad o ∨ ∃ t c, o = .inr (t, [], c)
theorem pDatum_nil (d c : Nat) : pDatum d [] c = .inl (5, []) := by
  cases d with
  | zero => simp [pDatum, skipB]
  | succ d => simp [pDatum, skipB]
theorem pItems_nil (d m : Nat) (acc : List (DataW Unit)) (c : Nat) : Bad (pItems (pDatum d) (m + 1) acc [] c) := by
  left
  unfold pItems
  rw [if_neg (by simp), pDatum_nil]
theorem cut_word (b : List UInt8) (d j c : Nat) (hok : wordOk b = true) (hcut : cutOk b = true) (hj : j < b.length) (hc : c < 400) (hd : 1 ≤ d) : Cut (pDatum d (b.take j) c) := by
  obtain ⟨d, rfl⟩ : ∃ e, d = e + 1 := ⟨d - 1, by omega⟩
  cases hb : b.take j with
  | nil => rw [pDatum_nil]; exact Or.inl (Or.inl rfl)
  | cons x r =>
    have hall : b.all inWord = true := by simp only [wordOk, Bool.and_eq_true] at hok; exact hok.1.2
    have hall2 : (x :: r).all inWord = true := by
      rw [← hb, List.all_eq_true]
      exact fun y hy => List.all_eq_true.1 hall y (List.mem_of_mem_take hy)
    have hx : inWord x = true := by simp only [List.all_cons, Bool.and_eq_true] at hall2; exact hall2.1
    obtain ⟨h1, h2, h40, h41, h39⟩ := inWord_parts hx
    have h0 : ¬ j = 0 := fun e => by subst e; simp at hb
    have hw := List.all_eq_true.1 hcut j (List.mem_range.2 hj)
    rw [hb] at hw
    have htw : (x :: r).takeWhile inWord = x :: r ∧ (x :: r).dropWhile inWord = [] := by
      have := takeWhile_word (b := x :: r) (r := []) hall2 delim_nil
      simpa using this
    unfold pDatum
    rw [skip_keep h1 h2]
    simp only []
    rw [if_neg (by omega), if_neg h41, if_neg h40, if_neg h39]
    unfold pWord
    rw [htw.1, htw.2]
    cases hwt : wordT (x :: r) with
    | inr t => exact Or.inr ⟨t, c + 1, rfl⟩
    | inl e =>
      rw [hwt] at hw
      have : e = 4 := by simpa [h0] using hw
      subst this
      exact Or.inl (Or.inr ⟨x :: r, by simp, rfl⟩)
theorem skip_take (t : Tx) (h : t.ok = true) (j : Nat) : skipB false (t.pr.take j) = t.pr.take j := by
  obtain ⟨x, r, e, h1, h2, _⟩ := pr_head t h
  rw [e]
  cases j with
  | zero => simp [skipB]
  | succ j => rw [List.take_succ_cons]; exact skip_keep h1 h2
theorem head_41 (t : Tx) (h : t.ok = true) (r : List UInt8) : ¬ (t.pr ++ r).head?.map UInt8.toNat = some 41 := by
  obtain ⟨x, q, e, _, _, h3⟩ := pr_head t h
  rw [e]
  simp
  omega
theorem head_cut (t : Tx) (h : t.ok = true) (j : Nat) : ¬ (t.pr.take j).head?.map UInt8.toNat = some 41 := by
  obtain ⟨x, q, e, _, _, h3⟩ := pr_head t h
  rw [e]
  cases j with
  | zero => simp
  | succ j => simp; omega
/-- An item that is cut is the last one. -/
theorem cut_first (t : Tx) (d j c : Nat) (acc : List (DataW Unit)) (m : Nat) (hf : t.fit = true) (h : Cut (pDatum d (t.pr.take j) c)) : Bad (pItems (pDatum d) (m + 1 + 1) acc (t.pr.take j) c) := by
  unfold pItems
  rw [if_neg (head_cut t (fit_ok t hf) j)]
  rcases h with (h | ⟨q, hq, h⟩) | ⟨u, c', h⟩
  · rw [h]; exact Or.inl rfl
  · rw [h]; exact Or.inr ⟨q, hq, rfl⟩
  · rw [h]
    simp only []
    rw [show skipB false [] = [] from rfl]
    exact pItems_nil d m _ _
mutual
theorem cut_tree : ∀ (t : Tx) (d j c : Nat), t.fit = true → t.dep ≤ d → j < t.pr.length → c + t.num ≤ 400 → Cut (pDatum d (t.pr.take j) c)
  | .w b, d, j, c, hf, hd, hj, hc => by
    simp only [Tx.fit, Bool.and_eq_true] at hf
    simp only [Tx.dep] at hd
    simp only [Tx.num] at hc
    exact cut_word b d j c hf.1 hf.2 hj (by omega) hd
  | .q t, d, j, c, hf, hd, hj, hc => by
    simp only [Tx.fit, Bool.and_eq_true] at hf
    simp only [Tx.dep] at hd
    simp only [Tx.num] at hc
    simp only [Tx.pr, List.length_cons] at hj
    obtain ⟨d, rfl⟩ : ∃ e, d = e + 1 := ⟨d - 1, by omega⟩
    cases j with
    | zero => rw [List.take_zero, pDatum_nil]; exact Or.inl (Or.inl rfl)
    | succ j =>
      have ih := cut_tree t d j (c + 1) hf.2 (by omega) (by omega) (by omega)
      simp only [Tx.pr, List.take_succ_cons]
      unfold pDatum
      rw [skip_keep (by decide) (by decide)]
      simp only []
      rw [if_neg (by omega), if_neg (by decide), if_neg (by decide), if_pos (by decide)]
      rcases ih with (ih | ⟨q, hq, ih⟩) | ⟨u, c', ih⟩
      · rw [ih]; exact Or.inl (Or.inl rfl)
      · rw [ih]; exact Or.inl (Or.inr ⟨q, hq, rfl⟩)
      · rw [ih]; exact Or.inr ⟨_, _, rfl⟩
  | .l ts, d, j, c, hf, hd, hj, hc => by
    simp only [Tx.fit] at hf
    simp only [Tx.dep] at hd
    simp only [Tx.num] at hc
    simp only [Tx.pr, List.length_cons, List.length_append, List.length_nil] at hj
    obtain ⟨d, rfl⟩ : ∃ e, d = e + 1 := ⟨d - 1, by omega⟩
    cases j with
    | zero => rw [List.take_zero, pDatum_nil]; exact Or.inl (Or.inl rfl)
    | succ j =>
      have ih := cut_trees ts d j (c + 1) [] 400 hf (by omega) (by omega) (by omega) (by omega)
      have e : (Tx.prs ts ++ [41]).take j = (Tx.prs ts).take j := List.take_append_of_le_length (by omega)
      simp only [Tx.pr, List.take_succ_cons, e]
      unfold pDatum
      rw [skip_keep (by decide) (by decide)]
      simp only []
      rw [if_neg (by omega), if_neg (by decide), if_pos (by decide)]
      exact Or.inl ih
theorem cut_trees : ∀ (ts : List Tx) (d j c : Nat) (acc : List (DataW Unit)) (m : Nat), Tx.fits ts = true → Tx.deps ts ≤ d → j ≤ (Tx.prs ts).length → c + Tx.nums ts ≤ 400 → Tx.nums ts ≤ m → Bad (pItems (pDatum d) (m + 1) acc (skipB false ((Tx.prs ts).take j)) c)
  | [], d, j, c, acc, m, _, _, _, _, _ => by
    simp only [Tx.prs, List.take_nil, skipB]
    exact pItems_nil d m acc c
  | [t], d, j, c, acc, m, hf, hd, hj, hc, hm => by
    simp only [Tx.fits, Bool.and_eq_true] at hf
    simp only [Tx.deps] at hd
    simp only [Tx.nums] at hc hm
    simp only [Tx.prs] at hj ⊢
    have h1 : 1 ≤ t.num := by cases t <;> simp [Tx.num]
    obtain ⟨m, rfl⟩ : ∃ e, m = e + 1 := ⟨m - 1, by omega⟩
    rw [skip_take t (fit_ok t hf.1)]
    by_cases hlt : j < t.pr.length
    · exact cut_first t d j c acc m hf.1 (cut_tree t d j c hf.1 (by omega) hlt (by omega))
    · rw [List.take_of_length_le (by omega)]
      have := read_tree t d [] c (fit_ok t hf.1) (by omega) delim_nil (by omega)
      rw [List.append_nil] at this
      unfold pItems
      rw [if_neg (by have := head_41 t (fit_ok t hf.1) []; rwa [List.append_nil] at this), this]
      exact pItems_nil d m _ _
  | t :: u :: r, d, j, c, acc, m, hf, hd, hj, hc, hm => by
    have hf' := hf
    simp only [Tx.fits, Bool.and_eq_true] at hf
    simp only [Tx.deps] at hd
    simp only [Tx.nums] at hc hm
    simp only [Tx.prs, List.length_append, List.length_cons] at hj
    have h1 : 1 ≤ t.num := by cases t <;> simp [Tx.num]
    obtain ⟨m, rfl⟩ : ∃ e, m = e + 1 := ⟨m - 1, by omega⟩
    simp only [Tx.prs]
    by_cases hlt : j < t.pr.length
    · rw [List.take_append_of_le_length (by omega), skip_take t (fit_ok t hf.1)]
      exact cut_first t d j c acc m hf.1 (cut_tree t d j c hf.1 (by omega) hlt (by omega))
    · obtain ⟨i, rfl⟩ : ∃ i, j = t.pr.length + i := ⟨j - t.pr.length, by omega⟩
      rw [List.take_length_add_append]
      have hdl : Delim ((32 :: Tx.prs (u :: r)).take i) := by
        cases i with
        | zero => rw [List.take_zero]; exact delim_nil
        | succ i => rw [List.take_succ_cons]; exact delim_blank _
      have hrt := read_tree t d ((32 :: Tx.prs (u :: r)).take i) c (fit_ok t hf.1) (by omega) hdl (by omega)
      obtain ⟨x, q, e, hx1, hx2, _⟩ := pr_head t (fit_ok t hf.1)
      have hsk : skipB false (t.pr ++ (32 :: Tx.prs (u :: r)).take i) = t.pr ++ (32 :: Tx.prs (u :: r)).take i := by rw [e]; exact skip_keep hx1 hx2
      rw [hsk]
      unfold pItems
      rw [if_neg (head_41 t (fit_ok t hf.1) _), hrt]
      simp only []
      cases i with
      | zero => rw [List.take_zero, show skipB false [] = [] from rfl]; exact pItems_nil d m _ _
      | succ i =>
        have hsk2 : skipB false ((32 :: Tx.prs (u :: r)).take (i + 1)) = skipB false ((Tx.prs (u :: r)).take i) := by
          rw [List.take_succ_cons, skipB, if_pos (by decide)]
        rw [hsk2]
        exact cut_trees (u :: r) d i (c + t.num) (acc ++ [t.dat]) m (by simp only [Tx.fits, Bool.and_eq_true]; exact hf.2) (by simp only [Tx.deps]; omega) (by omega) (by simp only [Tx.nums]; omega) (by simp only [Tx.nums]; omega)
end
end Go.Proofs.YtfhiolnoalghmaaDoor

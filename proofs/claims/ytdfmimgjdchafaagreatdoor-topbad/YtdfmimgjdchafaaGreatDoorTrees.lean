/- Texts of trees: words, quotes, lists with one blank between their items; they are read as one datum. -/
import Derived.Test.YtdfmimgjdchafaaGreatDoorParse
namespace Go.Proofs.YtdfmimgjdchafaaGreatDoor
set_option maxRecDepth 100000
inductive Tx : Type
  | w (b : List UInt8)
  | q (t : Tx)
  | l (ts : List Tx)
mutual
/-- The text. -/
def Tx.pr : Tx → List UInt8
  | .w b => b
  | .q t => 39 :: t.pr
  | .l ts => 40 :: (Tx.prs ts ++ [41])
def Tx.prs : List Tx → List UInt8
  | [] => []
  | [t] => t.pr
  | t :: u :: r => t.pr ++ (32 :: Tx.prs (u :: r))
end
/-- A word that tells something. -/
def wordOk (b : List UInt8) : Bool := !b.isEmpty && b.all inWord && (match wordT b with | .inr _ => true | .inl _ => false)
def wordD (b : List UInt8) : DataW Unit := match wordT b with | .inr t => t | .inl _ => .nil
mutual
/-- The datum. -/
def Tx.dat : Tx → DataW Unit
  | .w b => wordD b
  | .q t => quoteT t.dat
  | .l ts => .slice (Tx.dats ts) []
def Tx.dats : List Tx → List (DataW Unit)
  | [] => []
  | t :: r => t.dat :: Tx.dats r
/-- All words tell something. -/
def Tx.ok : Tx → Bool
  | .w b => wordOk b
  | .q t => t.ok
  | .l ts => Tx.oks ts
def Tx.oks : List Tx → Bool
  | [] => true
  | t :: r => t.ok && Tx.oks r
/-- How many data begin. -/
def Tx.num : Tx → Nat
  | .w _ => 1
  | .q t => t.num + 1
  | .l ts => Tx.nums ts + 1
def Tx.nums : List Tx → Nat
  | [] => 0
  | t :: r => t.num + Tx.nums r
/-- How deep. -/
def Tx.dep : Tx → Nat
  | .w _ => 1
  | .q t => t.dep + 1
  | .l ts => Tx.deps ts + 1
def Tx.deps : List Tx → Nat
  | [] => 0
  | t :: r => max t.dep (Tx.deps r)
end
/-- A word that is cut tells something, or is no word at all. -/
def cutOk (b : List UInt8) : Bool := (List.range b.length).all fun j => j == 0 || (match wordT (b.take j) with | .inr _ => true | .inl e => e == 4)
def Tx.isL : Tx → Bool
  | .l _ => true
  | _ => false
mutual
/-- All words tell something; quotes stand ahead of lists only. -/
def Tx.fit : Tx → Bool
  | .w b => wordOk b && cutOk b
  | .q t => t.isL && t.fit
  | .l ts => Tx.fits ts
def Tx.fits : List Tx → Bool
  | [] => true
  | t :: r => t.fit && Tx.fits r
end
mutual
theorem fit_ok : ∀ (t : Tx), t.fit = true → t.ok = true
  | .w b, h => by
    simp only [Tx.fit, Bool.and_eq_true] at h
    exact h.1
  | .q t, h => by
    simp only [Tx.fit, Bool.and_eq_true] at h
    exact fit_ok t h.2
  | .l ts, h => fits_ok ts h
theorem fits_ok : ∀ (ts : List Tx), Tx.fits ts = true → Tx.oks ts = true
  | [], _ => rfl
  | t :: r, h => by
    simp only [Tx.fits, Bool.and_eq_true] at h
    simp only [Tx.oks, Bool.and_eq_true]
    exact ⟨fit_ok t h.1, fits_ok r h.2⟩
end
mutual
/-- The quotes in a tree. -/
def Tx.quo : Tx → Nat
  | .w _ => 0
  | .q t => t.quo + 1
  | .l ts => Tx.quos ts
def Tx.quos : List Tx → Nat
  | [] => 0
  | t :: r => t.quo + Tx.quos r
end
mutual
/-- Each datum takes a byte at least, and each quote. -/
theorem num_le : ∀ (t : Tx), t.fit = true → t.num + t.quo ≤ t.pr.length
  | .w b, h => by
    simp only [Tx.fit, wordOk, Bool.and_eq_true] at h
    simp only [Tx.num, Tx.quo, Tx.pr]
    cases b with
    | nil => simp at h
    | cons x r => simp
  | .q (.l ts), h => by
    simp only [Tx.fit, Bool.and_eq_true] at h
    have := nums_le ts h.2
    simp only [Tx.num, Tx.quo, Tx.pr, List.length_cons, List.length_append, List.length_nil]
    omega
  | .q (.w b), h => by simp [Tx.fit, Tx.isL] at h
  | .q (.q t), h => by simp [Tx.fit, Tx.isL] at h
  | .l ts, h => by
    have := nums_le ts h
    simp only [Tx.num, Tx.quo, Tx.pr, List.length_cons, List.length_append, List.length_nil]
    omega
theorem nums_le : ∀ (ts : List Tx), Tx.fits ts = true → Tx.nums ts + Tx.quos ts ≤ (Tx.prs ts).length
  | [], _ => by simp [Tx.nums, Tx.quos, Tx.prs]
  | [t], h => by
    simp only [Tx.fits, Bool.and_eq_true] at h
    have := num_le t h.1
    simp only [Tx.nums, Tx.quos, Tx.prs]
    omega
  | t :: u :: r, h => by
    simp only [Tx.fits, Bool.and_eq_true] at h
    have h1 := num_le t h.1
    have h2 := nums_le (u :: r) (by simp [Tx.fits, h.2])
    simp only [Tx.nums, Tx.quos, Tx.prs, List.length_append, List.length_cons] at h2 ⊢
    omega
end
/-- What may stand behind a word. -/
def Delim (r : List UInt8) : Prop := ∀ x q, r = x :: q → inWord x = false
theorem delim_nil : Delim [] := fun x q h => by cases h
theorem delim_close (r : List UInt8) : Delim (41 :: r) := fun x q h => by injection h with h _; subst h; rfl
theorem delim_blank (r : List UInt8) : Delim (32 :: r) := fun x q h => by injection h with h _; subst h; rfl
theorem skip_keep {x : UInt8} {r : List UInt8} (h1 : blankI x.toNat = false) (h2 : ¬ x.toNat = 59) : skipB false (x :: r) = x :: r := by simp [skipB, h1, h2]
theorem inWord_parts {x : UInt8} (h : inWord x = true) : blankI x.toNat = false ∧ ¬ x.toNat = 59 ∧ ¬ x.toNat = 40 ∧ ¬ x.toNat = 41 ∧ ¬ x.toNat = 39 := by
  have e : endsI x.toNat = false := by unfold inWord at h; simpa using h
  unfold endsI at e
  simp only [Bool.or_eq_false_iff, beq_eq_false_iff_ne] at e
  obtain ⟨e1, ⟨⟨e2, e3⟩, e4⟩, e5⟩ := e
  exact ⟨e1, by omega, by omega, by omega, by omega⟩
/-- The first byte of a tree's text is no blank, no remark, no closing one. -/
theorem pr_head (t : Tx) (h : t.ok = true) : ∃ x r, t.pr = x :: r ∧ blankI x.toNat = false ∧ ¬ x.toNat = 59 ∧ ¬ x.toNat = 41 := by
  cases t with
  | w b =>
    simp only [Tx.ok, wordOk] at h
    cases b with
    | nil => simp at h
    | cons x r =>
      simp only [List.all_cons, Bool.and_eq_true] at h
      obtain ⟨h1, h2, _, h3, _⟩ := inWord_parts h.1.2.1
      exact ⟨x, r, by simp [Tx.pr], h1, h2, h3⟩
  | q t => exact ⟨39, t.pr, by simp [Tx.pr], rfl, by decide, by decide⟩
  | l ts => exact ⟨40, Tx.prs ts ++ [41], by simp [Tx.pr], rfl, by decide, by decide⟩
theorem takeWhile_word {b r : List UInt8} (hb : b.all inWord = true) (hr : Delim r) : (b ++ r).takeWhile inWord = b ∧ (b ++ r).dropWhile inWord = r := by
  induction b with
  | nil =>
    cases r with
    | nil => simp
    | cons x q => have := hr x q rfl; simp [this]
  | cons x b ih =>
    simp only [List.all_cons, Bool.and_eq_true] at hb
    obtain ⟨h1, h2⟩ := ih hb.2
    simp [hb.1, h1, h2]
theorem pItems_shut (p : List UInt8 → Nat → Res) (m : Nat) (acc : List (DataW Unit)) (r : List UInt8) (c : Nat) : pItems p (m + 1) acc (41 :: r) c = .inr (.slice acc [], r, c) := by
  simp [pItems]
mutual
/-- A TREE's TEXT IS READ AS ITS DATUM. -/
theorem read_tree : ∀ (t : Tx) (d : Nat) (r : List UInt8) (c : Nat), t.ok = true → t.dep ≤ d → Delim r → c + t.num ≤ 400 → pDatum d (t.pr ++ r) c = .inr (t.dat, r, c + t.num)
  | .w b, d, r, c, hok, hd, hr, hc => by
    obtain ⟨x, b', e, h1, h2, h3⟩ := pr_head (.w b) hok
    simp only [Tx.pr] at e
    subst e
    obtain ⟨d', rfl⟩ : ∃ d', d = d' + 1 := ⟨d - 1, by simp [Tx.dep] at hd; omega⟩
    simp only [Tx.ok, wordOk, Bool.and_eq_true] at hok
    obtain ⟨⟨_, hall⟩, hw⟩ := hok
    simp only [List.all_cons, Bool.and_eq_true] at hall
    obtain ⟨_, _, h40, _, h39⟩ := inWord_parts hall.1
    simp only [Tx.num] at hc
    obtain ⟨ht, hdw⟩ := takeWhile_word (b := x :: b') (r := r) (by simp [hall]) hr
    have hsk : skipB false (Tx.pr (.w (x :: b')) ++ r) = x :: (b' ++ r) := by simp only [Tx.pr, List.cons_append]; exact skip_keep h1 h2
    unfold pDatum
    rw [hsk]
    simp only []
    rw [if_neg (by omega), if_neg h3, if_neg h40, if_neg h39]
    unfold pWord
    rw [show x :: (b' ++ r) = (x :: b') ++ r from rfl, ht, hdw]
    simp only [Tx.dat, wordD, Tx.num]
    cases hwt : wordT (x :: b') with
    | inl e => rw [hwt] at hw; simp at hw
    | inr t => rfl
  | .q t, d, r, c, hok, hd, hr, hc => by
    obtain ⟨d', rfl⟩ : ∃ d', d = d' + 1 := ⟨d - 1, by simp [Tx.dep] at hd; omega⟩
    simp only [Tx.dep] at hd
    simp only [Tx.num] at hc
    simp only [Tx.ok] at hok
    have ih := read_tree t d' r (c + 1) hok (by omega) hr (by omega)
    have hsk : skipB false (Tx.pr (.q t) ++ r) = 39 :: (t.pr ++ r) := by simp only [Tx.pr, List.cons_append]; exact skip_keep rfl (by decide)
    unfold pDatum
    rw [hsk]
    simp only []
    rw [if_neg (by omega), if_neg (by decide), if_neg (by decide), if_pos (by decide), ih]
    simp only [pQuote, Tx.dat, Tx.num]
    rw [show c + 1 + t.num = c + (t.num + 1) from by omega]
  | .l ts, d, r, c, hok, hd, hr, hc => by
    obtain ⟨d', rfl⟩ : ∃ d', d = d' + 1 := ⟨d - 1, by simp [Tx.dep] at hd; omega⟩
    simp only [Tx.dep] at hd
    simp only [Tx.num] at hc
    simp only [Tx.ok] at hok
    have hsk : skipB false (Tx.pr (.l ts) ++ r) = 40 :: (Tx.prs ts ++ (41 :: r)) := by
      simp only [Tx.pr, List.cons_append, List.append_assoc]; exact skip_keep rfl (by decide)
    have ih := read_trees ts d' r (c + 1) [] 401 hok (by omega) (by omega) (by omega)
    unfold pDatum
    rw [hsk]
    simp only []
    rw [if_neg (by omega), if_neg (by decide), if_pos (by decide), ih]
    simp only [Tx.dat, Tx.num, List.nil_append]
    rw [show c + 1 + Tx.nums ts = c + (Tx.nums ts + 1) from by omega]
theorem read_trees : ∀ (ts : List Tx) (d : Nat) (r : List UInt8) (c : Nat) (acc : List (DataW Unit)) (m : Nat), Tx.oks ts = true → Tx.deps ts ≤ d → c + Tx.nums ts ≤ 400 → Tx.nums ts + 1 ≤ m →
    pItems (pDatum d) m acc (skipB false (Tx.prs ts ++ (41 :: r))) c = .inr (.slice (acc ++ Tx.dats ts) [], r, c + Tx.nums ts)
  | [], d, r, c, acc, m, _, _, _, hm => by
    obtain ⟨m', rfl⟩ : ∃ m', m = m' + 1 := ⟨m - 1, by omega⟩
    have hsk : skipB false (Tx.prs [] ++ (41 :: r)) = 41 :: r := by simp only [Tx.prs, List.nil_append]; exact skip_keep rfl (by decide)
    rw [hsk, pItems_shut]
    simp [Tx.dats, Tx.nums]
  | [t], d, r, c, acc, m, hok, hd, hc, hm => by
    simp only [Tx.oks, Bool.and_eq_true] at hok
    simp only [Tx.nums] at hc hm
    simp only [Tx.deps] at hd
    obtain ⟨m', rfl⟩ : ∃ m', m = m' + 1 := ⟨m - 1, by omega⟩
    have ht1 : 1 ≤ t.num := by cases t <;> simp [Tx.num]
    obtain ⟨m'', rfl⟩ : ∃ m'', m' = m'' + 1 := ⟨m' - 1, by omega⟩
    obtain ⟨x, q, e, h1, h2, h3⟩ := pr_head t hok.1
    have ih := read_tree t d (41 :: r) c hok.1 (by omega) (delim_close r) (by omega)
    have hsk : skipB false (Tx.prs [t] ++ (41 :: r)) = t.pr ++ (41 :: r) := by simp only [Tx.prs, e, List.cons_append]; exact skip_keep h1 h2
    rw [hsk]
    unfold pItems
    rw [if_neg (by rw [e]; simp; omega), ih]
    simp only []
    rw [skip_keep rfl (by decide), pItems_shut]
    simp [Tx.dats, Tx.nums]
  | t :: u :: ts, d, r, c, acc, m, hok, hd, hc, hm => by
    simp only [Tx.oks, Bool.and_eq_true] at hok
    simp only [Tx.nums] at hc hm
    simp only [Tx.deps] at hd
    obtain ⟨m', rfl⟩ : ∃ m', m = m' + 1 := ⟨m - 1, by omega⟩
    have ht1 : 1 ≤ t.num := by cases t <;> simp [Tx.num]
    obtain ⟨x, q, e, h1, h2, h3⟩ := pr_head t hok.1
    have ih := read_tree t d (32 :: (Tx.prs (u :: ts) ++ (41 :: r))) c hok.1 (by omega) (delim_blank _) (by omega)
    have ihs := read_trees (u :: ts) d r (c + t.num) (acc ++ [t.dat]) m' (by simp [Tx.oks, hok.2]) (by simp only [Tx.deps]; omega) (by simp only [Tx.nums]; omega) (by simp only [Tx.nums]; omega)
    have hsk : skipB false (Tx.prs (t :: u :: ts) ++ (41 :: r)) = t.pr ++ (32 :: (Tx.prs (u :: ts) ++ (41 :: r))) := by simp only [Tx.prs, e, List.cons_append, List.append_assoc]; exact skip_keep h1 h2
    have hsk2 : skipB false (32 :: (Tx.prs (u :: ts) ++ (41 :: r))) = skipB false (Tx.prs (u :: ts) ++ (41 :: r)) := by
      rw [skipB, if_pos (show blankI ((32 : UInt8).toNat : Int) = true from by decide)]
    rw [hsk]
    unfold pItems
    rw [if_neg (by rw [e]; simp; omega), ih]
    simp only []
    rw [hsk2, ihs]
    simp only [Tx.dats, Tx.nums, List.append_assoc, List.singleton_append]
    rw [Nat.add_assoc]
end
end Go.Proofs.YtdfmimgjdchafaaGreatDoor

/- The document's answer on a number, and the code's: the same. -/
import Derived.Test.YtmgpppijildccaaDoorNum
namespace Go.Proofs.YtmgpppijildccaaDoor
def minus (w : List UInt8) : Bool := w.head?.map UInt8.toNat == some 45
def bodyOf (w : List UInt8) : List UInt8 := if minus w = true then w.tail else w
def satFrom (a : Nat) (l : List UInt8) : Nat := l.foldl (fun n c => if n < 1125899906842624 then 10 * n + (c.toNat - 48) else n) a
def wholeB (w : List UInt8) : Bool := !(bodyOf w).isEmpty && !((bodyOf w).head?.map UInt8.toNat == some 48 && !(w == [48])) && (bodyOf w).all dgt
def mostOf (w : List UInt8) : List UInt8 := if minus w = true then [57, 50, 50, 51, 51, 55, 50, 48, 51, 54, 56, 53, 52, 55, 55, 53, 56, 48, 56] else [57, 50, 50, 51, 51, 55, 50, 48, 51, 54, 56, 53, 52, 55, 55, 53, 56, 48, 55]
def fitsB (w : List UInt8) : Bool := decide ((bodyOf w).length < 19) || (decide ((bodyOf w).length = 19) && !Op.bytesLess (mostOf w) (bodyOf w))
def refT (w : List UInt8) : Int ⊕ DataW Unit :=
  if (wholeB w && fitsB w) = true then (if 1099511627776 < satFrom 0 (bodyOf w) then .inl 2 else .inr (.lit (.int .i64 (if minus w = true then -(satFrom 0 (bodyOf w) : Int) else satFrom 0 (bodyOf w))))) else .inl 4
theorem satFrom_nil (a : Nat) : satFrom a [] = a := List.foldl_nil
theorem satFrom_cons (a : Nat) (c : UInt8) (r : List UInt8) : satFrom a (c :: r) = satFrom (if a < 1125899906842624 then 10 * a + (c.toNat - 48) else a) r := List.foldl_cons ..
theorem sat_stays (l : List UInt8) : ∀ a : Nat, ¬ a < 1125899906842624 → satFrom a l = a := by
  induction l with
  | nil => intro a _; exact satFrom_nil a
  | cons c r ih => intro a h; rw [satFrom_cons, if_neg h]; exact ih a h
theorem sat_val (l : List UInt8) : ∀ a : Nat, (valFrom a l < 1125899906842624 → satFrom a l = valFrom a l) ∧ (¬ valFrom a l < 1125899906842624 → ¬ satFrom a l < 1125899906842624) := by
  induction l with
  | nil => intro a; rw [satFrom_nil, valFrom_nil]; exact ⟨fun _ => rfl, fun h => h⟩
  | cons c r ih =>
    intro a
    have hle := valFrom_le (c :: r) a
    by_cases h : a < 1125899906842624
    · rw [satFrom_cons, if_pos h, valFrom_cons, Nat.mul_comm 10 a]
      exact ih _
    · rw [sat_stays _ a h]
      exact ⟨fun hh => by omega, fun _ => h⟩
theorem less_val : ∀ (x y : List UInt8), x.length = y.length → x.all dgt = true → y.all dgt = true → Op.bytesLess x y = decide (valFrom 0 x < valFrom 0 y)
  | [], [], _, _, _ => by simp [Op.bytesLess, valFrom_nil]
  | [], _ :: _, h, _, _ => by simp at h
  | _ :: _, [], h, _, _ => by simp at h
  | a :: x, b :: y, h, hx, hy => by
    have hl : x.length = y.length := by simpa using h
    rw [List.all_cons, Bool.and_eq_true] at hx hy
    have ha := (dgt_iff a).1 hx.1
    have hb := (dgt_iff b).1 hy.1
    have vx := valFrom_lt x hx.2
    have vy := valFrom_lt y hy.2
    rw [← hl] at vy
    rw [valFrom_cons, valFrom_cons, valFrom_split x, valFrom_split y, ← hl]
    simp only [Op.bytesLess]
    rw [less_val x y hl hx.2 hy.2]
    generalize valFrom 0 x = X at vx
    generalize valFrom 0 y = Y at vy
    generalize 10 ^ x.length = P at vx vy
    by_cases hlt : a.toNat < b.toNat
    · have h1 : (a < b) := UInt8.lt_iff_toNat_lt.2 hlt
      have h2 : (0 * 10 + (a.toNat - 48) + 1) * P ≤ (0 * 10 + (b.toNat - 48)) * P := Nat.mul_le_mul_right _ (by omega)
      rw [Nat.add_mul] at h2
      simp only [h1, decide_true, Bool.true_or]
      exact (decide_eq_true (by omega)).symm
    · by_cases heq : a.toNat = b.toNat
      · have h1 : a = b := UInt8.toNat_inj.1 heq
        subst h1
        have h2 : ¬ a < a := by rw [UInt8.lt_iff_toNat_lt]; omega
        simp [h2]
      · have h1 : ¬ a < b := by rw [UInt8.lt_iff_toNat_lt]; omega
        have h2 : ¬ a = b := fun e => heq (by rw [e])
        have h3 : (0 * 10 + (b.toNat - 48) + 1) * P ≤ (0 * 10 + (a.toNat - 48)) * P := Nat.mul_le_mul_right _ (by omega)
        rw [Nat.add_mul] at h3
        rw [decide_eq_false h1, show (a == b) = false from by simp [h2], Bool.false_or, Bool.false_and]
        exact (decide_eq_false (by omega)).symm
theorem most_val (w : List UInt8) : (mostOf w).all dgt = true ∧ (mostOf w).length = 19 ∧ valFrom 0 (mostOf w) = if minus w = true then 9223372036854775808 else 9223372036854775807 := by
  unfold mostOf
  split <;> decide
theorem canon_low (l : List UInt8) (h : Canon l) : 1 < l.length → 10 ^ (l.length - 1) ≤ valFrom 0 l := by
  intro h1
  rcases h.2.2 with h2 | ⟨c, r, rfl, hc⟩
  · subst h2; simp at h1
  · have hd := h.2.1
    rw [List.all_cons, Bool.and_eq_true] at hd
    have hcd := (dgt_iff c).1 hd.1
    rw [valFrom_cons, valFrom_split]
    have : 1 * 10 ^ r.length ≤ (0 * 10 + (c.toNat - 48)) * 10 ^ r.length := Nat.mul_le_mul_right _ (by omega)
    simp only [List.length_cons, Nat.add_sub_cancel]
    omega
theorem fits_val (w : List UInt8) (h : Canon (bodyOf w)) : fitsB w = decide (valFrom 0 (bodyOf w) ≤ if minus w = true then 9223372036854775808 else 9223372036854775807) := by
  obtain ⟨m1, m2, m3⟩ := most_val w
  have hlim : (if minus w = true then 9223372036854775808 else 9223372036854775807 : Nat) ≤ 9223372036854775808 ∧ 9223372036854775807 ≤ (if minus w = true then 9223372036854775808 else 9223372036854775807 : Nat) := by split <;> omega
  generalize (if minus w = true then 9223372036854775808 else 9223372036854775807 : Nat) = L at m3 hlim
  have hv := valFrom_lt _ h.2.1
  unfold fitsB
  by_cases h1 : (bodyOf w).length < 19
  · have : 10 ^ (bodyOf w).length ≤ 10 ^ 18 := Nat.pow_le_pow_right (by omega) (by omega)
    rw [decide_eq_true h1, Bool.true_or]
    exact (decide_eq_true (by omega)).symm
  · by_cases h2 : (bodyOf w).length = 19
    · rw [decide_eq_false h1, decide_eq_true h2, less_val _ _ (by rw [m2, h2]) m1 h.2.1, m3, Bool.eq_iff_iff]
      simp
    · have h3 := canon_low _ h (by omega)
      have : 10 ^ 19 ≤ 10 ^ ((bodyOf w).length - 1) := Nat.pow_le_pow_right (by omega) (by omega)
      rw [decide_eq_false h1, decide_eq_false h2]
      simp
      omega
theorem whole_canon (w : List UInt8) (h : wholeB w = true) : Canon (bodyOf w) ∧ (minus w = true → 1 ≤ valFrom 0 (bodyOf w)) := by
  unfold wholeB at h
  rw [Bool.and_eq_true, Bool.and_eq_true] at h
  obtain ⟨⟨h1, h2⟩, h3⟩ := h
  cases hb : bodyOf w with
  | nil => rw [hb] at h1; simp at h1
  | cons c r =>
    rw [hb] at h2 h3
    by_cases hc : c.toNat = 48
    · simp [hc] at h2
      subst h2
      have hm : bodyOf [48] = [48] := by decide
      rw [hm] at hb
      rw [← hb]
      exact ⟨⟨by simp, by decide, Or.inl rfl⟩, fun e => absurd e (by decide)⟩
    · exact ⟨⟨by simp, h3, Or.inr ⟨c, r, rfl, hc⟩⟩, fun _ => val_pos _ h3 ⟨c, r, rfl, hc⟩⟩
theorem parseMag_val (d : List UInt8) (h : Canon d) : Lib.parseMag d = if valFrom 0 d < 18446744073709551616 then .ok (valFrom 0 d) else .range := by
  unfold Lib.parseMag
  rw [if_neg h.1]
  have hp := parse_digits d 0 h.2.1 (by omega)
  split
  · exact hp.1 ‹_›
  · exact hp.2 ‹_›
theorem minus_cons (w : List UInt8) (h : minus w = true) : w = 45 :: bodyOf w := by
  unfold bodyOf
  rw [if_pos h]
  cases w with
  | nil => simp [minus] at h
  | cons c r =>
    simp [minus] at h
    rw [show c = 45 from UInt8.toNat_inj.1 (by simpa using h)]
    rfl
theorem plain_body (w : List UInt8) (h : ¬ minus w = true) : bodyOf w = w := by unfold bodyOf; rw [if_neg h]
theorem atoi_whole (w : List UInt8) (h : wholeB w = true) : (fitsB w = true → Lib.atoiAll w = .ok (if minus w = true then -(valFrom 0 (bodyOf w) : Int) else valFrom 0 (bodyOf w))) ∧ (¬ fitsB w = true → ∀ v, ¬ Lib.atoiAll w = .ok v) := by
  obtain ⟨hc, hm⟩ := whole_canon w h
  rw [fits_val w hc]
  have hp := parseMag_val _ hc
  by_cases hs : minus w = true
  · rw [if_pos hs]
    have hw := minus_cons w hs
    generalize bodyOf w = d at *
    subst hw
    rw [Lib.atoiAll_minus, hp, if_pos hs]
    generalize valFrom 0 d = V at *
    constructor
    · intro hv
      have hv' : V ≤ 9223372036854775808 := of_decide_eq_true hv
      rw [if_pos (by omega)]
      simp only [Lib.signed]
      rw [if_neg (by omega)]
    · intro hv v
      have hv' : ¬ V ≤ 9223372036854775808 := fun e => hv (decide_eq_true e)
      split
      · simp only [Lib.signed]
        rw [if_pos (by omega)]
        intro e; cases e
      · simp only [Lib.signed]
        intro e; cases e
  · rw [if_neg hs]
    have hw := plain_body w hs
    rw [hw] at hc hp ⊢
    obtain ⟨hne, hd, _⟩ := hc
    cases w with
    | nil => exact absurd rfl hne
    | cons c r =>
      rw [List.all_cons, Bool.and_eq_true] at hd
      have hcd := (dgt_iff c).1 hd.1
      rw [Lib.atoiAll_plain c r (by omega) (by omega), hp, if_neg hs]
      generalize valFrom 0 (c :: r) = V at *
      constructor
      · intro hv
        have hv' : V ≤ 9223372036854775807 := of_decide_eq_true hv
        rw [if_pos (by omega)]
        simp only [Lib.signless]
        rw [if_neg (by omega)]
      · intro hv v
        have hv' : ¬ V ≤ 9223372036854775807 := fun e => hv (decide_eq_true e)
        split
        · simp only [Lib.signless]
          rw [if_pos (by omega)]
          intro e; cases e
        · simp only [Lib.signless]
          intro e; cases e
theorem itoa_whole (w : List UInt8) (h : wholeB w = true) : Lib.itoa (if minus w = true then -(valFrom 0 (bodyOf w) : Int) else valFrom 0 (bodyOf w)) = w := by
  obtain ⟨hc, hm⟩ := whole_canon w h
  have hd := decDigits_val _ hc
  by_cases hs : minus w = true
  · have := hm hs
    rw [if_pos hs]
    unfold Lib.itoa
    rw [if_pos (by omega), Int.natAbs_neg, Int.natAbs_natCast, hd]
    exact (minus_cons w hs).symm
  · rw [if_neg hs]
    unfold Lib.itoa
    rw [if_neg (by omega), Int.toNat_natCast, hd]
    exact plain_body w hs
theorem whole_itoa (v : Int) : wholeB (Lib.itoa v) = true := by
  unfold Lib.itoa
  by_cases hv : v < 0
  · rw [if_pos hv]
    obtain ⟨hc, _, h3⟩ := decDigits_canon v.natAbs
    obtain ⟨c, r, he, hx⟩ := h3 (by omega)
    have hb : bodyOf (45 :: Lib.decDigits v.natAbs) = Lib.decDigits v.natAbs := by unfold bodyOf; rw [if_pos (by simp [minus])]; rfl
    unfold wholeB
    rw [hb, hc.2.1, he]
    simp [hx]
  · rw [if_neg hv]
    obtain ⟨hc, _, _⟩ := decDigits_canon v.toNat
    have hm : ¬ minus (Lib.decDigits v.toNat) = true := by
      rcases hc.2.2 with h | ⟨c, r, h, _⟩
      · rw [h]; decide
      · have hd := hc.2.1
        rw [h, List.all_cons, Bool.and_eq_true] at hd
        have := (dgt_iff c).1 hd.1
        rw [h]; simp [minus]; omega
    unfold wholeB
    rw [plain_body _ hm, hc.2.1]
    rcases hc.2.2 with h | ⟨c, r, h, hx⟩
    · rw [h]; decide
    · rw [h]; simp [hx]
theorem numT_ref (w : List UInt8) : numT w = refT w := by
  unfold refT
  by_cases h : wholeB w = true
  · obtain ⟨h1, h2⟩ := atoi_whole w h
    rw [h, Bool.true_and]
    by_cases hf : fitsB w = true
    · rw [if_pos hf]
      unfold numT
      rw [h1 hf]
      simp only
      rw [if_pos (itoa_whole w h)]
      have hsat := sat_val (bodyOf w) 0
      generalize hV : valFrom 0 (bodyOf w) = V at hsat
      by_cases hg : 1099511627776 < satFrom 0 (bodyOf w)
      · rw [if_pos hg, if_neg]
        have : 1099511627776 < V := by
          by_cases hb : V < 1125899906842624
          · rw [hsat.1 hb] at hg; exact hg
          · omega
        unfold inI
        split <;> simp <;> omega
      · have hb : V < 1125899906842624 := by
          by_cases hb : V < 1125899906842624
          · exact hb
          · exact absurd (hsat.2 hb) (by omega)
        have e := hsat.1 hb
        rw [if_neg hg, e]
        rw [e] at hg
        rw [if_pos]
        unfold inI
        split <;> simp <;> omega
    · rw [if_neg hf]
      unfold numT
      split
      · exact absurd ‹_› (h2 hf _)
      · rfl
  · rw [Bool.eq_false_iff.2 h, Bool.false_and, if_neg (by simp)]
    unfold numT
    split
    · rename_i v hv
      rw [if_neg]
      intro e
      exact h (by rw [← e]; exact whole_itoa v)
    · rfl
end Go.Proofs.YtmgpppijildccaaDoor

/- Decimal digits: what the library's Atoi and Itoa say of a word, and what the document's answer says of it, are the same. -/
import Derived.Test.YtmgpppijildccaaDoorParse
import Derived.Lib.AtoiAllCases
namespace Go.Proofs.YtmgpppijildccaaDoor
def dgt (c : UInt8) : Bool := decide (48 ≤ c.toNat) && decide (c.toNat ≤ 57)
def valFrom (a : Nat) (l : List UInt8) : Nat := l.foldl (fun n c => n * 10 + (c.toNat - 48)) a
theorem dgt_iff (c : UInt8) : dgt c = true ↔ 48 ≤ c.toNat ∧ c.toNat ≤ 57 := by simp [dgt]
theorem valFrom_nil (a : Nat) : valFrom a [] = a := List.foldl_nil
theorem valFrom_cons (a : Nat) (c : UInt8) (r : List UInt8) : valFrom a (c :: r) = valFrom (a * 10 + (c.toNat - 48)) r := List.foldl_cons ..
theorem valFrom_snoc (l : List UInt8) : ∀ (a : Nat) (c : UInt8), valFrom a (l ++ [c]) = valFrom a l * 10 + (c.toNat - 48) := by
  induction l with
  | nil => intro a c; rw [List.nil_append, valFrom_cons, valFrom_nil, valFrom_nil]
  | cons x r ih => intro a c; rw [List.cons_append, valFrom_cons, valFrom_cons, ih]
theorem valFrom_split (l : List UInt8) : ∀ a : Nat, valFrom a l = a * 10 ^ l.length + valFrom 0 l := by
  induction l with
  | nil => intro a; rw [valFrom_nil, valFrom_nil, List.length_nil, Nat.pow_zero, Nat.mul_one, Nat.add_zero]
  | cons c r ih =>
    intro a
    rw [valFrom_cons, valFrom_cons, ih (a * 10 + (c.toNat - 48)), ih (0 * 10 + (c.toNat - 48)), List.length_cons, Nat.pow_succ, Nat.add_mul, Nat.zero_mul, Nat.zero_add, Nat.mul_assoc, Nat.mul_comm 10, Nat.add_assoc]
theorem valFrom_le : ∀ (l : List UInt8) (a : Nat), a ≤ valFrom a l
  | [], a => by rw [valFrom_nil]; exact Nat.le_refl _
  | c :: r, a => by rw [valFrom_cons]; have := valFrom_le r (a * 10 + (c.toNat - 48)); omega
theorem valFrom_lt : ∀ (l : List UInt8), l.all dgt = true → valFrom 0 l < 10 ^ l.length
  | [], _ => by rw [valFrom_nil]; exact Nat.one_pos
  | c :: r, h => by
    simp at h
    have h1 := (dgt_iff c).1 h.1
    have ih := valFrom_lt r (by simpa using h.2)
    rw [valFrom_cons, List.length_cons, valFrom_split r (0 * 10 + (c.toNat - 48)), Nat.pow_succ]
    have : (0 * 10 + (c.toNat - 48)) * 10 ^ r.length ≤ 9 * 10 ^ r.length := Nat.mul_le_mul_right _ (by omega)
    omega
theorem parse_digits (l : List UInt8) : ∀ a : Nat, l.all dgt = true → a < 18446744073709551616 → (valFrom a l < 18446744073709551616 → Lib.parseUint10 a l = .ok (valFrom a l)) ∧ (¬ valFrom a l < 18446744073709551616 → Lib.parseUint10 a l = .range) := by
  induction l with
  | nil => intro a _ ha; exact ⟨fun _ => rfl, fun h => absurd ha h⟩
  | cons c r ih =>
    intro a h ha
    simp at h
    have h1 := (dgt_iff c).1 h.1
    have hle := valFrom_le r (a * 10 + (c.toNat - 48))
    rw [valFrom_cons]
    by_cases hb : 1844674407370955162 ≤ a
    · refine ⟨fun hh => by omega, fun _ => ?_⟩
      simp only [Lib.parseUint10]
      rw [if_pos h1, if_pos hb]
    · by_cases hb2 : 18446744073709551616 ≤ a * 10 + (c.toNat - 48)
      · refine ⟨fun hh => by omega, fun _ => ?_⟩
        simp only [Lib.parseUint10]
        rw [if_pos h1, if_neg hb, if_pos hb2]
      · have ih' := ih (a * 10 + (c.toNat - 48)) (by simpa using h.2) (by omega)
        have e : Lib.parseUint10 a (c :: r) = Lib.parseUint10 (a * 10 + (c.toNat - 48)) r := by
          simp only [Lib.parseUint10]
          rw [if_pos h1, if_neg hb, if_neg hb2]
        rw [e]
        exact ih'
theorem parse_ok_digits : ∀ (l : List UInt8) (a u : Nat), Lib.parseUint10 a l = .ok u → l.all dgt = true
  | [], _, _, _ => rfl
  | c :: r, a, u, h => by
    simp only [Lib.parseUint10] at h
    split at h
    · rename_i h1
      split at h
      · cases h
      · split at h
        · cases h
        · simp [(dgt_iff c).2 h1]
          simpa using parse_ok_digits r _ u h
    · cases h
/-- Digits without a further zero ahead. -/
def Canon (l : List UInt8) : Prop := ¬ l = [] ∧ l.all dgt = true ∧ (l = [48] ∨ ∃ c r, l = c :: r ∧ ¬ c.toNat = 48)
theorem dig_byte (c : UInt8) (h : dgt c = true) : UInt8.ofNat (48 + (c.toNat - 48)) = c := by
  have h1 := (dgt_iff c).1 h
  rw [show 48 + (c.toNat - 48) = c.toNat from by omega]
  exact UInt8.ofNat_toNat
theorem dig_of (n : Nat) (h : n < 10) : dgt (UInt8.ofNat (48 + n)) = true ∧ (UInt8.ofNat (48 + n)).toNat = 48 + n := by
  have : (UInt8.ofNat (48 + n)).toNat = 48 + n := by
    rw [UInt8.toNat_ofNat']; omega
  exact ⟨(dgt_iff _).2 (by omega), this⟩
theorem val_pos (l : List UInt8) (h : l.all dgt = true) (hh : ∃ c r, l = c :: r ∧ ¬ c.toNat = 48) : 1 ≤ valFrom 0 l := by
  obtain ⟨c, r, rfl, hc⟩ := hh
  simp at h
  have h1 := (dgt_iff c).1 h.1
  rw [valFrom_cons]
  have := valFrom_le r (0 * 10 + (c.toNat - 48))
  omega
theorem decDigits_val (l : List UInt8) : Canon l → Lib.decDigits (valFrom 0 l) = l := by
  induction hn : l.length using Nat.strongRecOn generalizing l with
  | _ n ih =>
    rintro ⟨hne, hd, hz⟩
    have hl : l = l.dropLast ++ [l.getLast hne] := (List.dropLast_concat_getLast hne).symm
    generalize l.dropLast = i at hl
    generalize l.getLast hne = c at hl
    have hcd : dgt c = true := by
      have := List.all_eq_true.1 hd c (by rw [hl]; simp)
      exact this
    have h1 := (dgt_iff c).1 hcd
    have hid : i.all dgt = true := by rw [hl, List.all_append] at hd; simp only [Bool.and_eq_true] at hd; exact hd.1
    rw [hl, valFrom_snoc]
    cases i with
    | nil =>
      rw [valFrom_nil, Nat.zero_mul, Nat.zero_add, List.nil_append, Lib.decDigits_one (by omega), dig_byte c hcd]
    | cons x r =>
      have hx : ¬ x.toNat = 48 := by
        rcases hz with hz | ⟨y, q, hy, hyn⟩
        · rw [hz] at hl; simp at hl
        · rw [hl] at hy
          injection hy with h1 h2
          rw [h1]; exact hyn
      have hp := val_pos (x :: r) hid ⟨x, r, rfl, hx⟩
      have hlt : (x :: r).length < n := by rw [← hn, hl]; simp
      have ihr := ih _ hlt (x :: r) rfl ⟨by simp, hid, Or.inr ⟨x, r, rfl, hx⟩⟩
      generalize valFrom 0 (x :: r) = V at hp ihr
      rw [Lib.decDigits, dif_neg (by omega), show (V * 10 + (c.toNat - 48)) / 10 = V from by omega, show (V * 10 + (c.toNat - 48)) % 10 = c.toNat - 48 from by omega, ihr, dig_byte c hcd]
theorem decDigits_canon (n : Nat) : Canon (Lib.decDigits n) ∧ valFrom 0 (Lib.decDigits n) = n ∧ (¬ n = 0 → ∃ c r, Lib.decDigits n = c :: r ∧ ¬ c.toNat = 48) := by
  induction n using Nat.strongRecOn with
  | _ n ih =>
    by_cases h : n < 10
    · have hd := dig_of n h
      rw [Lib.decDigits_one h]
      refine ⟨⟨by simp, by rw [List.all_cons, hd.1]; rfl, ?_⟩, ?_, fun h0 => ⟨_, [], rfl, by rw [hd.2]; omega⟩⟩
      · by_cases h0 : n = 0
        · subst h0; exact Or.inl rfl
        · exact Or.inr ⟨_, [], rfl, by rw [hd.2]; omega⟩
      · rw [valFrom_cons, valFrom_nil, hd.2]; omega
    · obtain ⟨h1, h2, h3⟩ := ih (n / 10) (by omega)
      have hd := dig_of (n % 10) (by omega)
      obtain ⟨c, r, hc, hx⟩ := h3 (by omega)
      rw [Lib.decDigits, dif_neg h]
      refine ⟨⟨by simp, ?_, Or.inr ⟨c, r ++ [UInt8.ofNat (48 + n % 10)], by rw [hc]; rfl, hx⟩⟩, ?_, fun _ => ⟨c, r ++ [UInt8.ofNat (48 + n % 10)], by rw [hc]; rfl, hx⟩⟩
      · rw [List.all_append, h1.2.1, List.all_cons, hd.1]; rfl
      · rw [valFrom_snoc, h2, hd.2]; omega
end Go.Proofs.YtmgpppijildccaaDoor

/- Plain functions on bytes: what P1.4 says of a text. -/
import Derived.Test.YtdfmimgjdchafaaGreatDoorPlain
import Derived.Lib.AtoiAll
import Derived.Lib.ItoaNum
import GoSem.ClaimJoined
namespace Go.Proofs.YtdfmimgjdchafaaGreatDoor
set_option maxRecDepth 100000
def blankI (c : Int) : Bool := c == 32 || c == 10 || c == 9
def endsI (c : Int) : Bool := blankI c || (c == 40 || c == 41 || c == 59 || c == 39)
def inWord (c : UInt8) : Bool := !endsI c.toNat
def skipB : Bool → List UInt8 → List UInt8
  | _, [] => []
  | true, c :: r => if c.toNat = 10 then skipB false r else skipB true r
  | false, c :: r => if blankI c.toNat = true then skipB false r else if c.toNat = 59 then skipB true r else c :: r
def numT (w : List UInt8) : Int ⊕ DataW Unit :=
  match Lib.atoiAll w with
  | .ok n => if Lib.itoa n = w then (if inI (-1099511627776) n 1099511627776 = true then .inr (.lit (.int .i64 n)) else .inl 2) else .inl 4
  | _ => .inl 4
def wordT (w : List UInt8) : Int ⊕ DataW Unit :=
  if w = [35, 116] then .inr (.lit (.bool true)) else if w = [35, 102] then .inr (.lit (.bool false)) else if nameB w = true then .inr (.lit (.string w)) else numT w
abbrev Res : Type := (Int × List UInt8) ⊕ (DataW Unit × List UInt8 × Nat)
def pItems (p : List UInt8 → Nat → Res) : Nat → List (DataW Unit) → List UInt8 → Nat → Res
  | 0, _, r, _ => .inl (0, r)
  | m + 1, acc, r, c =>
    if r.head?.map UInt8.toNat = some 41 then .inr (.slice acc [], r.tail, c)
    else match p r c with
      | .inl e => .inl e
      | .inr (t, q, c') => pItems p m (acc ++ [t]) (skipB false q) c'
def quoteT (t : DataW Unit) : DataW Unit := .slice [.lit (.string [113, 117, 111, 116, 101]), t] []
def pQuote (o : Res) : Res :=
  match o with
  | .inl e => .inl e
  | .inr (t, q, c) => .inr (quoteT t, q, c)
def pWord (r : List UInt8) (c : Nat) : Res :=
  match wordT (r.takeWhile inWord) with
  | .inl e => .inl (e, r)
  | .inr t => .inr (t, r.dropWhile inWord, c)
def pDatum : Nat → List UInt8 → Nat → Res
  | 0, r, c => if skipB false r = [] then .inl (5, []) else if 400 ≤ c then .inl (1, skipB false r) else .inl (8, skipB false r)
  | d + 1, r, c =>
    match skipB false r with
    | [] => .inl (5, [])
    | x :: r' =>
      if 400 ≤ c then .inl (1, x :: r')
      else if x.toNat = 41 then .inl (4, x :: r')
      else if x.toNat = 40 then pItems (pDatum d) 401 [] (skipB false r') (c + 1)
      else if x.toNat = 39 then pQuote (pDatum d r' (c + 1))
      else pWord (x :: r') (c + 1)
def pAll : Nat → List (DataW Unit) → List UInt8 → Nat → (Int × List UInt8) ⊕ List (DataW Unit)
  | 0, _, r, _ => .inl (0, r)
  | m + 1, acc, r, c =>
    if r = [] then .inr acc
    else match pDatum 40 r c with
      | .inl e => .inl e
      | .inr (t, q, c') => pAll m (acc ++ [t]) (skipB false q) c'
theorem skip_suffix : ∀ (b : Bool) (r : List UInt8), skipB b r <:+ r
  | b, [] => by cases b <;> simp [skipB]
  | true, c :: r => by
    simp only [skipB]
    split
    · exact (skip_suffix false r).trans (List.suffix_cons c r)
    · exact (skip_suffix true r).trans (List.suffix_cons c r)
  | false, c :: r => by
    simp only [skipB]
    split
    · exact (skip_suffix false r).trans (List.suffix_cons c r)
    · split
      · exact (skip_suffix true r).trans (List.suffix_cons c r)
      · exact List.suffix_refl _
theorem skip_head {r : List UInt8} {x : UInt8} {q : List UInt8} : ∀ {b : Bool}, skipB b r = x :: q → blankI x.toNat = false ∧ ¬ x.toNat = 59 := by
  induction r with
  | nil => intro b h; cases b <;> simp [skipB] at h
  | cons c r ih =>
    intro b h
    cases b with
    | true =>
      simp only [skipB] at h
      split at h
      · exact ih h
      · exact ih h
    | false =>
      simp only [skipB] at h
      split at h
      · exact ih h
      · split at h
        · exact ih h
        · rename_i h1 h2
          injection h with h3 h4
          subst h3
          exact ⟨by simpa using h1, h2⟩
theorem skip_idem (r : List UInt8) : skipB false (skipB false r) = skipB false r := by
  cases h : skipB false r with
  | nil => rfl
  | cons x q =>
    obtain ⟨h1, h2⟩ := skip_head h
    simp [skipB, h1, h2]
/-- What a datum leaves: a piece of the text's end; so many more began. -/
def Good (r : List UInt8) (c : Nat) (o : Res) : Prop :=
  match o with
  | .inl (e, q) => q <:+ r ∧ ¬ e = 0
  | .inr (_, q, c') => q <:+ r ∧ c < c' ∧ c' ≤ 400
theorem wordT_err {w : List UInt8} {e : Int} (h : wordT w = .inl e) : ¬ e = 0 := by
  unfold wordT numT at h
  repeat' split at h
  all_goals first | (cases h; done) | (injection h with h; omega)
theorem pItems_good {p : List UInt8 → Nat → Res} (hp : ∀ r c, Good r c (p r c)) : ∀ (m : Nat) (acc : List (DataW Unit)) (r : List UInt8) (c : Nat), c ≤ 400 → 401 ≤ m + c →
    match pItems p m acc r c with | .inl (e, q) => q <:+ r ∧ ¬ e = 0 | .inr (_, q, c') => q <:+ r ∧ c ≤ c' ∧ c' ≤ 400
  | 0, _, _, c, h, h2 => by omega
  | m + 1, acc, r, c, h, h2 => by
    simp only [pItems]
    by_cases h41 : r.head?.map UInt8.toNat = some 41
    · rw [if_pos h41]; exact ⟨List.tail_suffix r, Nat.le_refl _, h⟩
    · rw [if_neg h41]
      have hg := hp r c
      cases ho : p r c with
      | inl e =>
        obtain ⟨e, q⟩ := e
        rw [ho] at hg
        exact hg
      | inr o =>
        obtain ⟨t, q, c'⟩ := o
        rw [ho] at hg
        obtain ⟨g1, g2, g3⟩ := hg
        have ih := pItems_good hp m (acc ++ [t]) (skipB false q) c' g3 (by omega)
        simp only
        cases hi : pItems p m (acc ++ [t]) (skipB false q) c' with
        | inl e =>
          obtain ⟨e, q'⟩ := e
          rw [hi] at ih
          exact ⟨(ih.1.trans (skip_suffix false q)).trans g1, ih.2⟩
        | inr o =>
          obtain ⟨t', q', c''⟩ := o
          rw [hi] at ih
          exact ⟨(ih.1.trans (skip_suffix false q)).trans g1, by omega, ih.2.2⟩
theorem pDatum_good : ∀ (d : Nat) (r : List UInt8) (c : Nat), Good r c (pDatum d r c)
  | 0, r, c => by
    simp only [pDatum]
    split
    · exact ⟨List.nil_suffix, by decide⟩
    · split
      · exact ⟨skip_suffix false r, by decide⟩
      · exact ⟨skip_suffix false r, by decide⟩
  | d + 1, r, c => by
    have hs := skip_suffix false r
    simp only [pDatum]
    cases h : skipB false r with
    | nil => exact ⟨List.nil_suffix, by decide⟩
    | cons x r' =>
      rw [h] at hs
      have hs' : r' <:+ r := (List.suffix_cons x r').trans hs
      simp only
      split
      · exact ⟨hs, by decide⟩
      · split
        · exact ⟨hs, by decide⟩
        · split
          · have hi := pItems_good (pDatum_good d) 401 [] (skipB false r') (c + 1) (by omega) (by omega)
            cases ho : pItems (pDatum d) 401 [] (skipB false r') (c + 1) with
            | inl e =>
              obtain ⟨e, q⟩ := e
              rw [ho] at hi
              exact ⟨(hi.1.trans (skip_suffix false r')).trans hs', hi.2⟩
            | inr o =>
              obtain ⟨t, q, c'⟩ := o
              rw [ho] at hi
              exact ⟨(hi.1.trans (skip_suffix false r')).trans hs', by omega, hi.2.2⟩
          · split
            · have hg := pDatum_good d r' (c + 1)
              cases ho : pDatum d r' (c + 1) with
              | inl e =>
                obtain ⟨e, q⟩ := e
                rw [ho] at hg
                exact ⟨hg.1.trans hs', hg.2⟩
              | inr o =>
                obtain ⟨t, q, c'⟩ := o
                rw [ho] at hg
                exact ⟨hg.1.trans hs', by have := hg.2.1; omega, hg.2.2⟩
            · unfold pWord
              cases hw : wordT ((x :: r').takeWhile inWord) with
              | inl e => exact ⟨hs, wordT_err hw⟩
              | inr t => exact ⟨(List.dropWhile_suffix _).trans hs, by omega, by omega⟩
end Go.Proofs.YtdfmimgjdchafaaGreatDoor

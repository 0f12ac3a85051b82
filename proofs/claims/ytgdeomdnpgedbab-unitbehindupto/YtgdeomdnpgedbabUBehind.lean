/- The records behind a unit, plainly: P2.4; which map tells their places; copies of texts. -/
import Derived.Test.YtgdeomdnpgedbabUList
namespace Go.Proofs.Ytgdeomdnpgedbab
open Go.RowKit Go.WideMaps Go.Maps
def pairOf (s : Sh) : ByteArray × List ByteArray := (s.name, s.fs)
def putP (r : List (ByteArray × List ByteArray)) (x : ByteArray × List ByteArray) : List (ByteArray × List ByteArray) :=
  if 0 ≤ Lib.idxOfS (r.map Prod.fst) x.1 then r.set (Lib.idxOfS (r.map Prod.fst) x.1).toNat x else r ++ [x]
def behindP (l : List (ByteArray × List ByteArray)) : List (ByteArray × List ByteArray) := l.foldl putP []
theorem behindP_snoc (l : List (ByteArray × List ByteArray)) (x : ByteArray × List ByteArray) : behindP (l ++ [x]) = putP (behindP l) x := by simp [behindP]
theorem behindP_take (L : List (ByteArray × List ByteArray)) (j : Nat) (h : j < L.length) : behindP (L.take (j + 1)) = putP (behindP (L.take j)) L[j] := by
  rw [List.take_succ_eq_append_getElem h, behindP_snoc]
theorem putP_len (r : List (ByteArray × List ByteArray)) (x : ByteArray × List ByteArray) : (putP r x).length ≤ r.length + 1 := by
  unfold putP; split <;> simp
theorem behindP_len (l : List (ByteArray × List ByteArray)) : (behindP l).length ≤ l.length := by
  have : ∀ (l r : List (ByteArray × List ByteArray)), (l.foldl putP r).length ≤ r.length + l.length := by
    intro l
    induction l with
    | nil => intro r; simp
    | cons x t ih => intro r; have h1 := ih (putP r x); have h2 := putP_len r x; simp only [List.foldl_cons, List.length_cons]; omega
  simpa [behindP] using this l []
theorem pairs_names (l : List Sh) : (l.map pairOf).map Prod.fst = namesOf l := by simp [namesOf, pairOf, List.map_map]
/-- The place of a name among all. -/
def posA (l : List Sh) (x : ByteArray) : Int := posI l l.length x
theorem posA_eq (l : List Sh) (x : ByteArray) : posA l x = Lib.idxOfS ((l.map pairOf).map Prod.fst) x := by
  unfold posA posI; rw [pairs_names, List.take_of_length_le (by simp [namesOf])]
theorem put_set (l : List Sh) (s : Sh) (k : Nat) (hp : posA l s.name = k) : (l.set k s).map pairOf = putP (l.map pairOf) (pairOf s) := by
  unfold putP
  have e : Lib.idxOfS ((l.map pairOf).map Prod.fst) (pairOf s).1 = k := by rw [← hp, posA_eq]; rfl
  rw [e, if_pos (by omega), Int.toNat_natCast, List.map_set]
theorem put_new (l : List Sh) (s : Sh) (hp : posA l s.name = -1) : (l ++ [s]).map pairOf = putP (l.map pairOf) (pairOf s) := by
  unfold putP
  have e : Lib.idxOfS ((l.map pairOf).map Prod.fst) (pairOf s).1 = -1 := by rw [← hp, posA_eq]; rfl
  rw [e, if_neg (by omega), List.map_append]; rfl
theorem posA_cases (l : List Sh) (x : ByteArray) : posA l x = -1 ∨ ∃ k : Nat, k < l.length ∧ posA l x = k := pos_cases l l.length x (Nat.le_refl _)
theorem posA_name (l : List Sh) (x : ByteArray) (k : Nat) (h : posA l x = k) : ∃ hk : k < l.length, l[k].name = x := by
  have hm : x ∈ (namesOf l) := by
    rw [← Lib.idxOfS_nonneg_iff]; rw [posA_eq, pairs_names] at h; omega
  have gen : ∀ (zs : List ByteArray) (i k : Nat), Lib.idxFromS zs x i = ((i + k : Nat) : Int) → ∃ hk : k < zs.length, zs[k] = x := by
    intro zs
    induction zs with
    | nil => intro i k h; simp [Lib.idxFromS] at h; omega
    | cons z t ih =>
      intro i k h
      unfold Lib.idxFromS at h
      by_cases hz : z = x
      · rw [if_pos hz] at h
        obtain rfl : k = 0 := by omega
        exact ⟨by simp, hz⟩
      · rw [if_neg hz] at h
        cases k with
        | zero =>
          exfalso
          have : ∀ (zs : List ByteArray) (i : Nat), Lib.idxFromS zs x i = -1 ∨ (i : Int) ≤ Lib.idxFromS zs x i := by
            intro zs
            induction zs with
            | nil => intro i; exact Or.inl rfl
            | cons y u ih2 =>
              intro i
              unfold Lib.idxFromS
              split
              · exact Or.inr (Int.le_refl _)
              · rcases ih2 (i + 1) with h | h
                · exact Or.inl h
                · exact Or.inr (by omega)
          rcases this t (i + 1) with h' | h' <;> omega
        | succ k =>
          obtain ⟨hk, e⟩ := ih (i + 1) k (by rw [h]; congr 1; omega)
          exact ⟨by simpa using hk, by simpa using e⟩
  rw [posA_eq, pairs_names] at h
  obtain ⟨hk, e⟩ := gen (namesOf l) 0 k (by simpa [Lib.idxOfS] using h)
  exact ⟨by simpa [namesOf] using hk, by rw [← e, namesOf_get]⟩
theorem names_set (l : List Sh) (s : Sh) (k : Nat) (hk : k < l.length) (he : l[k].name = s.name) : namesOf (l.set k s) = namesOf l := by
  unfold namesOf
  rw [List.map_set, ← he, ← List.getElem_map (f := Sh.name) (h := by simpa using hk), List.set_getElem_self]
theorem posA_set (l : List Sh) (s : Sh) (k : Nat) (hk : k < l.length) (he : l[k].name = s.name) (x : ByteArray) : posA (l.set k s) x = posA l x := by
  unfold posA posI; rw [names_set l s k hk he, List.length_set]
theorem posA_snoc (l : List Sh) (s : Sh) (hp : posA l s.name = -1) (x : ByteArray) : posA (l ++ [s]) x = if x = s.name then (l.length : Int) else posA l x := by
  have hno : ∀ y, posA l y = -1 → ¬ y ∈ namesOf l := fun y hy hm => by
    rw [← Lib.idxOfS_nonneg_iff] at hm; rw [posA_eq, pairs_names] at hy; omega
  have gen : ∀ (zs : List ByteArray) (n y : ByteArray) (i : Nat), ¬ n ∈ zs → Lib.idxFromS (zs ++ [n]) y i = if y = n then ((i + zs.length : Nat) : Int) else Lib.idxFromS zs y i := by
    intro zs n y
    induction zs with
    | nil => intro i _; simp [Lib.idxFromS, eq_comm]
    | cons z t ih =>
      intro i hm
      have hz : ¬ n = z := fun e => hm (by rw [e]; exact List.mem_cons_self ..)
      have ht : ¬ n ∈ t := fun e => hm (List.mem_cons_of_mem _ e)
      simp only [List.cons_append, Lib.idxFromS]
      rw [ih (i + 1) ht]
      by_cases hy : y = n
      · subst hy
        rw [if_pos rfl, if_neg (fun e => hz e.symm), if_pos rfl]
        simp; omega
      · rw [if_neg hy, if_neg hy]
  rw [posA_eq, posA_eq, pairs_names, pairs_names]
  have e : namesOf (l ++ [s]) = namesOf l ++ [s.name] := by simp [namesOf]
  rw [e]
  unfold Lib.idxOfS
  rw [gen (namesOf l) s.name x 0 (hno _ hp)]
  simp [namesOf]
/-- The map tells each record's place. -/
structure Tells (D : DataW Unit) (l : List Sh) : Prop where
  map : IsMap D
  has : ∀ x : ByteArray, Maps.has D (.string x.data.toList) = decide (0 ≤ posA l x)
  at' : ∀ (x : ByteArray) (k : Nat), posA l x = k → D.atKey (.string x.data.toList) (.lit (.int .i64 0)) = .lit (.int .i64 k)
theorem Tells.nil : Tells (.map []) [] := ⟨isMap_empty, fun x => rfl, fun x k h => by
  have : posA [] x = -1 := rfl
  omega⟩
theorem Tells.set {D : DataW Unit} {l : List Sh} (h : Tells D l) (s : Sh) (k : Nat) (hk : k < l.length) (he : l[k].name = s.name) : Tells D (l.set k s) :=
  ⟨h.map, fun x => by rw [posA_set l s k hk he]; exact h.has x, fun x j hj => h.at' x j (by rw [posA_set l s k hk he] at hj; exact hj)⟩
theorem key_inj {x y : ByteArray} (h : Lit.string x.data.toList = Lit.string y.data.toList) : x = y := by
  injection h with h
  exact ByteArray.ext (Array.toList_inj.1 h)
theorem Tells.put {D : DataW Unit} {l : List Sh} (h : Tells D l) (s : Sh) (hp : posA l s.name = -1) : Tells (D.put (.string s.name.data.toList) (.lit (.int .i64 (l.length : Nat)))) (l ++ [s]) := by
  refine ⟨h.map.put _ _, fun x => ?_, fun x k hk => ?_⟩
  · rw [posA_snoc l s hp]
    by_cases hx : x = s.name
    · subst hx; rw [if_pos rfl, has_put_same h.map (by trivial)]; simp
    · rw [if_neg hx, has_put_other (fun e => hx (key_inj e))]; exact h.has x
  · rw [posA_snoc l s hp] at hk
    by_cases hx : x = s.name
    · subst hx; rw [if_pos rfl] at hk
      obtain rfl : k = l.length := by omega
      exact atKey_put_same (k := .string s.name.data.toList) h.map (by trivial) _ _
    · rw [if_neg hx] at hk
      rw [atKey_put_other (fun e => hx (key_inj e))]; exact h.at' x k hk
/-- Texts that a call has copied. -/
theorem strs_row {w : World} {B n : Nat} {v : Value} {ss : List ByteArray} (h : w.ownsRow B 9 1 v n (ss.map Value.string)) (hs : ∀ s ∈ ss, s.size ≤ maxLen) :
    ∃ a cap, v = .slice a n cap ∧ n = ss.length ∧ n ≤ cap ∧ n ≤ maxLen ∧ StrsS w (fun b => B ≤ b ∧ b < w.heap.size) a ss := by
  have hl : ss.length = n := by have := h.1; simpa using this
  rcases h.2 with ⟨rfl, h0⟩ | ⟨g, cap, cur, rfl, hb, hc, hn, hm, hcs, hcut⟩
  · have : ss = [] := List.length_eq_zero_iff.1 (by omega)
    subst this
    exact ⟨none, 0, by rw [h0], by simpa using h0, by omega, by omega, fun i h => absurd h (by simp)⟩
  · refine ⟨_, cap, rfl, hl.symm, hn, by omega, fun i hi => ⟨hs _ (List.getElem_mem hi), g, 0, rfl, ⟨hb, ?_⟩, ?_⟩⟩
    · rcases Nat.lt_or_ge g w.heap.size with h' | h'
      · exact h'
      · rw [Array.getElem?_eq_none h'] at hc; cases hc
    · rw [cell_of_row w g (0 + i) cur _ (0, 0) hc, Nat.zero_add]
      have e : (cur.toList.take (n * 1))[i]? = some (.string ss[i]) := by rw [hcut, List.getElem?_map, List.getElem?_eq_getElem hi]; rfl
      rw [List.getElem?_take_of_lt (by omega)] at e
      simpa using e
theorem Strs.sizes {w : World} {B : Nat} {a : Option Addr} {ss : List ByteArray} (h : Strs w B a ss) : ∀ s ∈ ss, s.size ≤ maxLen := by
  intro s hs
  obtain ⟨i, hi, rfl⟩ := List.getElem_of_mem hs
  exact (h i hi).1
theorem clone_any (B : Nat) (a : Option Addr) (ss : List ByteArray) (n cap : Nat) (w : World) (hS : Strs w B a ss) (hn : n = ss.length) (hb : n * 16 ≤ 140737488355328) :
    Calls Try.prog 20 #[.slice a n cap] w fun e w' => ∃ a' cap', e = .returned (.slice a' n cap') ∧ n ≤ cap' ∧ n ≤ maxLen ∧ StrsS w' (fun b => w.heap.size ≤ b ∧ b < w'.heap.size) a' ss ∧ Below w.heap.size w w' := by
  subst hn
  cases a with
  | none =>
    have h0 : ss = [] := by
      cases ss with
      | nil => rfl
      | cons s t => obtain ⟨_, b, o, h, _⟩ := hS 0 (by simp); cases h
    subst h0
    refine (Try.slices_Clone_string_nil 0 cap w).mono ?_
    rintro e w' ⟨rfl, rfl⟩
    exact ⟨none, 0, rfl, Nat.le_refl _, Nat.zero_le _, fun i h => absurd h (by simp), Below.refl _ _⟩
  | some ad =>
    cases ss with
    | nil =>
      refine (Try.slices_Clone_string_zero ad cap w).mono ?_
      rintro e w' ⟨v', rfl, ho, _, hb⟩
      obtain ⟨a', cap', rfl, h1, h2, h3, h4⟩ := strs_row (ss := []) ho (by simp)
      exact ⟨a', cap', rfl, h2, h3, h4, hb⟩
    | cons s t =>
      obtain ⟨_, b, o, hab, _⟩ := hS 0 (by simp)
      injection hab with hab
      subst hab
      refine (Try.slices_Clone_string b o (s :: t).length cap (s :: t) w (Nat.le_refl _) hb hS.cells).mono ?_
      rintro e w' ⟨v', rfl, ho, _, hb⟩
      rw [List.take_length] at ho
      obtain ⟨a', cap', rfl, h1, h2, h3, h4⟩ := strs_row ho hS.sizes
      exact ⟨a', cap', rfl, h2, h3, h4, hb⟩
end Go.Proofs.Ytgdeomdnpgedbab

/- Records in a row; the place of one with a name: slices.IndexFunc with unit's closure, and the document's shapeAt. -/
import Derived.Test.YteblglkmkakcjaaUShape
import Derived.Deep.QuietTactic
import Derived.BigQuiet
namespace Go.Proofs.Yteblglkmkakcjaa
set_option maxRecDepth 100000
open Go.RowKit Go.WideMaps Go.Maps
structure Sh where
  name : ByteArray
  adr : Option Addr
  fs : List ByteArray
  cap : Nat
/-- Records in a row, from an address on, in blocks below B. -/
def Shs (w : World) (B : Nat) (a : Option Addr) (l : List Sh) : Prop :=
  ∀ i (h : i < l.length), ∃ b o, a = some ⟨b, o, none⟩ ∧ b < B ∧ w.cell? ⟨b, o + i * 2, none⟩ = some (.string l[i].name) ∧ w.cell? ⟨b, o + i * 2 + 1, none⟩ = some (.slice l[i].adr l[i].fs.length l[i].cap) ∧
    l[i].name.size ≤ maxLen ∧ l[i].fs.length ≤ l[i].cap ∧ l[i].fs.length ≤ maxLen ∧ Strs w B l[i].adr l[i].fs
theorem Shs.below {w w' : World} {B : Nat} {a : Option Addr} {l : List Sh} (h : Shs w B a l) (hb : Below B w w') : Shs w' B a l := by
  intro i hi
  obtain ⟨b, o, h1, h2, h3, h4, h5, h6, h7, h8⟩ := h i hi
  exact ⟨b, o, h1, h2, (hb.cell (p := ⟨b, _, none⟩) h2).trans h3, (hb.cell (p := ⟨b, _, none⟩) h2).trans h4, h5, h6, h7, h8.below hb⟩
theorem Shs.mono {w : World} {B B' : Nat} {a : Option Addr} {l : List Sh} (h : Shs w B a l) (hb : B ≤ B') : Shs w B' a l := by
  intro i hi
  obtain ⟨b, o, h1, h2, h3, h4, h5, h6, h7, h8⟩ := h i hi
  exact ⟨b, o, h1, Nat.lt_of_lt_of_le h2 hb, h3, h4, h5, h6, h7, h8.mono hb⟩
def namesOf (l : List Sh) : List ByteArray := l.map Sh.name
/-- The place of the first of n records that has the name x; -1: none. -/
def posI (l : List Sh) (n : Nat) (x : ByteArray) : Int := Lib.idxOfS ((namesOf l).take n) x
theorem namesOf_get (l : List Sh) (i : Nat) (h : i < (namesOf l).length) : (namesOf l)[i] = (l[i]'(by simpa [namesOf] using h)).name := by simp [namesOf]
theorem nameAt (l : List Sh) (i : Nat) (h : i < l.length) : (namesOf l).getD i ByteArray.empty = l[i].name := by
  unfold namesOf; rw [List.getD_eq_getElem?_getD, List.getElem?_map, List.getElem?_eq_getElem h]; rfl
theorem pos_hit (l : List Sh) (n k : Nat) (x : ByteArray) (hk : k < n) (hn : n ≤ l.length) (he : l[k].name = x) (hno : hasS ((namesOf l).take k) x = false) : posI l n x = k := by
  refine Lib.idxOfS_hit _ n k x hk (by unfold namesOf; simpa using hn) ((nameAt l k (by omega)).trans he) (fun j hj e => ?_)
  have hlen : j < (namesOf l).length := by unfold namesOf; simp; omega
  have := has_yes (namesOf l) x k j hlen hj (by rw [← e, List.getD_eq_getElem?_getD, List.getElem?_eq_getElem hlen]; rfl)
  rw [this] at hno; cases hno
theorem pos_miss (l : List Sh) (n : Nat) (x : ByteArray) (hn : n ≤ l.length) (hno : hasS ((namesOf l).take n) x = false) : posI l n x = -1 := by
  refine Lib.idxOfS_miss _ n x (fun j hj e => ?_)
  have hlen : j < (namesOf l).length := by unfold namesOf; simp; omega
  have := has_yes (namesOf l) x n j hlen hj (by rw [← e, List.getD_eq_getElem?_getD, List.getElem?_eq_getElem hlen]; rfl)
  rw [this] at hno; cases hno
theorem has_no' (l : List Sh) (x : ByteArray) (k : Nat) (hk : k < l.length) (h : hasS ((namesOf l).take k) x = false) (hne : ¬ l[k].name = x) : hasS ((namesOf l).take (k + 1)) x = false := by
  have hlen : k < (namesOf l).length := by unfold namesOf; simpa using hk
  refine has_no (namesOf l) x k hlen h (fun e => hne ?_)
  rw [← e, namesOf_get]
set_option maxHeartbeats 400000 in
theorem pred_any (n x : ByteArray) (a : Option Addr) (len cap q : Nat) (w : World) (hq : q < w.heap.size) (hc : w.cell? ⟨q, 0, none⟩ = some (.string x)) :
    Calls Try.prog 50 #[.agg #[.string n, .slice a len cap], .pointer (some ⟨q, 0, none⟩)] w fun e w' => e = .returned (.bool (n.toList == x.toList)) ∧ Below w.heap.size w w' := by
  have hne : ¬ q = w.heap.size := by omega
  go_enter Try.func50, Try.ntmps50
  go_wp2
  go_ret
  exact ⟨rfl, (Below.refl _ _).alloc (Nat.le_refl _) _⟩
set_option maxHeartbeats 1000000 in
theorem indexFunc_any (B : Nat) (a : Option Addr) (l : List Sh) (n cap q : Nat) (x : ByteArray) (w : World) (hS : Shs w B a l) (hB : B ≤ w.heap.size) (hn : n ≤ l.length) (hm : n ≤ 9223372036854775807)
    (hq : q < w.heap.size) (hc : w.cell? ⟨q, 0, none⟩ = some (.string x)) :
    Calls Try.prog 49 #[.slice a n cap, .func (.func 50) #[] #[.pointer (some ⟨q, 0, none⟩)]] w fun e w' => e = .returned (.int .i64 (posI l n x)) ∧ Below w.heap.size w w' := by
  go_enter Try.func49, Try.ntmps49
  go_wp2_with fail
  go_loopw [8] (fun i wr => ∃ k : Nat, k ≤ n ∧ i = .int .i64 k ∧ hasS ((namesOf l).take k) x = false ∧ Below w.heap.size w wr) (fun i _ => n - (intOf i).toNat)
  case atStart => exact ⟨0, Nat.zero_le _, rfl, rfl, Below.refl _ _⟩
  case round =>
    obtain ⟨k, hk, rfl, hno, hbr⟩ := hrel
    have HN := hid hno
    clear hno
    have hsz := hbr.size
    by_cases hlt : k < n
    · obtain ⟨b, o, rfl, hbB, c0, c1, _, _, _, _⟩ := (hS.below (hbr.mono hB)) k (by omega)
      have hcr := hid ((hbr.cell (p := ⟨q, 0, none⟩) hq).trans hc)
      have hYe := hid (pos_hit l n k x hlt hn)
      have hNo := hid (has_no' l x k (by omega) HN.out)
      generalize l[k].name = y at c0 hYe hNo
      generalize l[k].adr = ya at c1
      generalize l[k].fs.length = yl at c1
      generalize l[k].cap = yc at c1
      go_wp2_with fail
      have hcall := pred_any y x ya yl yc q wr (by omega) hcr.out
      go_fit hcall
      clear hcall
      rintro e w2 ⟨rfl, hb2⟩
      by_cases he : y = x
      · have HR := hid (hYe.out he HN.out)
        have hq2 : (y.toList == x.toList) = true := by rw [bytes_eq]; simpa using he
        clear he
        rw [hq2]
        go_wp2_with fail
        go_ret
        exact ⟨ret_int HR.out.symm, hbr.trans (hb2.mono (by omega))⟩
      · have HR := hid (hNo.out he)
        have hq2 : (y.toList == x.toList) = false := by rw [bytes_eq]; simpa using he
        clear he
        rw [hq2]
        go_wp2_with fail
        go_roundw
        case rel => exact ⟨k + 1, by omega, by go_num, HR.out, hbr.trans (hb2.mono (by omega))⟩
        case measure => simp [intOf]; omega
    · obtain rfl : k = n := by omega
      have HR := hid (pos_miss l k x hn HN.out)
      go_wp2_with fail
      go_ret
      exact ⟨ret_int HR.out.symm, hbr⟩
theorem pos_cases (l : List Sh) (n : Nat) (x : ByteArray) (hn : n ≤ l.length) : posI l n x = -1 ∨ ∃ k : Nat, k < n ∧ posI l n x = k := by
  cases hno : hasS ((namesOf l).take n) x
  · exact Or.inl (pos_miss l n x hn hno)
  · right
    have hm := (Lib.containsS_iff _ _).1 hno
    have hex : ∃ k, k < n ∧ ∃ h : k < l.length, l[k].name = x := by
      obtain ⟨k, hk, e⟩ := List.mem_take_iff_getElem.1 hm
      exact ⟨k, by omega, by unfold namesOf at hk; simp at hk; omega, (namesOf_get l k (by omega)).symm.trans e⟩
    have hlo : ∀ m, (∃ k, k < m ∧ ∃ h : k < l.length, l[k].name = x) → m ≤ n → ∃ k, k < n ∧ (∃ h : k < l.length, l[k].name = x) ∧ hasS ((namesOf l).take k) x = false := by
      intro m
      induction m with
      | zero => rintro ⟨k, hk, _⟩; omega
      | succ m ih =>
        rintro ⟨k, hk, he⟩ hmn
        by_cases hlow : ∃ k, k < m ∧ ∃ h : k < l.length, l[k].name = x
        · exact ih hlow (by omega)
        · obtain rfl : k = m := by
            rcases Nat.lt_or_ge k m with h | h
            · exact absurd ⟨k, h, he⟩ hlow
            · omega
          refine ⟨k, by omega, he, ?_⟩
          cases hq : hasS ((namesOf l).take k) x
          · rfl
          · have hm2 := (Lib.containsS_iff _ _).1 hq
            obtain ⟨j, hj, e⟩ := List.mem_take_iff_getElem.1 hm2
            exact absurd ⟨j, by omega, by unfold namesOf at hj; simp at hj; omega, (namesOf_get l j (by omega)).symm.trans e⟩ hlow
    obtain ⟨k, hk, ⟨h, he⟩, hq⟩ := hlo n hex (Nat.le_refl _)
    exact ⟨k, hk, pos_hit l n k x hk hn he hq⟩
def emptySh : Value := .agg #[.string ⟨#[]⟩, .slice none 0 0]
/-- What is found. -/
def foundV (l : List Sh) (p : Int) : Value :=
  match l[p.toNat]? with
  | some s => if p < 0 then emptySh else .agg #[.string s.name, .slice s.adr s.fs.length s.cap]
  | none => emptySh
set_option maxHeartbeats 1000000 in
theorem find_any (B : Nat) (a : Option Addr) (l : List Sh) (n cap q : Nat) (x : ByteArray) (w : World) (hS : Shs w B a l) (hB : B ≤ w.heap.size) (hn : n ≤ l.length) (hm : n ≤ 9223372036854775807)
    (hq : q < w.heap.size) (hc : w.cell? ⟨q, 0, none⟩ = some (.slice a n cap)) :
    Calls Try.prog 48 #[.string x, .pointer (some ⟨q, 0, none⟩)] w fun e w' => e = .returned (.tuple #[foundV l (posI l n x), .bool (decide (0 ≤ posI l n x))]) ∧ Below w.heap.size w w' := by
  have hmf : ∀ (fn : Fn) (first cap : Array Value) (w : World), (Instr.makeFunc fn first cap).run Try.prog w = .ok (.func fn first cap) w := fun _ _ _ _ => rfl
  go_enter Try.func48, Try.ntmps48
  have hb0 := hid (below2 w (.cells #[.string x] 9) (.cells #[.string ⟨#[]⟩, .slice none 0 0] 64))
  have hbn := hid (hb0.out.mono hB)
  have hcn : Hid (((w.alloc (.cells #[.string x] 9)).alloc (.cells #[.string ⟨#[]⟩, .slice none 0 0] 64)).cell? ⟨w.heap.size, 0, none⟩ = some (.string x)) := by apply hid; go_simp
  go_wp2_with fail
  have hcall := indexFunc_any B a l n cap w.heap.size x _ (hS.below hbn.out) (by simp; omega) hn hm (by simp; omega) hcn.out
  go_fit hcall
  clear hcall
  rintro e w1 ⟨rfl, hb⟩
  have hb1 : Below (w.heap.size + 2) ((w.alloc (.cells #[.string x] 9)).alloc (.cells #[.string ⟨#[]⟩, .slice none 0 0] 64)) w1 := hb.mono (by simp)
  clear hb
  have hbw := hid (hb0.out.trans (hb1.mono (by omega)))
  have g0 : w1.cell? ⟨w.heap.size + 1, 0, none⟩ = some (.string ⟨#[]⟩) := by rw [hb1.cell (p := ⟨w.heap.size + 1, 0, none⟩) (show w.heap.size + 1 < w.heap.size + 2 by omega)]; go_simp
  have g1 : w1.cell? ⟨w.heap.size + 1, 1, none⟩ = some (.slice none 0 0) := by rw [hb1.cell (p := ⟨w.heap.size + 1, 1, none⟩) (show w.heap.size + 1 < w.heap.size + 2 by omega)]; go_simp
  have f0 : w1.frozen? ⟨w.heap.size + 1, 0, none⟩ = false := by rw [hb1.frozen (p := ⟨w.heap.size + 1, 0, none⟩) (show w.heap.size + 1 < w.heap.size + 2 by omega)]; go_simp
  have f1 : w1.frozen? ⟨w.heap.size + 1, 1, none⟩ = false := by rw [hb1.frozen (p := ⟨w.heap.size + 1, 1, none⟩) (show w.heap.size + 1 < w.heap.size + 2 by omega)]; go_simp
  rcases pos_cases l n x hn with hp | ⟨k, hk, hp⟩
  · have HV : Hid (foundV l (posI l n x) = emptySh ∧ decide (0 ≤ posI l n x) = false) := by
      apply hid; rw [hp]; refine ⟨?_, rfl⟩; unfold foundV; cases l[(-1 : Int).toNat]? <;> rfl
    rw [hp]
    clear hp
    go_wp2_with fail
    refine bodyPost_ret (v := .tuple #[emptySh, .bool false]) (by simp [results, Try.results48, go_sem, emptySh, g0, g1]) rfl ?_
    exact ⟨by rw [HV.out.1, HV.out.2], (hbw.out.setCell (p := ⟨w.heap.size + 1, 0, none⟩) (by simp) _).setCell (p := ⟨w.heap.size + 1, 1, none⟩) (by simp) _⟩
  · have hc1 := (hbw.out.cell (p := ⟨q, 0, none⟩) hq).trans hc
    have hkl : k < l.length := Nat.lt_of_lt_of_le hk hn
    obtain ⟨b, o, rfl, hbB, c0, c1, _, _, _, _⟩ := (hS.below (hbw.out.mono hB)) k hkl
    have HV : Hid (foundV l (posI l n x) = .agg #[.string (l[k]'hkl).name, .slice (l[k]'hkl).adr (l[k]'hkl).fs.length (l[k]'hkl).cap] ∧ decide (0 ≤ posI l n x) = true) := by
      apply hid; rw [hp]; refine ⟨?_, by simp⟩; unfold foundV; rw [Int.toNat_natCast, List.getElem?_eq_getElem hkl]
      simp only []
      rw [if_neg (by omega)]
    rw [hp]
    clear hp
    generalize (l[k]'hkl).name = y at c0 HV
    generalize (l[k]'hkl).adr = ya at c1 HV
    generalize (l[k]'hkl).fs.length = yl at c1 HV
    generalize (l[k]'hkl).cap = yc at c1 HV
    have hneq : ¬ q = w.heap.size + 1 := by omega
    have hneb : ¬ b = w.heap.size + 1 := by omega
    have hk2 : (k : Int) < n := by omega
    go_wp2_with fail
    refine bodyPost_ret (v := .tuple #[.agg #[.string y, .slice ya yl yc], .bool true]) (by simp [results, Try.results48, go_sem, g0, g1]) rfl ?_
    exact ⟨by rw [HV.out.1, HV.out.2], (hbw.out.setCell (p := ⟨w.heap.size + 1, 0, none⟩) (by simp) _).setCell (p := ⟨w.heap.size + 1, 1, none⟩) (by simp) _⟩
set_option maxHeartbeats 1000000 in
theorem finder_any (a : Option Addr) (n cap : Nat) (w : World) :
    Calls Try.prog 44 #[.slice a n cap] w fun e w' => e = .returned (.func (.func 48) #[] #[.pointer (some ⟨w.heap.size, 0, none⟩)]) ∧ w' = w.alloc (.cells #[.slice a n cap] 56) := by
  have hmf : ∀ (fn : Fn) (first cap : Array Value) (w : World), (Instr.makeFunc fn first cap).run Try.prog w = .ok (.func fn first cap) w := fun _ _ _ _ => rfl
  go_enter Try.func44, Try.ntmps44
  go_wp2
  go_ret
  exact ⟨rfl, rfl⟩
end Go.Proofs.Yteblglkmkakcjaa

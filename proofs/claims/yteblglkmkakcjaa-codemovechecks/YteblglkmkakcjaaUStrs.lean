/- Texts in a row; is a text among them: slices.Contains and the document's isIn. -/
import Derived.Test.YteblglkmkakcjaaUFree
import Derived.Lib.SlicesS
import Derived.Deep.LoopGhost
namespace Go.Proofs.Yteblglkmkakcjaa
set_option maxRecDepth 100000
open Go.RowKit Go.WideMaps Go.Maps
/-- Texts in a row, from an address on, in blocks below B. -/
def Strs (w : World) (B : Nat) (a : Option Addr) (ss : List ByteArray) : Prop :=
  ∀ i (h : i < ss.length), ss[i].size ≤ maxLen ∧ ∃ b o, a = some ⟨b, o, none⟩ ∧ b < B ∧ w.cell? ⟨b, o + i, none⟩ = some (.string ss[i])
theorem Strs.below {w w' : World} {B : Nat} {a : Option Addr} {ss : List ByteArray} (h : Strs w B a ss) (hb : Below B w w') : Strs w' B a ss := by
  intro i hi
  obtain ⟨h1, b, o, h2, h3, h4⟩ := h i hi
  exact ⟨h1, b, o, h2, h3, (hb.cell (p := ⟨b, o + i, none⟩) h3).trans h4⟩
theorem Strs.mono {w : World} {B B' : Nat} {a : Option Addr} {ss : List ByteArray} (h : Strs w B a ss) (hb : B ≤ B') : Strs w B' a ss := by
  intro i hi
  obtain ⟨h1, b, o, h2, h3, h4⟩ := h i hi
  exact ⟨h1, b, o, h2, Nat.lt_of_lt_of_le h3 hb, h4⟩
theorem Strs.cells {w : World} {B b o : Nat} {ss : List ByteArray} (h : Strs w B (some ⟨b, o, none⟩) ss) : ∀ j, j < ss.length → w.cell? ⟨b, o + j, none⟩ = some (.string (ss.getD j ByteArray.empty)) := by
  intro j hj
  obtain ⟨_, b', o', h2, _, h4⟩ := h j hj
  injection h2 with h2; injection h2 with h21 h22
  subst h21 h22
  rw [h4, List.getD_eq_getElem?_getD, List.getElem?_eq_getElem hj]; rfl
abbrev hasS (ss : List ByteArray) (x : ByteArray) : Bool := Lib.containsS ss x
theorem contains_any (w : World) (B : Nat) (a : Option Addr) (ss : List ByteArray) (n cap : Nat) (x : ByteArray) (hS : Strs w B a ss) (hn : n ≤ ss.length) (hm : n ≤ 9223372036854775807) :
    Calls Try.prog 31 #[.slice a n cap, .string x] w fun e w' => e = .returned (.bool (hasS (ss.take n) x)) ∧ w' = w := by
  cases n with
  | zero => exact Try.slices_Contains_string_empty a cap x w
  | succ m =>
    obtain ⟨_, b, o, rfl, _, _⟩ := hS 0 (by omega)
    exact Try.slices_Contains_string b o (m + 1) cap ss x w hn hm hS.cells
theorem has_no (ss : List ByteArray) (x : ByteArray) (k : Nat) (hk : k < ss.length) (h : hasS (ss.take k) x = false) (hne : ¬ ss[k] = x) : hasS (ss.take (k + 1)) x = false := by
  rw [Bool.eq_false_iff] at h ⊢
  intro e
  rw [Lib.containsS_iff, List.take_succ_eq_append_getElem hk, List.mem_append] at e
  rcases e with e | e
  · exact h ((Lib.containsS_iff _ _).2 e)
  · exact hne (by simpa using (List.mem_singleton.1 e).symm)
theorem has_yes (ss : List ByteArray) (x : ByteArray) (n k : Nat) (hk : k < ss.length) (hn : k < n) (he : ss[k] = x) : hasS (ss.take n) x = true := by
  rw [Lib.containsS_iff, ← he]
  exact List.mem_take_iff_getElem.2 ⟨k, by omega, rfl⟩
theorem bytes_eq (x y : ByteArray) : (x.toList == y.toList) = decide (x = y) := by
  rw [Bool.eq_iff_iff]
  simp only [beq_iff_eq, decide_eq_true_eq]
  constructor
  · intro h
    rw [ByteArray.toList_eq, ByteArray.toList_eq] at h
    cases x; cases y
    simp only [ByteArray.mk.injEq]
    exact Array.toList_inj.1 h
  · intro h; rw [h]
set_option maxHeartbeats 400000 in
theorem isIn_any (w : World) (B : Nat) (a : Option Addr) (ss : List ByteArray) (n cap : Nat) (x : ByteArray) (hS : Strs w B a ss) (hn : n ≤ ss.length) (hm : n ≤ 9223372036854775807) :
    Calls Try.prog 18 #[.slice a n cap, .string x] w fun e w' => e = .returned (.bool (hasS (ss.take n) x)) ∧ w' = w := by
  go_enter Try.func18, Try.ntmps18
  go_wp2
  go_loop [5] (fun i => ∃ k : Nat, k ≤ n ∧ i = .int .i64 k ∧ hasS (ss.take k) x = false) (fun i => n - (intOf i).toNat)
  case atStart => exact ⟨0, Nat.zero_le _, rfl, rfl⟩
  case round =>
    obtain ⟨k, hk, rfl, hno⟩ := hrel
    have HN := hid hno
    clear hno
    by_cases hlt : k < n
    · obtain ⟨_, b, o, rfl, _, hc⟩ := hS k (by omega)
      by_cases he : ss[k] = x
      · have HY := hid (has_yes ss x n k (by omega) hlt he)
        have hq : (ss[k].toList == x.toList) = true := by rw [bytes_eq]; simpa using he
        have HQ := hid he
        clear he
        generalize ss[k] = y at hc hq
        go_wp2
        go_ret
        exact ⟨ret_bool HY.out.symm, rfl⟩
      · have HY := hid (has_no ss x k (by omega) HN.out he)
        have hq : (ss[k].toList == x.toList) = false := by rw [bytes_eq]; simpa using he
        clear he
        generalize ss[k] = y at hc hq
        go_wp2
        go_round
        case rel => exact ⟨k + 1, by omega, by go_num, HY.out⟩
        case measure => simp [intOf]; omega
    · obtain rfl : k = n := by omega
      go_wp2
      go_ret
      exact ⟨ret_bool HN.out.symm, rfl⟩
end Go.Proofs.Yteblglkmkakcjaa

/- Leaf contracts. -/
import Derived.Test.YtdfmimgjdchafaaGreatDoorChecked
import Derived.Test.YtdfmimgjdchafaaGreatDoorPlain
import Derived.Test.YtdfmimgjdchafaaGreatDoorShelf
import Derived.WalkKit
import Derived.WalkSpells
import Derived.WalkLawsBesides
namespace Go.Proofs.YtdfmimgjdchafaaGreatDoor
set_option maxRecDepth 100000
open Go.RowKit
theorem hid {p : Prop} (h : p) : Hid p := h
theorem ret_bool {a b : Bool} (h : a = b) : Ending.returned (.bool a) = .returned (.bool b) := by rw [h]
theorem ret_int {k : IntKind} {a b : Int} (h : a = b) : Ending.returned (.int k a) = .returned (.int k b) := by rw [h]
set_option maxHeartbeats 400000 in
theorem isDigit_any (c : Int) (w : World) :
    Calls Tryz.prog 372 #[.int .u8 c] w fun e w' => e = .returned (.bool (digI c)) ∧ w' = w := by
  go_enter Tryz.func372, Tryz.ntmps372
  go_wp2
  all_goals (go_ret; exact ⟨ret_bool (by rw [Bool.eq_iff_iff]; simp [digI]; omega), rfl⟩)
set_option maxHeartbeats 400000 in
theorem fits_any (n : Int) (w : World) :
    Calls Tryz.prog 285 #[.int .i64 n] w fun e w' => e = .returned (.bool (inI (-1099511627776) n 1099511627776)) ∧ w' = w := by
  go_enter Tryz.func285, Tryz.ntmps285
  go_wp2
  all_goals (go_ret; exact ⟨ret_bool (by rw [Bool.eq_iff_iff]; simp [inI]; omega), rfl⟩)
theorem indexByte_signs (c : Int) (h0 : 0 ≤ c) (h1 : c ≤ 255) : decide (0 ≤ Lib.indexByte [43, 45, 42, 47, 60, 62, 61, 63, 33, 95] (UInt8.ofNat c.toNat)) = signI c := by
  obtain ⟨n, rfl⟩ := Int.eq_ofNat_of_zero_le h0
  have : ∀ n : Fin 256, decide (0 ≤ Lib.indexByte [43, 45, 42, 47, 60, 62, 61, 63, 33, 95] (UInt8.ofNat ((n.val : Int)).toNat)) = signI n.val := by decide +kernel
  exact this ⟨n, by omega⟩
set_option maxHeartbeats 400000 in
theorem isNameByte_any (c : Int) (w : World) (h0 : 0 ≤ c) (h1 : c ≤ 255) :
    Calls Tryz.prog 337 #[.int .u8 c] w fun e w' => e = .returned (.bool (nameByteI c)) ∧ w' = w := by
  have hs := hid (indexByte_signs c h0 h1)
  go_enter Tryz.func337, Tryz.ntmps337
  go_wp2_with (first | (go_at_call 372; refine (isDigit_any _ _).mono ?_; rintro e w' ⟨rfl, rfl⟩) | (go_at_call 257; refine (Tryz.strings_IndexByte _ _ _).mono ?_; rintro e w' ⟨rfl, rfl⟩))
  all_goals (go_ret; refine ⟨ret_bool ?_, rfl⟩; try rw [hs.out])
  all_goals (clear hs; simp only [nameByteI, smallI, digI] at *; cases signI c <;> (rw [Bool.eq_iff_iff]; simp at * <;> omega))
def trimmed (s : ByteArray) : ByteArray := if (s.extract 0 1).toList == [45] then s.extract 1 s.size else s
theorem trimmed_short (s : ByteArray) (h : (s.size : Int) < 1) : trimmed s = s := by
  have : s.size = 0 := by omega
  have e : s = ByteArray.empty := ByteArray.size_eq_zero_iff.1 this
  subst e; unfold trimmed; rw [if_neg]; rw [ByteArray.toList_eq]; simp [ByteArray.data_extract]
set_option maxHeartbeats 400000 in
theorem trim_any (s : ByteArray) (w : World) (_hs : s.size ≤ 9223372036854775807) :
    Calls Tryz.prog 371 #[.string s, .string ⟨#[45]⟩] w fun e w' => e = .returned (.string (trimmed s)) ∧ w' = w := by
  have h1 := hid (trimmed_short s)
  go_enter Tryz.func371, Tryz.ntmps371
  go_wp2
  · go_ret; exact ⟨congrArg (fun x => Ending.returned (.string x)) (by unfold trimmed; rw [if_pos (by assumption)]), rfl⟩
  · go_ret; exact ⟨congrArg (fun x => Ending.returned (.string x)) (by unfold trimmed; rw [if_neg (by simp [*])]), rfl⟩
  · go_ret; exact ⟨congrArg (fun x => Ending.returned (.string x)) (h1.out (by assumption)).symm, rfl⟩
def firstDig (s : ByteArray) : Bool := match s.data.toList with | [] => false | c :: _ => digI c.toNat
theorem firstDig_pos (s : ByteArray) (h : 0 < s.size) : firstDig s = digI s[0].toNat := by
  obtain ⟨⟨l⟩⟩ := s
  cases l with
  | nil => exact absurd (show 0 < ([] : List UInt8).length from h) (by simp)
  | cons c r => rfl
theorem firstDig_zero (s : ByteArray) (h : ¬ 0 < s.size) : firstDig s = false := by
  obtain ⟨⟨l⟩⟩ := s
  cases l with
  | nil => rfl
  | cons c r => exact absurd (show 0 < (c :: r).length by simp) h
theorem empty_of (s : ByteArray) (h : ¬ 0 < s.size) : s.toList = [] := by
  rw [ByteArray.toList_eq]
  obtain ⟨⟨l⟩⟩ := s
  cases l with
  | nil => rfl
  | cons c r => exact absurd (show 0 < (c :: r).length by simp) h
theorem nonempty_of (s : ByteArray) (h : 0 < s.size) : ¬ s.toList = [] := by
  rw [ByteArray.toList_eq]
  obtain ⟨⟨l⟩⟩ := s
  cases l with
  | nil => exact absurd (show 0 < ([] : List UInt8).length from h) (by simp)
  | cons c r => simp
theorem begins_eq (s : ByteArray) : firstDig (trimmed s) = begins s.data.toList := by
  obtain ⟨⟨l⟩⟩ := s
  unfold trimmed
  cases l with
  | nil =>
    have e : ((ByteArray.mk ([] : List UInt8).toArray).extract 0 1).toList = [] := by rw [ByteArray.toList_eq]; simp [ByteArray.data_extract]
    rw [e]; rfl
  | cons c r =>
    have e1 : ((ByteArray.mk (c :: r).toArray).extract 0 1).toList = [c] := by rw [ByteArray.toList_eq]; simp [ByteArray.data_extract]
    have e2 : ((ByteArray.mk (c :: r).toArray).extract 1 (ByteArray.mk (c :: r).toArray).size).data.toList = r := by
      have e0 : (ByteArray.mk (c :: r).toArray).size = r.length + 1 := rfl
      rw [e0]; simp [ByteArray.data_extract]
    rw [e1]
    by_cases h : c = 45
    · subst h
      rw [if_pos (by decide)]
      unfold firstDig; rw [e2]
      cases r <;> simp [begins, digI]
    · rw [if_neg (by simpa using h)]
      have : ((c.toNat : Int) == 45) = false := by
        rw [beq_eq_false_iff_ne]; intro e
        exact h (UInt8.toNat_inj.1 (by simpa using Int.ofNat.inj e))
      simp [firstDig, begins, this]
set_option maxHeartbeats 400000 in
theorem begins_any (s : ByteArray) (w : World) (hs : s.size ≤ 9223372036854775807) :
    Calls Tryz.prog 336 #[.string s] w fun e w' => e = .returned (.bool (begins s.data.toList)) ∧ w' = w := by
  have hb := hid (begins_eq s)
  by_cases ht : 0 < (trimmed s).size
  · have hne := nonempty_of _ ht
    have hf := hid (firstDig_pos _ ht)
    go_enter Tryz.func336, Tryz.ntmps336
    go_wp2_with (first | (go_at_call 371; refine (trim_any _ _ hs).mono ?_; rintro e w' ⟨rfl, rfl⟩) | (go_at_call 372; refine (isDigit_any _ _).mono ?_; rintro e w' ⟨rfl, rfl⟩))
    go_ret
    exact ⟨ret_bool (by rw [← hb.out, hf.out]; simp [hne]), rfl⟩
  · have hne := empty_of _ ht
    have hf := hid (firstDig_zero _ ht)
    go_enter Tryz.func336, Tryz.ntmps336
    go_wp2_with (first | (go_at_call 371; refine (trim_any _ _ hs).mono ?_; rintro e w' ⟨rfl, rfl⟩) | (go_at_call 372; refine (isDigit_any _ _).mono ?_; rintro e w' ⟨rfl, rfl⟩))
    go_ret
    exact ⟨ret_bool (by rw [← hb.out, hf.out]), rfl⟩
theorem take_snoc (s : ByteArray) (k : Nat) (h : k < s.size) : s.data.toList.take (k + 1) = s.data.toList.take k ++ [s[k]] := by
  rw [List.take_succ_eq_append_getElem (by simpa using h)]; rfl
theorem size_toList (s : ByteArray) : s.data.toList.length = s.size := by simp
def nb (c : UInt8) : Bool := nameByteI c.toNat
theorem nb_snoc (s : ByteArray) (k : Nat) (h : k < s.size) : (s.data.toList.take (k + 1)).all nb = ((s.data.toList.take k).all nb && nameByteI s[k].toNat) := by
  rw [take_snoc s k h]; simp [nb]
theorem nb_bad (s : ByteArray) (k : Nat) (h : k < s.size) (hb : nameByteI s[k].toNat = false) : s.data.toList.all nb = false := by
  have : s.data.toList.all nb = ((s.data.toList.take (k + 1)).all nb && (s.data.toList.drop (k + 1)).all nb) := by
    rw [← List.all_append, List.take_append_drop]
  rw [this, nb_snoc s k h, hb]; simp
theorem nameB_eq (l : List UInt8) : nameB l = (decide (1 ≤ l.length) && decide (l.length ≤ 16) && !begins l && l.all nb) := rfl
set_option maxHeartbeats 400000 in
theorem isName_any (s : ByteArray) (w : World) (hs : s.size ≤ 9223372036854775807) :
    Calls Tryz.prog 286 #[.string s] w fun e w' => e = .returned (.bool (nameB s.data.toList)) ∧ w' = w := by
  have hN := hid (nameB_eq s.data.toList)
  by_cases h1 : (s.size : Int) < 1
  · go_enter Tryz.func286, Tryz.ntmps286
    go_wp2_with fail
    go_ret
    refine ⟨ret_bool ?_, rfl⟩
    rw [hN.out, size_toList]; simp; omega
  by_cases h2 : (16 : Int) < s.size
  · go_enter Tryz.func286, Tryz.ntmps286
    go_wp2_with fail
    go_ret
    refine ⟨ret_bool ?_, rfl⟩
    rw [hN.out, size_toList]; simp; omega
  by_cases h3 : begins s.data.toList = true
  · go_enter Tryz.func286, Tryz.ntmps286
    go_wp2_with (go_at_call 336; refine (begins_any _ _ hs).mono ?_; rintro e w' ⟨rfl, rfl⟩)
    go_ret
    refine ⟨ret_bool ?_, rfl⟩
    rw [hN.out, size_toList]; simp [h3]
  have h3' : begins s.data.toList = false := by simpa using h3
  clear h3
  go_enter Tryz.func286, Tryz.ntmps286
  go_wp2_with (go_at_call 336; refine (begins_any _ _ hs).mono ?_; rintro e w' ⟨rfl, rfl⟩)
  go_loop [18] (fun i => ∃ k : Nat, k ≤ s.size ∧ i = .int .i64 k ∧ (s.data.toList.take k).all nb = true) (fun i => s.size - (intOf i).toNat)
  case atStart => exact ⟨0, Nat.zero_le _, rfl, by simp⟩
  case round =>
    obtain ⟨k, hk, rfl, hall⟩ := hrel
    have HA := hid hall
    clear hall
    by_cases hlt : k < s.size
    · have h255 : ((s[k].toNat : Nat) : Int) ≤ 255 := by have := s[k].toNat_lt; omega
      by_cases hb : nameByteI s[k].toNat = true
      · have HS := hid (nb_snoc s k hlt)
        have hb2 := hid hb
        go_wp2_with (go_at_call 337; refine (isNameByte_any _ _ (by omega) (by omega)).mono ?_; rintro e w' ⟨rfl, rfl⟩)
        go_round
        case rel => exact ⟨k + 1, by omega, by go_num, by rw [HS.out, HA.out, hb2.out]; rfl⟩
        case measure => simp [intOf]; omega
      · have hb' : nameByteI s[k].toNat = false := by simpa using hb
        clear hb
        have HB := hid (nb_bad s k hlt hb')
        go_wp2_with (go_at_call 337; refine (isNameByte_any _ _ (by omega) (by omega)).mono ?_; rintro e w' ⟨rfl, rfl⟩)
        go_ret
        exact ⟨ret_bool (by rw [hN.out, HB.out]; simp), rfl⟩
    · go_wp2
      go_ret
      refine ⟨ret_bool ?_, rfl⟩
      have : s.data.toList.take k = s.data.toList := List.take_of_length_le (by simp; omega)
      rw [hN.out, ← this, HA.out, this, h3', size_toList]; simp; omega
end Go.Proofs.YtdfmimgjdchafaaGreatDoor

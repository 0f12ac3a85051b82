/- The document's NameMay answers as P1.1 says. -/
import Derived.Test.YtfhiolnoalghmaaDoorLeafRef
import Derived.Deep.QuietTactic
import Derived.BigQuiet
import Derived.Deep.Draws
namespace Go.Proofs.YtfhiolnoalghmaaDoor
open Go.RowKit
def signs : List Int := [43, 45, 42, 47, 60, 62, 61, 63, 33, 95]
def okTo (c : Int) (k : Nat) : Bool := (digI c || smallI c) || (signs.take k).any (fun x => c == x)
theorem okTo_zero (c : Int) : okTo c 0 = (digI c || smallI c) := by simp [okTo]
theorem okTo_ten (c : Int) : okTo c 10 = nameByteI c := by
  unfold okTo nameByteI signI signs
  cases digI c <;> cases smallI c <;> simp [Bool.or_assoc]
theorem okTo_succ (c : Int) (k : Nat) (h : k < signs.length) : okTo c (k + 1) = (okTo c k || c == signs[k]) := by
  unfold okTo
  rw [List.take_succ_eq_append_getElem h, List.any_append]
  simp only [List.any_cons, List.any_nil, Bool.or_false, Bool.or_assoc]
theorem begins_zero (s : ByteArray) (h : 0 < s.size) (hd : digI s[0].toNat = true) : begins s.data.toList = true := by
  obtain ⟨⟨l⟩⟩ := s
  cases l with
  | nil => exact absurd (show 0 < ([] : List UInt8).length from h) (by simp)
  | cons c r =>
    have hd' : digI c.toNat = true := hd
    simp [begins, hd']
theorem begins_other (s : ByteArray) (h : 0 < s.size) (hd : digI s[0].toNat = false) (hm : ((s[0].toNat : Int) == 45) = false) : begins s.data.toList = false := by
  obtain ⟨⟨l⟩⟩ := s
  cases l with
  | nil => rfl
  | cons c r =>
    have hd' : digI c.toNat = false := hd
    have hm' : ((c.toNat : Int) == 45) = false := hm
    simp [begins, hd', hm']
theorem begins_one (s : ByteArray) (h : 0 < s.size) (hd : digI s[0].toNat = false) (h1 : ¬ 1 < s.size) : begins s.data.toList = false := by
  obtain ⟨⟨l⟩⟩ := s
  cases l with
  | nil => rfl
  | cons c r =>
    cases r with
    | nil => have hd' : digI c.toNat = false := hd; simp [begins, hd']
    | cons d q => exact absurd (show 1 < (c :: d :: q).length by simp) h1
theorem begins_two (s : ByteArray) (h : 0 < s.size) (hd : digI s[0].toNat = false) (hm : ((s[0].toNat : Int) == 45) = true) (h1 : 1 < s.size) : begins s.data.toList = digI s[1].toNat := by
  obtain ⟨⟨l⟩⟩ := s
  cases l with
  | nil => exact absurd (show 1 < ([] : List UInt8).length from h1) (by simp)
  | cons c r =>
    cases r with
    | nil => exact absurd (show 1 < ([c] : List UInt8).length from h1) (by simp)
    | cons d q =>
      have hd' : digI c.toNat = false := hd
      have hm' : ((c.toNat : Int) == 45) = true := hm
      have e : (ByteArray.mk (c :: d :: q).toArray)[1] = d := rfl
      simp [begins, hd', hm']
      rfl
theorem sign_at (c : Int) (m : Nat) (h : m < 10) : (c == (((ByteArray.mk #[43, 45, 42, 47, 60, 62, 61, 63, 33, 95])[m]'h).toNat : Int)) = (c == signs[m]'h) := by
  have : ∀ m : Fin 10, ((((ByteArray.mk #[43, 45, 42, 47, 60, 62, 61, 63, 33, 95])[m.val]'m.isLt).toNat : Nat) : Int) = signs[m.val]'m.isLt := by decide
  rw [this ⟨m, h⟩]
theorem nameB_short (s : ByteArray) (h : inI 1 s.size 16 = false) : nameB s.data.toList = false := by
  rw [nameB_eq, size_toList]
  simp [inI] at h ⊢
  intro a b
  exact absurd (h (by omega)) (by omega)
theorem nameB_begins (s : ByteArray) (h : begins s.data.toList = true) : nameB s.data.toList = false := by
  rw [nameB_eq, h]; simp
theorem nameB_full (s : ByteArray) (h1 : inI 1 s.size 16 = true) (hb : begins s.data.toList = false) (k : Nat) (hk : ¬ k < s.size) (ha : (s.data.toList.take k).all nb = true) : nameB s.data.toList = true := by
  have e : s.data.toList.take k = s.data.toList := List.take_of_length_le (by simp; omega)
  rw [e] at ha
  rw [nameB_eq, size_toList, ha, hb]
  simp [inI] at h1 ⊢
  omega
theorem nameB_bad (s : ByteArray) (k : Nat) (h : k < s.size) (hb : nameByteI s[k].toNat = false) : nameB s.data.toList = false := by
  rw [nameB_eq, nb_bad s k h hb]; simp
theorem okTo_start1 (c : Int) (h : digI c = true) : true = okTo c 0 := by rw [okTo_zero, h]; rfl
theorem okTo_start2 (c : Int) (h : ¬ digI c = true) (h2 : 97 ≤ c) : decide (c ≤ 122) = okTo c 0 := by rw [okTo_zero, Bool.eq_false_iff.2 h]; simp [smallI, h2]
theorem okTo_start3 (c : Int) (h : ¬ digI c = true) (h2 : c < 97) : false = okTo c 0 := by rw [okTo_zero, Bool.eq_false_iff.2 h]; simp [smallI]; omega
set_option maxHeartbeats 2000000 in
theorem NameMay_any (s : ByteArray) (w : World) (hs : s.size ≤ 9223372036854775807) :
    Calls Tryd.prog 42 #[.string s] w fun e w' => e = .returned (.bool (nameB s.data.toList)) ∧ ∃ n, w' = w.drewN n := by
  cases h1 : inI 1 s.size 16
  · have HN := hid (nameB_short s h1)
    go_enter Tryd.func42, Tryd.ntmps42
    go_wp2_with (go_at_call 52; refine (In_any _ _ _ _).mono ?_; rintro e w' ⟨rfl, hw⟩; obtain rfl := hw.symm)
    go_ret
    exact ⟨ret_bool HN.out.symm, 0, rfl⟩
  have hz : 0 < s.size := by simp [inI] at h1; omega
  cases hd : digI s[0].toNat
  case true =>
    have HN := hid (nameB_begins s (begins_zero s hz hd))
    go_enter Tryd.func42, Tryd.ntmps42
    go_wp2_with (first | (go_at_call 52; refine (In_any _ _ _ _).mono ?_; rintro e w' ⟨rfl, hw⟩; obtain rfl := hw.symm) | (go_at_call 58; refine (digit_any _ _).mono ?_; rintro e w' ⟨rfl, hw⟩; obtain rfl := hw.symm))
    go_ret
    exact ⟨ret_bool HN.out.symm, 0, rfl⟩
  by_cases hbad : ∃ h : 1 < s.size, ((s[0].toNat : Int) == 45) = true ∧ digI s[1].toNat = true
  · obtain ⟨hb1, hb2, hb3⟩ := hbad
    have HN := hid (nameB_begins s ((begins_two s hz hd hb2 hb1).trans hb3))
    have hb4 : (1 : Int) < s.size := by omega
    go_enter Tryd.func42, Tryd.ntmps42
    go_wp2_with (first | (go_at_call 52; refine (In_any _ _ _ _).mono ?_; rintro e w' ⟨rfl, hw⟩; obtain rfl := hw.symm) | (go_at_call 58; refine (digit_any _ _).mono ?_; rintro e w' ⟨rfl, hw⟩; obtain rfl := hw.symm))
    go_ret
    exact ⟨ret_bool HN.out.symm, 0, rfl⟩
  have hcase : ((s[0].toNat : Int) == 45) = false ∨ (((s[0].toNat : Int) == 45) = true ∧ (s.size : Int) ≤ 1) ∨ ∃ h : 1 < s.size, (((s[0].toNat : Int) == 45) = true ∧ (1 : Int) < s.size ∧ digI s[1].toNat = false) := by
    cases hm : ((s[0].toNat : Int) == 45)
    · exact Or.inl rfl
    · by_cases h2 : 1 < s.size
      · refine Or.inr (Or.inr ⟨h2, rfl, by omega, ?_⟩)
        cases h3 : digI s[1].toNat
        · rfl
        · exact absurd ⟨h2, hm, h3⟩ hbad
      · exact Or.inr (Or.inl ⟨rfl, by omega⟩)
  have HB : Hid (begins s.data.toList = false) := by
    rcases hcase with h | ⟨_, h⟩ | ⟨h, h2, _, h4⟩
    · exact begins_other s hz hd h
    · exact begins_one s hz hd (by omega)
    · exact (begins_two s hz hd h2 h).trans h4
  clear hbad
  rcases hcase with hc1 | ⟨hc1, hc2⟩ | ⟨hc0, hc1, hc2, hc3⟩
  all_goals
    go_enter Tryd.func42, Tryd.ntmps42
    go_wp2_with (first | (go_at_call 52; refine (In_any _ _ _ _).mono ?_; rintro e w' ⟨rfl, hw⟩; obtain rfl := hw.symm) | (go_at_call 58; refine (digit_any _ _).mono ?_; rintro e w' ⟨rfl, hw⟩; obtain rfl := hw.symm))
    go_loopw [3] (fun i wr => ∃ k : Nat, k ≤ s.size ∧ i = .int .i64 k ∧ (s.data.toList.take k).all nb = true ∧ ∃ n, wr = w.drewN n) (fun i _ => s.size - (intOf i).toNat)
    case atStart => exact ⟨0, Nat.zero_le _, rfl, by simp, 0, rfl⟩
    case round =>
      obtain ⟨k, hk, rfl, hall, n, rfl⟩ := hrel
      have HA := hid hall
      clear hall
      by_cases hlt : k < s.size
      · go_wp2_with (first | (go_at_call 58; refine (digit_any _ _).mono ?_; rintro e w' ⟨rfl, hw⟩; obtain rfl := hw.symm))
        all_goals
          go_loopw [4, 5] (fun o i wr => ∃ m : Nat, m ≤ 10 ∧ i = .int .i64 m ∧ o = .bool (okTo s[k].toNat m) ∧ ∃ n, wr = w.drewN n) (fun _ i _ => 10 - (intOf i).toNat)
          case atStart => exact ⟨0, by omega, rfl, congrArg Value.bool (by first | exact okTo_start1 _ ‹_› | exact okTo_start2 _ ‹_› ‹_› | exact okTo_start3 _ ‹_› ‹_›), _, rfl⟩
          case round =>
            obtain ⟨m, hm10, rfl, rfl, n2, rfl⟩ := hrel
            by_cases hm : m < 10
            · have HO := hid (okTo_succ s[k].toNat m hm)
              cases hb : okTo s[k].toNat m
              · go_wp2_with fail
                go_quiet (fail)
                go_wp2
                go_roundw
                case rel => exact ⟨m + 1, by omega, by go_num, congrArg Value.bool (by rw [HO.out, hb, sign_at _ m hm]; rfl), _, rfl⟩
                case measure => simp [intOf]; omega
              · go_wp2_with fail
                go_quiet (fail)
                go_wp2
                go_roundw
                case rel => exact ⟨m + 1, by omega, by go_num, congrArg Value.bool (by rw [HO.out, hb]; rfl), _, rfl⟩
                case measure => simp [intOf]; omega
            · obtain rfl : m = 10 := by omega
              have HT := hid (okTo_ten s[k].toNat)
              cases hb : okTo s[k].toNat 10
              · have HN := hid (nameB_bad s k hlt (HT.out.symm.trans hb))
                go_wp2
                go_ret
                exact ⟨ret_bool HN.out.symm, _, rfl⟩
              · have HS := hid (nb_snoc s k hlt)
                have HC := hid (HT.out.symm.trans hb)
                go_wp2
                go_roundw
                case rel => exact ⟨k + 1, by omega, by go_num, by rw [HS.out, HA.out, HC.out]; rfl, _, rfl⟩
                case measure => simp [intOf]; omega
      · have HN := hid (nameB_full s h1 HB.out k hlt HA.out)
        go_wp2
        go_ret
        exact ⟨ret_bool HN.out.symm, ⟨_, rfl⟩⟩
end Go.Proofs.YtfhiolnoalghmaaDoor

/- The document's wholeIn and fits64. -/
import Derived.Test.YtmgpppijildccaaDoorNum2
import Derived.Test.YtmgpppijildccaaDoorLeafRef
import Derived.Test.YtmgpppijildccaaDoorSkip
import Derived.Deep.CutBlock
import Derived.Deep.DeepCutAuto
namespace Go.Proofs.YtmgpppijildccaaDoor
open Go.RowKit
set_option linter.unusedSimpArgs false
theorem sat_bound (l : List UInt8) : ∀ a : Nat, a ≤ 11258999068426249 → l.all dgt = true → satFrom a l ≤ 11258999068426249 := by
  induction l with
  | nil => intro a h _; rw [satFrom_nil]; exact h
  | cons c r ih =>
    intro a h hd
    rw [List.all_cons, Bool.and_eq_true] at hd
    have := (dgt_iff c).1 hd.1
    rw [satFrom_cons]
    exact ih _ (by split <;> omega) hd.2
theorem sat_snoc (l : List UInt8) (c : UInt8) : satFrom 0 (l ++ [c]) = if satFrom 0 l < 1125899906842624 then 10 * satFrom 0 l + (c.toNat - 48) else satFrom 0 l := by
  unfold satFrom; rw [List.foldl_append]; rfl
theorem sat_low (l : List UInt8) (c : UInt8) (S : Nat) (hS : satFrom 0 l = S) (h : S < 1125899906842624) : satFrom 0 (l ++ [c]) = 10 * S + (c.toNat - 48) := by rw [sat_snoc, hS, if_pos h]
theorem sat_high (l : List UInt8) (c : UInt8) (S : Nat) (hS : satFrom 0 l = S) (h : ¬ S < 1125899906842624) : satFrom 0 (l ++ [c]) = S := by rw [sat_snoc, hS, if_neg h]
theorem val_nat {a b : Nat} (h : a = b) : Value.int .i64 (a : Int) = Value.int .i64 (b : Int) := by rw [h]
theorem dgt_digI (c : UInt8) : dgt c = digI c.toNat := by
  rw [Bool.eq_iff_iff]; simp [dgt, digI]; omega
theorem all_take_bad (b : ByteArray) (k : Nat) (h : k < b.size) (hb : dgt b[k] = false) : b.data.toList.all dgt = false := by
  have : b.data.toList.all dgt = ((b.data.toList.take (k + 1)).all dgt && (b.data.toList.drop (k + 1)).all dgt) := by rw [← List.all_append, List.take_append_drop]
  rw [this, take_snoc b k h]; simp [hb]
theorem minus_at (s : ByteArray) : minus s.data.toList = true ↔ ∃ h : 0 < s.size, (s[0].toNat : Int) = 45 := by
  obtain ⟨⟨l⟩⟩ := s
  cases l with
  | nil => simp [minus]; intro h; exact absurd (show 0 < ([] : List UInt8).length from h) (by simp)
  | cons c r =>
    have e : (ByteArray.mk (c :: r).toArray)[0]'(by show 0 < (c :: r).length; simp) = c := rfl
    simp [minus]
    constructor
    · intro h; exact ⟨by show 0 < (c :: r).length; simp, by show (c.toNat : Int) = 45; omega⟩
    · rintro ⟨h1, h2⟩; have h3 : (c.toNat : Int) = 45 := h2; omega
theorem wholeB_nil {w : List UInt8} (h : bodyOf w = []) : wholeB w = false := by unfold wholeB; rw [h]; rfl
theorem wholeB_bad {w : List UInt8} {c : UInt8} {r : List UInt8} (h : bodyOf w = c :: r) (hc : c.toNat = 48) (hw : ¬ w = [48]) : wholeB w = false := by
  unfold wholeB; rw [h]; simp [hc, hw]
theorem wholeB_ok {w : List UInt8} {c : UInt8} {r : List UInt8} (h : bodyOf w = c :: r) (hn : ¬ (c.toNat = 48 ∧ ¬ w = [48])) : wholeB w = (c :: r).all dgt := by
  unfold wholeB; rw [h]
  by_cases h1 : c.toNat = 48
  · by_cases h2 : w = [48]
    · simp [h1, h2]
    · exact absurd ⟨h1, h2⟩ hn
  · simp [h1]
theorem list_at0 (b : ByteArray) (h : 0 < b.size) : b.data.toList = b[0] :: b.data.toList.drop 1 := by
  have := drop_at b 0 h
  simpa using this
/-- How wholeIn ends. -/
def OutN (w : List UInt8) (e : Ending) : Prop :=
  if wholeB w = true then (if 1099511627776 < satFrom 0 (bodyOf w) then e = .returned (.tuple #[.int .i64 0, .bool true, .bool true]) else e = .returned (.tuple #[.int .i64 (if minus w = true then -(satFrom 0 (bodyOf w) : Int) else satFrom 0 (bodyOf w)), .bool true, .bool false]))
  else e = .returned (.tuple #[.int .i64 0, .bool false, .bool false])
set_option maxRecDepth 100000 in
set_option maxHeartbeats 1000000 in
theorem wholeIn_any (s : ByteArray) (w : World) (hs : s.size ≤ 3000) :
    Calls Tryd.prog 42 #[.string s] w fun e w' => OutN s.data.toList e ∧ w' = w := by
  go_enter Tryd.func42, Tryd.ntmps42
  go_upto_region 2 with fail
  go_cut [16] (fun v wx => v = .bool (minus s.data.toList) ∧ wx = w)
  case first =>
    by_cases h0 : 0 < s.size
    · have h0i : (0 : Int) < s.size := by omega
      cases h45 : ((s[0].toNat : Int) == 45)
      · have HM : Hid (minus s.data.toList = false) := by
          rw [← Bool.not_eq_true, minus_at]; rintro ⟨_, h⟩; simp [h] at h45
        go_wp2_with fail
        go_meet
        case rel => exact ⟨by rw [HM.out], rfl⟩
      · have HM : Hid (minus s.data.toList = true) := (minus_at s).2 ⟨h0, by simpa using h45⟩
        go_wp2_with fail
        go_meet
        case rel => exact ⟨by rw [HM.out], rfl⟩
    · have h0i : ¬ (0 : Int) < s.size := by omega
      have HM : Hid (minus s.data.toList = false) := by
        rw [← Bool.not_eq_true, minus_at]; rintro ⟨h, _⟩; omega
      go_wp2_with fail
      go_meet
      case rel => exact ⟨by rw [HM.out], rfl⟩
  case rest =>
    obtain ⟨rfl, hw⟩ := hcut
    obtain rfl := hw.symm
    go_upto_if 16 with fail
    go_cut [5] (fun v wx => ∃ b : ByteArray, v = .string b ∧ b.data.toList = bodyOf s.data.toList ∧ b.size ≤ 3000 ∧ decide ((b.size : Int) < s.size) = minus s.data.toList ∧ wx = w)
    case first =>
      cases hm : minus s.data.toList
      · have HM := hid hm
        have HB := hid (plain_body s.data.toList (by rw [hm]; simp))
        go_wp2_with fail
        go_meet
        case rel => exact ⟨s, rfl, HB.out.symm, hs, by rw [HM.out]; simp, rfl⟩
      · obtain ⟨h0, _⟩ := (minus_at s).1 hm
        have HM := hid hm
        have h0i : (1 : Int) ≤ s.size := by omega
        have HB : Hid ((s.extract 1 s.size).data.toList = bodyOf s.data.toList) := by rw [drop_extract]; unfold bodyOf; rw [if_pos hm]; exact List.drop_one
        go_wp2_with fail
        go_meet
        case rel => exact ⟨s.extract 1 s.size, rfl, HB.out, by simp; omega, by rw [HM.out]; simp; omega, rfl⟩
    case rest =>
      obtain ⟨b, rfl, hb, hbs, hlt, hw⟩ := hcut
      obtain rfl := hw.symm
      have HB := hid hb
      have HL := hid hlt
      clear hb hlt
      by_cases hz : b.size = 0
      · have hzi : ((b.size : Int) == 0) = true := by simp [hz]
        have HW : Hid (wholeB s.data.toList = false) := wholeB_nil (HB.out.symm.trans (List.length_eq_zero_iff.1 (by simpa using hz)))
        go_wp2_with fail
        go_ret3
        exact ⟨by unfold OutN; rw [if_neg (by rw [HW.out]; simp)]; rfl, rfl⟩
      have hzi : ((b.size : Int) == 0) = false := beq_eq_false_iff_ne.2 (by omega)
      have hz0 : 0 < b.size := by omega
      have hz0i : (0 : Int) < b.size := by omega
      have HB0 := hid (HB.out.symm.trans (list_at0 b hz0))
      by_cases hbad : b[0].toNat = 48 ∧ ¬ s.data.toList = [48]
      · have h48 : ((b[0].toNat : Int) == 48) = true := by simp [hbad.1]
        have hne : (s.toList == [48]) = false := by rw [ByteArray.toList_eq]; simp [hbad.2]
        have HW := hid (wholeB_bad HB0.out hbad.1 hbad.2)
        clear hbad
        go_wp2_with fail
        go_ret3
        exact ⟨by unfold OutN; rw [if_neg (by rw [HW.out]; simp)]; rfl, rfl⟩
      have HW := hid ((wholeB_ok HB0.out hbad).trans (by rw [← list_at0 b hz0]))
      have hgo : (((b[0].toNat : Int) == 48) = false) ∨ (((b[0].toNat : Int) == 48) = true ∧ (s.toList == [48]) = true) := by
        by_cases h1 : b[0].toNat = 48
        · refine Or.inr ⟨by simp [h1], ?_⟩
          by_cases h2 : s.data.toList = [48]
          · rw [ByteArray.toList_eq, h2]; rfl
          · exact absurd ⟨h1, h2⟩ hbad
        · exact Or.inl (by simp; omega)
      clear hbad
      rcases hgo with g48 | ⟨g48, gs⟩
      all_goals
        go_wp2_with fail
        go_loop [6, 7] (fun n i => ∃ k : Nat, k ≤ b.size ∧ i = .int .i64 k ∧ n = .int .i64 (satFrom 0 (b.data.toList.take k) : Nat) ∧ (b.data.toList.take k).all dgt = true) (fun _ i => b.size - (intOf i).toNat)
        case atStart => exact ⟨0, Nat.zero_le _, rfl, rfl, rfl⟩
        case round =>
          obtain ⟨k, hk, rfl, rfl, hall⟩ := hrel
          have hsb := sat_bound (b.data.toList.take k) 0 (by omega) hall
          have HA := hid hall
          clear hall
          by_cases hlt : k < b.size
          · have HTK := hid (take_snoc b k hlt)
            have h255 : ((b[k].toNat : Nat) : Int) ≤ 255 := by have := b[k].toNat_lt; omega
            cases hd : dgt b[k]
            · have hdI : digI b[k].toNat = false := by rw [← dgt_digI]; exact hd
              have HW2 := hid (HW.out.trans (all_take_bad b k hlt hd))
              clear hd
              go_wp2_with (go_at_call 57; refine (digit_any _ _).mono ?_; rintro e w' ⟨rfl, hw⟩; obtain rfl := hw.symm)
              go_ret3
              exact ⟨by unfold OutN; rw [if_neg (by rw [HW2.out]; simp)]; rfl, rfl⟩
            · have hdI : digI b[k].toNat = true := by rw [← dgt_digI]; exact hd
              have hdr := (dgt_iff _).1 hd
              have h48 : (48 : Int) ≤ b[k].toNat := by omega
              have h57 : (b[k].toNat : Int) ≤ 57 := by omega
              have HD := hid hd
              clear hd
              generalize hSG : satFrom 0 (b.data.toList.take k) = S at hsb ⊢
              have HSG := hid hSG
              clear hSG
              by_cases hS : S < 1125899906842624
              · have hSi : (S : Int) < 1125899906842624 := by omega
                go_wp2_with (go_at_call 57; refine (digit_any _ _).mono ?_; rintro e w' ⟨rfl, hw⟩; obtain rfl := hw.symm)
                go_round
                case rel => refine ⟨k + 1, by omega, by go_num, ?_, by rw [HTK.out, List.all_append, HA.out]; simp [HD.out]⟩; rw [HTK.out, sat_low _ _ S HSG.out hS]; exact congrArg (Value.int .i64) (by omega)
                case measure => simp [intOf]; omega
              · have hSi : decide ((S : Int) < 1125899906842624) = false := decide_eq_false (by omega)
                have HS := hid hS
                have HSB := hid hsb
                clear hS hsb
                go_wp2_with (go_at_call 57; refine (digit_any _ _).mono ?_; rintro e w' ⟨rfl, hw⟩; obtain rfl := hw.symm)
                go_round
                case rel => exact ⟨k + 1, by omega, by go_num, val_nat (by rw [HTK.out]; exact (sat_high _ _ S HSG.out HS.out).symm), by rw [HTK.out, List.all_append, HA.out]; simp [HD.out]⟩
                case measure => simp [intOf]; omega
          · have hfull : b.data.toList.take k = b.data.toList := List.take_of_length_le (by simp; omega)
            have HA2 : Hid (wholeB s.data.toList = true) := by rw [hfull] at HA; exact HW.out.trans HA.out
            rw [hfull] at hsb ⊢
            generalize hSG : satFrom 0 b.data.toList = S at hsb ⊢
            have HSG : Hid (satFrom 0 (bodyOf s.data.toList) = S) := by rw [← HB.out]; exact hSG
            clear hSG hfull
            by_cases hg : 1099511627776 < S
            · have hgi : (1099511627776 : Int) < S := by omega
              go_wp2_with fail
              go_ret3
              exact ⟨by unfold OutN; rw [if_pos HA2.out, HSG.out, if_pos hg]; rfl, rfl⟩
            · have hgi : ¬ (1099511627776 : Int) < S := by omega
              cases hm : decide ((b.size : Int) < s.size)
              · have hmi : ¬ (b.size : Int) < s.size := of_decide_eq_false hm
                have HM := hid (HL.out.symm.trans hm)
                clear hm
                go_wp2_with fail
                go_ret3
                exact ⟨by unfold OutN; rw [if_pos HA2.out, HSG.out, if_neg hg, if_neg (by rw [HM.out]; simp)]; rfl, rfl⟩
              · have hmi : (b.size : Int) < s.size := of_decide_eq_true hm
                have HM := hid (HL.out.symm.trans hm)
                clear hm
                go_wp2_with fail
                go_ret3
                exact ⟨by unfold OutN; rw [if_pos HA2.out, HSG.out, if_neg hg, if_pos HM.out]; rfl, rfl⟩
end Go.Proofs.YtmgpppijildccaaDoor

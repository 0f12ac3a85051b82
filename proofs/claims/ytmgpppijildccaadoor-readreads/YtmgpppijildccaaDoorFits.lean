/- The document's fits64. -/
import Derived.Test.YtmgpppijildccaaDoorWhole
namespace Go.Proofs.YtmgpppijildccaaDoor
open Go.RowKit
set_option linter.unusedSimpArgs false
theorem bodyOf_minus (s : ByteArray) (h : minus s.data.toList = true) : (s.extract 1 s.size).data.toList = bodyOf s.data.toList := by
  rw [drop_extract]; unfold bodyOf; rw [if_pos h]; exact List.drop_one
theorem less_total : ∀ x y : List UInt8, (Op.bytesLess x y || x == y) = !Op.bytesLess y x
  | [], [] => by simp [Op.bytesLess]
  | [], b :: y => by simp [Op.bytesLess]
  | a :: x, [] => by simp [Op.bytesLess]
  | a :: x, b :: y => by
    have ih := less_total x y
    simp only [Op.bytesLess]
    by_cases h : a = b
    · subst h
      have h1 : ¬ a < a := by rw [UInt8.lt_iff_toNat_lt]; omega
      simp only [h1, decide_false, Bool.false_or, beq_self_eq_true, Bool.true_and]
      rw [← ih]
      congr 1
      rw [Bool.eq_iff_iff]; simp
    · have hn : ¬ a.toNat = b.toNat := fun e => h (UInt8.toNat_inj.1 e)
      have h2 : ¬ b = a := fun e => h e.symm
      by_cases hl : a.toNat < b.toNat
      · have h3 : a < b := UInt8.lt_iff_toNat_lt.2 hl
        have h4 : ¬ b < a := by rw [UInt8.lt_iff_toNat_lt]; omega
        simp [h3, h4, h2]
      · have h3 : ¬ a < b := by rw [UInt8.lt_iff_toNat_lt]; omega
        have h4 : b < a := UInt8.lt_iff_toNat_lt.2 (by omega)
        simp [h3, h4, h]
theorem fits_eq {l : List UInt8} {b : ByteArray} {m : List UInt8} (hb : b.data.toList = bodyOf l) (hm : mostOf l = m) : fitsB l = (decide ((b.size : Int) < 19) || (((b.size : Int) == 19) && (Op.bytesLess b.toList m || b.toList == m))) := by
  unfold fitsB
  rw [less_total, ByteArray.toList_eq, hb, hm, ← hb, size_toList]
  congr 1
  · rw [Bool.eq_iff_iff]; simp; omega
  · congr 1
    rw [Bool.eq_iff_iff]; simp; omega
set_option maxRecDepth 100000 in
set_option maxHeartbeats 1000000 in
theorem fits64_any (s : ByteArray) (w : World) (hs : s.size ≤ 3000) (h0 : 0 < s.size) :
    Calls Tryd.prog 43 #[.string s] w fun e w' => e = .returned (.bool (fitsB s.data.toList)) ∧ w' = w := by
  have h0i : (0 : Int) < s.size := by omega
  have h1i : (1 : Int) ≤ s.size := by omega
  cases h45 : ((s[0].toNat : Int) == 45)
  · have hm : minus s.data.toList = false := by rw [← Bool.not_eq_true, minus_at]; rintro ⟨_, h⟩; simp [h] at h45
    have HF := hid (fits_eq (l := s.data.toList) (b := s) (m := [57, 50, 50, 51, 51, 55, 50, 48, 51, 54, 56, 53, 52, 55, 55, 53, 56, 48, 55]) (plain_body s.data.toList (by rw [hm]; simp)).symm (by unfold mostOf; rw [if_neg (by rw [hm]; simp)]))
    clear hm
    go_enter Tryd.func43, Tryd.ntmps43
    go_wp2_with fail
    all_goals (go_ret; refine ⟨ret_bool ?_, rfl⟩; rw [HF.out]; simp [*])
  · have hm : minus s.data.toList = true := (minus_at s).2 ⟨h0, by simpa using h45⟩
    have HF := hid (fits_eq (l := s.data.toList) (b := s.extract 1 s.size) (m := [57, 50, 50, 51, 51, 55, 50, 48, 51, 54, 56, 53, 52, 55, 55, 53, 56, 48, 56]) (bodyOf_minus s hm) (by unfold mostOf; rw [if_pos hm]))
    clear hm
    go_enter Tryd.func43, Tryd.ntmps43
    go_wp2_with fail
    all_goals (go_ret; refine ⟨ret_bool ?_, rfl⟩; rw [HF.out])
    all_goals rw [show (s.extract 1 s.size).size = s.size - 1 from by simp]
    all_goals generalize (s.extract 1 s.size).toList = L
    all_goals simp [*]
end Go.Proofs.YtmgpppijildccaaDoor

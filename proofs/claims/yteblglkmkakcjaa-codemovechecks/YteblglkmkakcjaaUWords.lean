/- The words of the language in memory; free names: unit's own words, isName, isFree. -/
import Derived.Test.YteblglkmkakcjaaDeep
import Derived.Test.YteblglkmkakcjaaUPlain
import Derived.Maps.OwnSet
import Derived.Carry
namespace Go.Proofs.Yteblglkmkakcjaa
set_option maxRecDepth 100000
open Go.RowKit Go.Maps
theorem lawK : Keyed Try.prog 9 := string_keyed Try.underlying9
theorem zeroI (w : World) : (zeroValue 3).run Try.prog w = .ok (.int .i64 0) w := by kernel_rfl
set_option maxHeartbeats 400000 in
theorem check_leaf (n : Int) (s : ByteArray) (w : World) (hs : s.size ≤ 9223372036854775807) :
    Calls Try.prog 24 #[.agg #[.int .i64 3, .int .i64 n, .string s, .slice none 0 0]] w fun e w' => e = .returned (.int .i64 (fltI w 40 3 n s none 0)) ∧ Below w.heap.size w w' := by
  have HW : Hid (Below w.heap.size w (w.alloc (.cells #[.int .i64 3, .int .i64 n, .string s, .slice none 0 0] 24))) := (Below.refl _ _).alloc (Nat.le_refl _) _
  go_enter Try.func24, Try.ntmps24
  go_wp2_with fail
  have hcall := within_any w w.heap.size 40 3 n s none 0 0 0 _ (by omega) (by omega) HW.out (by simp) ⟨hs, by omega, fun i hi => absurd hi (by omega)⟩
  go_fit hcall
  rintro e w2 ⟨rfl, hb2⟩
  go_wp2_with fail
  go_ret
  exact ⟨rfl, ((Below.refl _ _).alloc (Nat.le_refl _) _).trans (hb2.mono (by simp))⟩
theorem leaf_name (w : World) (s : ByteArray) : (fltI w 40 3 0 s none 0 = 0) ↔ nameB s.data.toList = true := by
  have e : aloneI 3 0 s 0 (39 - ((39 : Nat) : Int)) = if nameB s.data.toList = false then 4 else 0 := by
    unfold aloneI
    rw [if_neg (by omega), if_neg (by omega), if_neg (by omega), if_neg (by omega)]
    by_cases h : nameB s.data.toList = false
    · rw [if_pos ⟨rfl, h⟩, if_pos h]
    · rw [if_neg (fun x => h x.2), if_neg h, if_neg (by simp [moreB])]
  by_cases h : nameB s.data.toList = true
  · have e0 : aloneI 3 0 s 0 (39 - ((39 : Nat) : Int)) = 0 := by rw [e, if_neg (by simp [h])]
    rw [fltI_pos w 39 3 0 s none 0 e0]
    exact ⟨fun _ => h, fun _ => rfl⟩
  · have h' : nameB s.data.toList = false := by simpa using h
    have e4 : aloneI 3 0 s 0 (39 - ((39 : Nat) : Int)) = 4 := by rw [e, if_pos h']
    rw [fltI_neg w 39 3 0 s none 0 (by rw [e4]; decide), e4]
    exact ⟨fun x => absurd x (by decide), fun x => absurd x h⟩
set_option maxHeartbeats 400000 in
theorem uisName_any (s : ByteArray) (w : World) (hs : s.size ≤ 9223372036854775807) :
    Calls Try.prog 47 #[.string s] w fun e w' => e = .returned (.bool (nameB s.data.toList)) ∧ Below w.heap.size w w' := by
  have hn := hid (leaf_name w s)
  go_enter Try.func47, Try.ntmps47
  go_wp2_with (go_at_call 24; refine (check_leaf _ _ _ hs).mono ?_; rintro e w' ⟨rfl, hb⟩)
  go_ret
  refine ⟨ret_bool ?_, hb⟩
  rw [Bool.eq_iff_iff, ← hn.out]; simp
end Go.Proofs.Yteblglkmkakcjaa

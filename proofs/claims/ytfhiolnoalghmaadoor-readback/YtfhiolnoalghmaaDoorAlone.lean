/- One datum without what is in it. -/
import Derived.Test.YtfhiolnoalghmaaDoorNames
import Derived.Deep.Light
namespace Go.Proofs.YtfhiolnoalghmaaDoor
open Go.RowKit
def moreB (k n : Int) (s : ByteArray) (len : Nat) : Bool := (n != 0 && !(k == 1 || k == 2)) || (!s.toList.isEmpty && k != 3) || (decide (0 < len) && k != 4)
set_option maxHeartbeats 1000000 in
theorem hasMore_any (k n : Int) (s : ByteArray) (a : Option Addr) (len cap : Nat) (w : World) :
    Calls Tryd.prog 61 #[.agg #[.int .i64 k, .int .i64 n, .string s, .slice a len cap]] w fun e w' => e = .returned (.bool (moreB k n s len)) ∧ Below w.heap.size w w' := by
  go_enter Tryd.func61, Tryd.ntmps61
  go_wp2
  all_goals (go_ret; refine ⟨ret_bool ?_, (Below.refl _ _).alloc (Nat.le_refl _) _⟩; simp [moreB, *])
def aloneI (k n : Int) (s : ByteArray) (len : Nat) (o : Int) : Int :=
  if k < 1 ∨ 4 < k then 3 else if 40 ≤ o then 8 else if k = 1 ∧ inI (-1099511627776) n 1099511627776 = false then 2
  else if k = 2 ∧ ¬ n = 0 ∧ ¬ n = 1 then 2 else if k = 3 ∧ nameB s.data.toList = false then 4 else if moreB k n s len = true then 4 else 0
set_option maxHeartbeats 1000000 in
theorem alone_any (k n : Int) (s : ByteArray) (a : Option Addr) (len cap : Nat) (o : Int) (w : World) (hs : s.size ≤ 9223372036854775807) :
    Calls Tryd.prog 48 #[.agg #[.int .i64 k, .int .i64 n, .string s, .slice a len cap], .int .i64 o] w fun e w' => e = .returned (.int .i64 (aloneI k n s len o)) ∧ Below w.heap.size w w' := by
  go_enter Tryd.func48, Tryd.ntmps48
  go_wp2_with (first | (go_at_call 59; refine (fits_any _ _).mono ?_; rintro e w' ⟨rfl, hw⟩; obtain rfl := hw.symm) | (go_at_call 60; refine (isName_any _ _ hs).mono ?_; rintro e w' ⟨rfl, hw⟩; obtain rfl := hw.symm) | (go_at_call 61; refine (hasMore_any _ _ _ _ _ _ _).mono ?_; rintro e w' ⟨rfl, hb⟩))
  all_goals (go_ret; refine ⟨ret_int ?_, ?_⟩)
  all_goals first | exact (Below.refl _ _).alloc (Nat.le_refl _) _ | exact ((Below.refl _ _).alloc (Nat.le_refl _) _).trans (hb.mono (by simp)) | skip
  all_goals (go_light; simp_all [aloneI])
  all_goals (rw [if_neg (by omega), if_neg (by omega)])
end Go.Proofs.YtfhiolnoalghmaaDoor

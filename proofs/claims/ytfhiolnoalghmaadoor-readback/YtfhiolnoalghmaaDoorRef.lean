/- The document's datumFault, a datum and what is in it. -/
import Derived.Test.YtfhiolnoalghmaaDoorDeep
import Derived.Deep.Light
namespace Go.Proofs.YtfhiolnoalghmaaDoor
open Go.RowKit
theorem alone_zero (k n : Int) (s : ByteArray) (len : Nat) (o : Int) (h : aloneI k n s len o = 0) : o < 40 ∧
    ((k = 1 ∧ inI (-1099511627776) n 1099511627776 = true ∧ s.toList = [] ∧ len = 0) ∨ (k = 2 ∧ inI 0 n 1 = true ∧ s.toList = [] ∧ len = 0) ∨
     (k = 3 ∧ nameB s.data.toList = true ∧ n = 0 ∧ len = 0) ∨ (k = 4 ∧ n = 0 ∧ s.toList = [])) := by
  unfold aloneI at h
  split at h; · simp at h
  rename_i h1
  split at h; · simp at h
  rename_i h2
  split at h; · simp at h
  rename_i h3
  split at h; · simp at h
  rename_i h4
  split at h; · simp at h
  rename_i h5
  split at h; · simp at h
  rename_i h6
  refine ⟨by omega, ?_⟩
  have hk : k = 1 ∨ k = 2 ∨ k = 3 ∨ k = 4 := by omega
  rcases hk with rfl | rfl | rfl | rfl
  · simp [moreB] at h3 h6
    exact Or.inl ⟨rfl, h3, h6.1, h6.2⟩
  · simp [moreB] at h4 h6
    refine Or.inr (Or.inl ⟨rfl, ?_, h6.1, h6.2⟩)
    by_cases hn : n = 0
    · subst hn; rfl
    · rw [h4 hn]; rfl
  · simp [moreB] at h5 h6
    exact Or.inr (Or.inr (Or.inl ⟨rfl, h5, h6.1, h6.2⟩))
  · simp [moreB] at h6
    exact Or.inr (Or.inr (Or.inr ⟨rfl, h6.1, h6.2⟩))
theorem below_drewN {B : Nat} {a w : World} (h : Below B a w) (n : Nat) : Below B a (w.drewN n) := ⟨h.os, h.tape, h.output, h.size, h.block⟩
set_option maxHeartbeats 2000000 in
theorem fault_bad (k n : Int) (s : ByteArray) (a : Option Addr) (len cap : Nat) (l : Int) (w : World) (hs : s.size ≤ 9223372036854775807) (hE : ¬ aloneI k n s len (l - 1) = 0) :
    Calls Tryd.prog 35 #[.agg #[.int .i64 k, .int .i64 n, .string s, .slice a len cap], .int .i64 l] w fun e w' => e = .returned (.int .i64 (aloneI k n s len (l - 1))) ∧ Below w.heap.size w w' := by
  have HE := hid hE
  clear hE
  go_enter Tryd.func35, Tryd.ntmps35
  go_wp2_with (first | (go_at_call 52; refine (In_any _ _ _ _).mono ?_; rintro e w' ⟨rfl, hw⟩; obtain rfl := hw.symm) | (go_at_call 42; refine (NameMay_any _ _ hs).mono ?_; rintro e w' ⟨rfl, nd, rfl⟩))
  all_goals first | (go_ret; refine ⟨ret_int ?_, ?_⟩) | (exfalso; refine HE.out ?_)
  all_goals first | exact (Below.refl _ _).alloc (Nat.le_refl _) _ | exact below_drewN ((Below.refl _ _).alloc (Nat.le_refl _) _) _ | skip
  all_goals (clear HE; go_light; simp_all [aloneI, moreB, inI])
  all_goals first | omega | (intros; (repeat' split) <;> first | omega | simp_all | (simp_all; omega))
end Go.Proofs.YtfhiolnoalghmaaDoor

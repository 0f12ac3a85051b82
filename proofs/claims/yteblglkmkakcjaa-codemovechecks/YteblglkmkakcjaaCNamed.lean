/- One expression without what is in it, in package code: isNamed, checkAlone. -/
import Derived.Test.YteblglkmkakcjaaCAlone
import Derived.Test.YteblglkmkakcjaaCRows
namespace Go.Proofs.Yteblglkmkakcjaa
set_option maxRecDepth 100000
open Go.RowKit Go.WideMaps Go.Maps
theorem one_free (s : ByteArray) : freeAll [s] = freeB s.data.toList := by
  unfold freeAll
  have e : hasS ([].take 0) s = false := rfl
  cases h : freeB s.data.toList
  · simp [firstI, globI, h]
  · have e2 : hasS [] s = false := rfl
    simp [firstI, globI, h, e2]
theorem strs_one (w : World) (s : ByteArray) (t : TypeId) (h : s.size ≤ maxLen) : Strs (w.alloc (.cells #[.string s] t)) (w.heap.size + 1) (some ⟨w.heap.size, 0, none⟩) [s] :=
  strs_new w [s] t (fun x hx => by simp at hx; rw [hx]; exact h)
set_option maxHeartbeats 1000000 in
theorem areOne_any (s : ByteArray) (t : TypeId) (w : World) (q : Nat) (hq : q = w.heap.size) (h : s.size ≤ maxLen) :
    Calls Try.prog 32 #[.slice (some ⟨q, 0, none⟩) 1 1] (w.alloc (.cells #[.string s] t)) fun e w' => e = .returned (.bool (freeB s.data.toList)) ∧ Below (w.heap.size + 1) (w.alloc (.cells #[.string s] t)) w' := by
  subst hq
  rw [← one_free]
  refine (areFree_any (w.alloc (.cells #[.string s] t)) (w.heap.size + 1) _ [s] 1 1 _ (Below.refl _ _) (by simp) (strs_one w s t h) rfl (by omega) (by omega)).mono ?_
  rintro e w' ⟨rfl, hb⟩
  exact ⟨rfl, hb.mono (by simp)⟩
set_option maxHeartbeats 1000000 in
theorem isNamed_any (W : World) (B : Nat) (x : Xn) (m : Nat) (ba : Option Addr) (bs : List ByteArray) (bl bc : Nat) (w : World) (hW : Below B W w) (hB : B ≤ w.heap.size) (hO : OkX W B x m) (hk1 : 1 ≤ x.k) (hk2 : x.k ≤ 15) (hcnt : countB x.k x.s x.ns m = true)
    (hbs : Strs w w.heap.size ba bs) (hbl : bl = bs.length) (hb40 : bl ≤ 40) :
    Calls Try.prog 23 #[xv x m, .slice ba bl bc] w fun e w' => e = .returned (.bool (namedB x.k x.s x.n x.ns bs)) ∧ Below w.heap.size w w' := by
  have hm := hO.alen
  have hs := hO.size
  have hb0 := hid ((Below.refl w.heap.size w).alloc (Nat.le_refl _) (.cells (xcs x m) 28))
  have HFr : Hid (x.k = 5 ∨ x.k = 6 → Calls Try.prog 32 #[.slice x.na x.ns.length x.nc] (w.alloc (.cells (xcs x m) 28)) fun e w' => e = .returned (.bool (freeAll x.ns)) ∧ Below (w.alloc (.cells (xcs x m) 28)).heap.size (w.alloc (.cells (xcs x m) 28)) w') := hid (fun h => by
    refine areFree_any W B x.na x.ns x.ns.length x.nc _ (hW.trans (hb0.out.mono hB)) (by simp; omega) hO.strs rfl hO.ncap ?_
    rcases h with h | h <;> (rw [h] at hcnt; simp [countB] at hcnt; omega))
  have HOne := hid (areOne_any x.s 9 (w.alloc (.cells (xcs x m) 28)) (w.heap.size + 1) (by simp) hs)
  have HIn := hid (contains_any (w.alloc (.cells (xcs x m) 28)) w.heap.size ba bs bl bc x.s (hbs.below hb0.out) (by omega) (by omega))
  have HTk : Hid (bs.take bl = bs) := hid (List.take_of_length_le (by omega))
  rw [HTk.out] at HIn
  have hK := kinds hk1 hk2
  clear hO hk1 hk2 hW hcnt hbs hbl
  obtain ⟨k, dk, dn, ds, da, dl, dc, s, n, na, ns, nc, aa, ac⟩ := x
  dsimp only [xv, xcs] at *
  generalize hfb : freeAll ns = fb at *
  have HFb := hid hfb
  clear hfb
  generalize ns.length = nl at *
  have hN : n = 0 ∨ n = 1 ∨ (¬ n = 0 ∧ ¬ n = 1) := by omega
  rcases hK with rfl | rfl | rfl | rfl | rfl | rfl | rfl | rfl | rfl | rfl | rfl | rfl | rfl | rfl | rfl
  case inr.inr.inr.inr.inr.inr.inr.inl =>
    rcases hN with rfl | rfl | ⟨hn0, hn1⟩
    · go_enter Try.func23, Try.ntmps23
      go_wp2_with fail
      have hcall := HOne.out
      go_fit hcall
      clear hcall
      rintro e w1 ⟨rfl, hb1⟩
      go_wp2_with fail
      all_goals (go_ret; refine ⟨ret_bool ?_, hb0.out.trans ((((Below.refl _ _).alloc (Nat.le_refl _) _).trans (hb1.mono (by simp))).mono (by simp))⟩)
      all_goals simp [namedB]
    · go_enter Try.func23, Try.ntmps23
      go_wp2_with fail
      have hcall := HIn.out
      go_fit hcall
      clear hcall
      rintro e w1 ⟨rfl, rfl⟩
      cases hhs : hasS bs s
      all_goals
        go_wp2_with fail
        go_ret
        refine ⟨ret_bool ?_, hb0.out⟩
        simp [namedB, hhs]
    · have hn0b : (n == 0) = false := by simpa using hn0
      have hn1b : (n == 1) = false := by simpa using hn1
      go_enter Try.func23, Try.ntmps23
      go_wp2_with fail
      go_ret
      refine ⟨ret_bool ?_, hb0.out⟩
      simp [namedB, hn0, hn1]
  all_goals clear hN
  all_goals go_enter Try.func23, Try.ntmps23
  all_goals go_wp2_with fail
  all_goals first
    | (have hcall := HIn.out; go_fit hcall; clear hcall; rintro e w1 ⟨rfl, rfl⟩; go_wp2_with fail)
    | (have hcall := HFr.out (by decide); go_fit hcall; clear hcall; rintro e w1 ⟨rfl, hb1⟩; go_wp2_with fail)
    | (have hcall := HOne.out; go_fit hcall; clear hcall; rintro e w1 ⟨rfl, hb1⟩; go_wp2_with fail)
    | skip
  all_goals (go_ret; refine ⟨ret_bool ?_, ?_⟩)
  all_goals first
    | exact hb0.out
    | exact hb0.out.trans (hb1.mono (by simp))
    | exact hb0.out.trans ((((Below.refl _ _).alloc (Nat.le_refl _) _).trans (hb1.mono (by simp))).mono (by simp))
    | (simp [namedB]; done)
    | (rw [← HFb.out]; simp [namedB]; done)
end Go.Proofs.Yteblglkmkakcjaa

/- The small functions of package code: bindsIn, isPure, hasField, areFree, newPrimitives; read.Check. -/
import Derived.Test.YteblglkmkakcjaaCPlain
import Derived.Test.YteblglkmkakcjaaUCheck
namespace Go.Proofs.Yteblglkmkakcjaa
set_option maxRecDepth 100000
open Go.RowKit Go.WideMaps Go.Maps
set_option maxHeartbeats 1000000 in
theorem bindsIn_any (x : Xn) (m i : Nat) (w : World) (hm : m ≤ maxLen) :
    Calls Try.prog 14 #[xv x m, .int .i64 i] w fun e w' => e = .returned (.bool (bindsB x.k m i)) ∧ Below w.heap.size w w' := by
  obtain ⟨k, dk, dn, ds, da, dl, dc, s, n, na, ns, nc, aa, ac⟩ := x
  dsimp only [xv]
  generalize ns.length = nl
  have hm1 : (0 : Int) ≤ m := by omega
  have hm2 : (m : Int) ≤ 9223372036854775807 := by unfold maxLen at hm; omega
  go_enter Try.func14, Try.ntmps14
  go_wp2
  all_goals (go_ret; refine ⟨ret_bool ?_, (Below.refl _ _).alloc (Nat.le_refl _) _⟩; unfold bindsB; first | (simp [*]; done) | simp_all)
set_option maxHeartbeats 1000000 in
theorem isPure_any (k : Int) (w : World) :
    Calls Try.prog 25 #[.int .i64 k] w fun e w' => e = .returned (.bool (pureB k)) ∧ w' = w := by
  go_enter Try.func25, Try.ntmps25
  go_wp2
  all_goals (go_ret; refine ⟨ret_bool ?_, rfl⟩; unfold pureB; first | (simp [*]; done) | simp_all)
set_option maxHeartbeats 400000 in
theorem rCheck_any (W : World) (B : Nat) (k n : Int) (s : ByteArray) (a : Option Addr) (len cap : Nat) (w : World) (hW : Below B W w) (hB : B ≤ w.heap.size) (hF : Fine W B 40 s a len) :
    Calls Try.prog 24 #[.agg #[.int .i64 k, .int .i64 n, .string s, .slice a len cap]] w fun e w' => e = .returned (.int .i64 (fltI W 40 k n s a len)) ∧ Below w.heap.size w w' := by
  have HW : Hid (Below B W (w.alloc (.cells #[.int .i64 k, .int .i64 n, .string s, .slice a len cap] 24))) := hW.alloc hB _
  go_enter Try.func24, Try.ntmps24
  go_wp2_with fail
  have hcall := within_any W B 40 k n s a len cap 0 _ (by omega) (by omega) HW.out (by simp; omega) hF
  go_fit hcall
  rintro e w2 ⟨rfl, hb2⟩
  go_wp2_with fail
  go_ret
  exact ⟨rfl, ((Below.refl _ _).alloc (Nat.le_refl _) _).trans (hb2.mono (by simp))⟩
theorem flt_sym (W : World) (s : ByteArray) : fltI W 40 3 0 s none 0 = if nameB s.data.toList = false then 4 else 0 := by
  have e : aloneI 3 0 s 0 (39 - ((39 : Nat) : Int)) = if nameB s.data.toList = false then 4 else 0 := by
    unfold aloneI
    rw [if_neg (by omega), if_neg (by omega), if_neg (by simp), if_neg (by simp)]
    cases h : nameB s.data.toList <;> simp [moreB]
  cases h : nameB s.data.toList
  · rw [h] at e
    rw [fltI_neg W 39 3 0 s none 0 (by rw [e]; simp), e]
  · rw [h] at e
    rw [fltI_pos W 39 3 0 s none 0 (by rw [e]; simp)]
    rfl
theorem fine_sym (W : World) (B : Nat) (s : ByteArray) (h : s.size ≤ 9223372036854775807) : Fine W B 40 s none 0 := ⟨h, by omega, fun i hi => absurd hi (by omega)⟩
theorem fieldB_one {ns : List ByteArray} (h : ns.length = 1) : fieldB ns = nameB (ns[0]'(by omega)).data.toList := by
  match ns, h with
  | [f], _ => rfl
theorem fieldB_not {ns : List ByteArray} (h : ¬ ns.length = 1) : fieldB ns = false := by
  match ns, h with
  | [], _ => rfl
  | [f], h => exact absurd rfl h
  | _ :: _ :: _, _ => rfl
set_option maxHeartbeats 1000000 in
theorem hasField_any (W : World) (B : Nat) (x : Xn) (m : Nat) (w : World) (hW : Below B W w) (hB : B ≤ w.heap.size) (hO : OkX W B x m) :
    Calls Try.prog 30 #[xv x m] w fun e w' => e = .returned (.bool (fieldB x.ns)) ∧ Below w.heap.size w w' := by
  obtain ⟨k, dk, dn, ds, da, dl, dc, s, n, na, ns, nc, aa, ac⟩ := x
  have hS := hO.strs
  have hnl := hO.nlen
  have hnc := hO.ncap
  clear hO
  dsimp only [xv] at *
  have hb0 := hid ((Below.refl w.heap.size w).alloc (Nat.le_refl _) (.cells #[.int .i64 k, .int .i64 dk, .int .i64 dn, .string ds, .slice da dl dc, .string s, .int .i64 n, .slice na ns.length nc, .slice aa m ac] 28))
  by_cases h1 : ns.length = 1
  · have hF := hid (fieldB_one h1)
    obtain ⟨hsz, b, o, rfl, hbB, hc⟩ := (hS.below hW) 0 (by omega)
    generalize hy : ns[0]'(by omega) = y at hF hc hsz
    have HX := hid (flt_sym W y)
    have HFi := hid (fine_sym W B y (by unfold maxLen at hsz; omega))
    clear hy hS
    rw [h1] at *
    have hbl : b < w.heap.size := by omega
    simp only [Nat.add_zero] at hc
    cases hnm : nameB y.data.toList
    all_goals
      have HR := hid (HX.out.trans (by rw [hnm]))
      have HC := hid (fun (w' : World) (h : Below B W w') (h2 : B ≤ w'.heap.size) => rCheck_any W B 3 0 y none 0 0 w' h h2 HFi.out)
      rw [HR.out] at HC
      go_enter Try.func30, Try.ntmps30
      go_wp2_with fail
      have hcall := HC.out _ (hW.trans (hb0.out.mono hB)) (by simp; omega)
      go_fit hcall
      clear hcall
      rintro e w1 ⟨rfl, hb1⟩
      go_wp2_with fail
      go_ret
      exact ⟨ret_bool (by rw [hF.out, hnm]), hb0.out.trans (hb1.mono (by simp))⟩
  · have hF := hid (fieldB_not h1)
    have h2 : ¬ (ns.length : Int) = 1 := by omega
    have h3 : ((ns.length : Int) == 1) = false := by simpa using h2
    generalize ns.length = nl at *
    go_enter Try.func30, Try.ntmps30
    go_wp2
    go_ret
    exact ⟨ret_bool hF.out.symm, hb0.out⟩
theorem firstI_zero (f : Nat → Int) : ∀ (m i : Nat), firstI f i m = 0 ↔ ∀ j, i ≤ j → j < i + m → f j = 0
  | 0, i => by simp [firstI]; intro j h1 h2; omega
  | m + 1, i => by
    unfold firstI
    split
    · rename_i h
      rw [firstI_zero f m (i + 1)]
      constructor
      · intro hh j h1 h2
        by_cases e : j = i
        · rw [e]; exact h
        · exact hh j (by omega) (by omega)
      · intro hh j h1 h2; exact hh j (by omega) (by omega)
    · rename_i h
      constructor
      · intro e; exact absurd e h
      · intro hh; exact absurd (hh i (Nat.le_refl _) (by omega)) h
theorem env_names {ns : List ByteArray} (h : ns.length ≤ 40) : (envI ns [] = 0) = (freeAll ns = true) := by
  unfold freeAll
  by_cases h2 : firstI (globI ns) 0 ns.length = 0
  · rw [envI_rec (by simp; omega) h2]
    simp [h2, firstI]
  · rw [envI_glob (by simp; omega) h2]
    simp [h2]
set_option maxHeartbeats 1000000 in
theorem areFree_any (W : World) (B : Nat) (a : Option Addr) (ns : List ByteArray) (nl cap : Nat) (w : World) (hW : Below B W w) (hB : B ≤ w.heap.size) (hS : Strs W B a ns) (hn : nl = ns.length) (hc : nl ≤ cap) (h40 : nl ≤ 40) :
    Calls Try.prog 32 #[.slice a nl cap] w fun e w' => e = .returned (.bool (freeAll ns)) ∧ Below w.heap.size w w' := by
  have HE := hid (env_names (ns := ns) (by rw [← hn]; exact h40))
  have HN := hid hn
  have HC := hid (Check_any W B a none ns [] nl cap 0 0 w HN.out rfl (by omega) (by omega) hc (by omega) hW hB hS (fun i hi => absurd hi (by simp)))
  clear hn
  generalize envI ns [] = r at HE HC
  by_cases hr : r = 0
  · have HF : Hid (freeAll ns = true) := hid (by have := HE.out; rw [eq_iff_iff] at this; exact this.1 hr)
    subst hr
    go_enter Try.func32, Try.ntmps32
    go_wp2_with fail
    have hcall := HC.out
    go_fit hcall
    clear hcall
    rintro e w1 ⟨rfl, hb1⟩
    go_wp2_with fail
    go_ret
    exact ⟨ret_bool (by rw [HF.out]), hb1⟩
  · have HF : Hid (freeAll ns = false) := hid (by
      have h := HE.out; rw [eq_iff_iff] at h
      cases h2 : freeAll ns
      · rfl
      · exact absurd (h.2 h2) hr)
    have hr2 : (r == 0) = false := by simpa using hr
    go_enter Try.func32, Try.ntmps32
    go_wp2_with fail
    have hcall := HC.out
    go_fit hcall
    clear hcall
    rintro e w1 ⟨rfl, hb1⟩
    go_wp2_with fail
    go_ret
    exact ⟨ret_bool (by rw [HF.out]), hb1⟩
set_option maxHeartbeats 4000000 in
set_option maxRecDepth 100000 in
theorem newPrims_any (w : World) :
    Calls Try.prog 9 #[] w fun e w' => ∃ p, e = .returned (.map (some p)) ∧ Owns w' p prims ∧ w.heap.size ≤ p ∧ Below w.heap.size w w' := by
  have hmm := @run_makeMap Try.prog
  have h0 : Hid (Fill1 w (w.alloc (.map #[] 0)) w.heap.size []) := hid (Fill1.made (Below.refl _ _) rfl)
  go_enter Try.func9, Try.ntmps9
  go_wp2_with (refine ins1 (w0 := w) rfl _ _ _ rfl _ _ _ _ rfl rfl rfl (by first | exact h0.out | assumption) (by unfold maxLen; simp) (by decide) (WalkArith.wf_i64 (by omega)) ?_; intro w1 hF)
  go_ret
  exact ⟨_, rfl, hF.own, hF.new, hF.bel⟩
end Go.Proofs.Yteblglkmkakcjaa

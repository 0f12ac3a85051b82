/- One expression without what is in it, in package code: isCounted. -/
import Derived.Test.YteblglkmkakcjaaCLeaf
namespace Go.Proofs.Yteblglkmkakcjaa
set_option maxRecDepth 100000
open Go.RowKit Go.WideMaps Go.Maps
theorem filled_has (s : List UInt8) : ∀ l : List (List UInt8 × Int), Maps.has (filled l) (.string s) = decide (s ∈ l.map Prod.fst)
  | [] => by simp [filled, Maps.has]
  | p :: r => by
    unfold filled
    by_cases h : p.1 = s
    · rw [← h, has_put_same (filled_map r) (by trivial)]; simp
    · rw [has_put_other (by intro e; injection e with e; exact h e.symm), filled_has s r]
      simp [Ne.symm h]
theorem prims_pos (s : List UInt8) : 0 ≤ valOf prims s := by
  have : ∀ l : List (List UInt8 × Int), (∀ p ∈ l, 0 ≤ p.2) → 0 ≤ valOf l s := by
    intro l
    induction l with
    | nil => intro _; exact Int.le_refl _
    | cons p r ih =>
      intro h
      unfold valOf
      split
      · exact h p (List.mem_cons_self ..)
      · exact ih (fun q hq => h q (List.mem_cons_of_mem _ hq))
  exact this _ (by decide)
theorem prim_has (s : List UInt8) : Maps.has (filled prims) (.string s) = !(valOf prims s == 0) := by
  rw [filled_has]
  have h := valOf_zero s prims (by decide)
  by_cases hv : valOf prims s = 0
  · have h2 := h.1 hv
    simp [hv, h2]
  · have h2 : s ∈ prims.map Prod.fst := Classical.not_not.1 (fun x => hv (h.2 x))
    simp [hv, h2]
theorem prim_yes {s : List UInt8} {m : Int} (h : ¬ valOf prims s = 0) : (m == primI s && decide (0 < m)) = (m == valOf prims s) := by
  unfold primI
  rw [if_neg h]
  have := prims_pos s
  by_cases e : m = valOf prims s
  · subst e; simp; omega
  · simp [e]
theorem prim_no {s : List UInt8} {m : Int} (h : valOf prims s = 0) : (m == primI s && decide (0 < m)) = false := by
  unfold primI
  rw [if_pos h]
  by_cases e : m = -1
  · subst e; rfl
  · simp [e]
/-- The checker: where its primitives lie. -/
abbrev ckv (p : Nat) (pu : Bool) (olds : Int) : Value := .agg #[.map (some p), .bool pu, .int .i64 olds]
theorem owns_below {w w' : World} {p : Nat} (h : Owns w p prims) (hb : Below w.heap.size w w') : Owns w' p prims := by
  have h1 := h.lt
  obtain ⟨es, c, e1, e2⟩ := h
  exact ⟨es, c, (hb.block _ h1).trans e1, e2⟩
theorem countB_10 (s : ByteArray) (ns : List ByteArray) (m : Int) : countB 10 s ns m = (m == primI s.data.toList && decide (0 < m)) := by simp [countB]
theorem kinds {k : Int} (h1 : 1 ≤ k) (h2 : k ≤ 15) : k = 1 ∨ k = 2 ∨ k = 3 ∨ k = 4 ∨ k = 5 ∨ k = 6 ∨ k = 7 ∨ k = 8 ∨ k = 9 ∨ k = 10 ∨ k = 11 ∨ k = 12 ∨ k = 13 ∨ k = 14 ∨ k = 15 := by omega
set_option maxHeartbeats 4000000 in
theorem isCounted_any (W : World) (B : Nat) (p : Nat) (pu : Bool) (olds : Int) (x : Xn) (m : Nat) (w : World) (hW : Below B W w) (hB : B ≤ w.heap.size) (hO : OkX W B x m) (hp : Owns w p prims) (hk1 : 1 ≤ x.k) (hk2 : x.k ≤ 15) :
    Calls Try.prog 22 #[ckv p pu olds, xv x m] w fun e w' => e = .returned (.bool (countB x.k x.s x.ns m)) ∧ Below w.heap.size w w' := by
  have hm := hO.alen
  have hnl := hO.nlen
  have hs := hO.size
  have hb0 := hid (below2 w (.cells #[.map (some p), .bool pu, .int .i64 olds] 37) (.cells (xcs x m) 28))
  have HOwn := hid (owns_below hp hb0.out)
  have HFld := hid (hasField_any W B x m _ (hW.trans (hb0.out.mono hB)) (by simp; omega) hO)
  have HH := hid (prim_has x.s.data.toList)
  have HY := hid (@prim_yes x.s.data.toList m)
  have HNo := hid (@prim_no x.s.data.toList m)
  have hK := kinds hk1 hk2
  clear hO hk1 hk2 hp hW
  obtain ⟨k, dk, dn, ds, da, dl, dc, s, n, na, ns, nc, aa, ac⟩ := x
  dsimp only [xv, ckv, xcs] at *
  generalize hfb : fieldB ns = fb at *
  have HFb := hid hfb
  clear hfb
  generalize hnl2 : ns.length = nl at *
  have HNl := hid hnl2
  clear hnl2
  have hm2 : (m : Int) ≤ 9223372036854775807 := by have : maxLen = 9223372036854775807 := rfl; omega
  have hn2 : (nl : Int) ≤ 1000000000000000 := by omega
  have hm3 : (0 : Int) ≤ m := by omega
  have hn3 : (0 : Int) ≤ nl := by omega
  rcases hK with rfl | rfl | rfl | rfl | rfl | rfl | rfl | rfl | rfl | rfl | rfl | rfl | rfl | rfl | rfl
  all_goals
    go_enter Try.func22, Try.ntmps22
    go_wp2_with (first
      | (go_at_call 30; refine HFld.out.mono ?_; rintro e w1 ⟨rfl, hb1⟩)
      | (at_lookup; refine wpList_lookup_own_ok_int _ rfl _ _ 34 rfl 9 3 .i64 lawK Try.underlying34 Try.underlying3 (zeroI _) p prims.length (filled prims) rfl HOwn.out _ _ rfl (keyOf_string_mk Try.underlying9 hs) ?_; intro c hat hwc; rw [HH.out]; have hcv := hid (val_at hat); clear hat hwc))
  all_goals (go_ret; refine ⟨ret_bool ?_, ?_⟩)
  all_goals first | exact hb0.out | exact hb0.out.trans (hb1.mono (by simp; omega)) | skip
  all_goals clear HFld HOwn hb0
  all_goals first
    | (rw [countB_10, HNo.out (by assumption)]; done)
    | (rw [countB_10, HY.out (by assumption)]; have e := hcv.out; simp_all; done)
    | (unfold countB; rw [HFb.out, HNl.out]; simp; done)
    | (unfold countB; rw [HFb.out, HNl.out]; simp_all; done)
    | (unfold countB; simp; omega)
end Go.Proofs.Yteblglkmkakcjaa

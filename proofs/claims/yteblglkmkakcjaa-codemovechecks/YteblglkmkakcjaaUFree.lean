/- Is a text a name that may be bound: unit's isFree. -/
import Derived.Test.YteblglkmkakcjaaUMade
import Derived.Maps.OwnOps
namespace Go.Proofs.Yteblglkmkakcjaa
set_option maxRecDepth 100000
open Go.RowKit Go.WideMaps Go.Maps
/-- The words lie in memory. -/
structure Words (w : World) (k p : Nat) : Prop where
  keys : Owns w k keyws
  pris : Owns w p prims
theorem Words.below {w w' : World} {k p : Nat} (h : Words w k p) (hb : Below w.heap.size w w') : Words w' k p := by
  have h1 := h.keys.lt
  have h2 := h.pris.lt
  obtain ⟨es, c, e1, e2⟩ := h.keys
  obtain ⟨es', c', e1', e2'⟩ := h.pris
  exact ⟨⟨es, c, (hb.block _ h1).trans e1, e2⟩, ⟨es', c', (hb.block _ h2).trans e1', e2'⟩⟩
theorem val_at {s : List UInt8} {l : List (List UInt8 × Int)} {c : Int} (h : (filled l).atKey (.string s) (.lit (.int .i64 0)) = .lit (.int .i64 c)) : c = valOf l s := by
  rw [filled_at] at h
  injection h with h; injection h with _ h; exact h.symm
set_option maxHeartbeats 1000000 in
theorem isFree_any (k p : Nat) (s : ByteArray) (w : World) (hs : s.size ≤ maxLen) (hW : Words w k p) :
    Calls Try.prog 42 #[.agg #[.map (some k), .map (some p)], .string s] w fun e w' => e = .returned (.bool (freeB s.data.toList)) ∧ Below w.heap.size w w' := by
  have hs2 : s.size ≤ 9223372036854775807 := by unfold maxLen at hs; omega
  go_enter Try.func42, Try.ntmps42
  have hB0 := hid ((Below.refl w.heap.size w).alloc (Nat.le_refl _) (.cells #[.map (some k), .map (some p)] 60))
  go_wp2_with (go_at_call 47; refine (uisName_any _ _ hs2).mono ?_; rintro e w1 ⟨rfl, hb⟩; obtain ⟨g0, g1, f0, f1⟩ := box2 hb; have hB := hid (hB0.out.trans (hb.mono (by simp))); obtain ⟨c, hrun, hat, _⟩ := (hW.below hB.out).keys.lookup_int lawK Try.underlying34 Try.underlying3 (zeroI _) (keyOf_string_mk Try.underlying9 hs); obtain ⟨d, hrun2, hat2, _⟩ := (hW.below hB.out).pris.lookup_int lawK Try.underlying34 Try.underlying3 (zeroI _) (keyOf_string_mk Try.underlying9 hs); have hcK := hid (val_at hat); have hcP := hid (val_at hat2); clear f0 f1 hat hat2)
  all_goals (go_ret; refine ⟨ret_bool ?_, hB.out⟩)
  all_goals (unfold freeB; have e1 := hcK.out; have e2 := hcP.out; clear hcK hcP hrun hrun2 g0 g1 hb hB; simp_all)
end Go.Proofs.Yteblglkmkakcjaa

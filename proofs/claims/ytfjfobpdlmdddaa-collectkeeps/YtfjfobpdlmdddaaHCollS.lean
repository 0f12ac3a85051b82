/- A word of what was brought is another one. -/
import Derived.Test.YtfjfobpdlmdddaaHCollR
import Derived.Lib.SmallJoins
namespace Go.Proofs.Ytfjfobpdlmdddaa
set_option maxRecDepth 100000
open Go.RowKit Go.Maps
theorem wcs_set (x : Wd) : ∀ (l : List Wd) (i : Nat), i < l.length → wcs (l.set i x) = (((wcs l).set (i * 3) (.int .i64 x.k)).set (i * 3 + 1) (.int .i64 x.n)).set (i * 3 + 2) (.string x.s)
  | y :: r, 0, _ => by simp [wcs]
  | y :: r, i + 1, hi => by
    have ih := wcs_set x r i (by simpa using hi)
    have e : ∀ (z : Wd) (t : List Wd), wcs (z :: t) = [.int .i64 z.k, .int .i64 z.n, .string z.s] ++ wcs t := fun z t => by simp [wcs]
    rw [List.set_cons_succ, e, e, ih, List.set_append_right _ _ (by simp; omega), List.set_append_right _ _ (by simp; omega), List.set_append_right _ _ (by simp; omega)]
    simp only [List.length_cons, List.length_nil]
    rw [show (i + 1) * 3 - (0 + 1 + 1 + 1) = i * 3 by omega, show (i + 1) * 3 + 1 - (0 + 1 + 1 + 1) = i * 3 + 1 by omega, show (i + 1) * 3 + 2 - (0 + 1 + 1 + 1) = i * 3 + 2 by omega]
theorem WdL.put {w : World} {B g n cap : Nat} {l : List Wd} (h : WdL w B (.slice (some ⟨g, 0, none⟩) n cap) l) {q : Nat} (hq : q < l.length) (x : Wd) : WdL (set3 w g (q * 3) (.int .i64 x.k) (.int .i64 x.n) (.string x.s)) B (.slice (some ⟨g, 0, none⟩) n cap) (l.set q x) := by
  rcases h.2 with ⟨hv, _⟩ | ⟨g', cap', cur, hv, hb, hc, hn, hm, hsz, hcut⟩
  · injection hv with hv; cases hv
  · injection hv with h1 h2 h3
    injection h1 with h1; injection h1 with h1
    subst h1 h3
    have k1 := Joins.block_setCell (i := q * 3) hc (.int .i64 x.k)
    have k2 := Joins.block_setCell (i := q * 3 + 1) k1 (.int .i64 x.n)
    have k3 := Joins.block_setCell (i := q * 3 + 2) k2 (.string x.s)
    refine ⟨by rw [wcs_length], Or.inr ⟨g, cap, _, by rw [List.length_set, ← h2], hb, k3, by rw [List.length_set]; exact hn, hm, by simpa using hsz, ?_⟩⟩
    rw [wcs_set x l q hq, List.length_set, ← hcut]
    simp only [Array.toList_setIfInBounds]
    rw [List.take_set, List.take_set, List.take_set]
end Go.Proofs.Ytfjfobpdlmdddaa

/- code.Check, code.CheckMove; what came in, opened. -/
import Derived.Test.YteblglkmkakcjaaCWalk
import Derived.Test.YteblglkmkakcjaaCOpen
import Derived.RegionTactic
import Derived.Deep.RegionWith
namespace Go.Proofs.Yteblglkmkakcjaa
set_option maxRecDepth 100000
open Go.ChangeShapes Go.WideShapes Go.ChangeAt Go.RowKit Go.Maps
theorem expr_in {H : Type} {enc : TypeId × Value → H} {W : World} {v : Value} {d : DataW H} {p : List MemPlace} {base : Nat} (hv : Value.okWide Try.prog W .any base 28 v)
    (h : DataW.Trod enc Try.prog W 0 (fun _ => true) true 28 v d p) (hw : InR Try.prog 28 d) : ∃ x ks e, v = xv x (List.length ks) ∧ FineX W W.heap.size e (.mk x ks) := by
  obtain ⟨cs, rfl, hsz⟩ := okWide_struct Try.underlying28 hv
  obtain ⟨fuel, hf⟩ := h
  obtain ⟨x, ks, e, hx, hF⟩ := node_of _ fuel cs.toList (d, p) (by simpa [Value.cells] using hf) (by rw [Array.length_toList, hsz, cellsX]) hw (Nat.le_refl _)
  refine ⟨x, ks, e, ?_, hF⟩
  have e2 : cs = (xl x ks.length).toArray := by rw [← hx]
  rw [e2]
theorem no_strs (w : World) (B : Nat) (a : Option Addr) : Strs w B a [] := fun i hi => absurd hi (by simp)
set_option maxHeartbeats 2000000 in
theorem cCheck_any (W : World) (B : Nat) (x : Xn) (ks : List Ex) (d : Nat) (w : World) (hW : Below B W w) (hB : B ≤ w.heap.size) (hF : FineX W B d (.mk x ks)) :
    Calls Try.prog 5 #[xv x ks.length] w fun e w' => e = .returned (.int .i64 (exI W false 0 d [] (.mk x ks))) ∧ Below w.heap.size w w' := by
  have hb0 := hid ((Below.refl w.heap.size w).alloc (Nat.le_refl _) (.cells (xcs x ks.length) 28))
  have HBx := hid (fun (w' : World) (h : Below (w.heap.size + 1) (w.alloc (.cells (xcs x ks.length) 28)) w') => lies_new h)
  have HC := hid (fun (w' : World) (p : Nat) (h : Below (w.heap.size + 1) (w.alloc (.cells (xcs x ks.length) 28)) w') (ho : Owns w' p prims) => ccheck_any W B false 0 d x ks p none [] 0 0 w' ((hW.trans (hb0.out.mono hB)).trans (h.mono (by omega))) (by have := h.size; simp at this; omega) hF ho (no_strs _ _ _) rfl (by omega) (by omega))
  generalize exI W false 0 d [] (.mk x ks) = R at HC ⊢
  generalize ks.length = m at *
  clear hF
  obtain ⟨k, dk, dn, ds, da, dl, dc, s, n, na, ns, nc, aa, ac⟩ := x
  dsimp only [xv, xcs, ckv] at *
  generalize hnn : ns.length = nl at *
  have HNl := hid hnn
  clear hnn
  go_enter Try.func5, Try.ntmps5
  go_wp2_with fail
  go_region_with (first
    | (go_at_call 9; refine (newPrims_any _).mono ?_; rintro e w2 ⟨p, rfl, hown, _, hb⟩
       have hb2 : Below (w.heap.size + 1) (w.alloc (.cells #[.int .i64 k, .int .i64 dk, .int .i64 dn, .string ds, .slice da dl dc, .string s, .int .i64 n, .slice na nl nc, .slice aa m ac] 28)) w2 := ⟨hb.os, hb.tape, hb.output, hb.size, fun i hi => hb.block i (by simpa using hi)⟩
       obtain ⟨c0, c1, c2, c3, c4, c5, c6, c7, c8⟩ := HBx.out _ hb2
       dsimp only at c0 c1 c2 c3 c4 c5 c6 c7 c8; rw [HNl.out] at c7)
    | (go_at_call 10; refine (HC.out w2 p hb2 hown).mono ?_; rintro e w3 ⟨rfl, hb3⟩))
  all_goals
    go_wp2_with fail
    go_ret
    have hz := hb2.size
    simp at hz
    exact ⟨rfl, (hb0.out.trans (hb2.mono (by omega))).trans (hb3.mono (by omega))⟩
set_option maxHeartbeats 2000000 in
theorem cMove_any (W : World) (B : Nat) (x : Xn) (ks : List Ex) (d : Nat) (olds : Int) (w : World) (hW : Below B W w) (hB : B ≤ w.heap.size) (hF : FineX W B d (.mk x ks)) :
    Calls Try.prog 7 #[xv x ks.length, .int .i64 olds] w fun e w' => e = .returned (.int .i64 (if olds < 0 ∨ 6 < olds then 2 else exI W true olds d [] (.mk x ks))) ∧ Below w.heap.size w w' := by
  have hb0 := hid ((Below.refl w.heap.size w).alloc (Nat.le_refl _) (.cells (xcs x ks.length) 28))
  have HBx := hid (fun (w' : World) (h : Below (w.heap.size + 1) (w.alloc (.cells (xcs x ks.length) 28)) w') => lies_new h)
  have HC := hid (fun (w' : World) (p : Nat) (h : Below (w.heap.size + 1) (w.alloc (.cells (xcs x ks.length) 28)) w') (ho : Owns w' p prims) => ccheck_any W B true olds d x ks p none [] 0 0 w' ((hW.trans (hb0.out.mono hB)).trans (h.mono (by omega))) (by have := h.size; simp at this; omega) hF ho (no_strs _ _ _) rfl (by omega) (by omega))
  generalize exI W true olds d [] (.mk x ks) = R at HC ⊢
  generalize ks.length = m at *
  clear hF
  obtain ⟨k, dk, dn, ds, da, dl, dc, s, n, na, ns, nc, aa, ac⟩ := x
  dsimp only [xv, xcs, ckv] at *
  generalize hnn : ns.length = nl at *
  have HNl := hid hnn
  clear hnn
  by_cases hr : olds < 0 ∨ 6 < olds
  · have HR := hid (show (if olds < 0 ∨ 6 < olds then 2 else R) = 2 from if_pos hr)
    rw [HR.out]
    rcases hr with hr | hr
    · go_enter Try.func7, Try.ntmps7
      go_wp2_with fail
      go_ret
      exact ⟨rfl, hb0.out⟩
    · have hr2 : ¬ olds < 0 := by omega
      go_enter Try.func7, Try.ntmps7
      go_wp2_with fail
      go_ret
      exact ⟨rfl, hb0.out⟩
  · have HR := hid (show (if olds < 0 ∨ 6 < olds then 2 else R) = R from if_neg hr)
    rw [HR.out]
    have hr1 : ¬ olds < 0 := by omega
    have hr2 : ¬ 6 < olds := by omega
    go_enter Try.func7, Try.ntmps7
    go_wp2_with fail
    go_region_with (first
      | (go_at_call 9; refine (newPrims_any _).mono ?_; rintro e w2 ⟨p, rfl, hown, _, hb⟩
         have hb2 : Below (w.heap.size + 1) (w.alloc (.cells #[.int .i64 k, .int .i64 dk, .int .i64 dn, .string ds, .slice da dl dc, .string s, .int .i64 n, .slice na nl nc, .slice aa m ac] 28)) w2 := ⟨hb.os, hb.tape, hb.output, hb.size, fun i hi => hb.block i (by simpa using hi)⟩
         obtain ⟨c0, c1, c2, c3, c4, c5, c6, c7, c8⟩ := HBx.out _ hb2
         dsimp only at c0 c1 c2 c3 c4 c5 c6 c7 c8; rw [HNl.out] at c7)
      | (go_at_call 10; refine (HC.out w2 p hb2 hown).mono ?_; rintro e w3 ⟨rfl, hb3⟩))
    all_goals
      go_wp2_with fail
      go_ret
      have hz := hb2.size
      simp at hz
      exact ⟨rfl, (hb0.out.trans (hb2.mono (by omega))).trans (hb3.mono (by omega))⟩
end Go.Proofs.Yteblglkmkakcjaa

/- The words of the language in memory: newWords makes both maps. -/
import Derived.Test.YteblglkmkakcjaaUWords
namespace Go.Proofs.Yteblglkmkakcjaa
set_option maxRecDepth 100000
open Go.RowKit Go.WideMaps Go.Maps
abbrev Owns (w : World) (b : Nat) (l : List (List UInt8 × Int)) : Prop := w.ownsMap Try.prog 9 (plainElem (H := Unit) Try.prog 3) b l.length (filled l)
/-- One map of the call's own is being filled. -/
structure Fill1 (w0 w : World) (b : Nat) (l : List (List UInt8 × Int)) : Prop where
  bel : Below w0.heap.size w0 w
  own : Owns w b l
  new : w0.heap.size ≤ b
/-- A second one, beside the first. -/
structure Fill2 (w0 w : World) (k : Nat) (lk : List (List UInt8 × Int)) (b : Nat) (l : List (List UInt8 × Int)) : Prop where
  one : Fill1 w0 w k lk
  own : Owns w b l
  new : w0.heap.size ≤ b
  ne : ¬ k = b
theorem Fill1.made {w0 w : World} (h : Below w0.heap.size w0 w) {b : Nat} (hb : b = w.heap.size) : Fill1 w0 (w.alloc (.map #[] 0)) b [] := by
  subst hb
  exact ⟨h.alloc h.size _, World.ownsMap_made _ _ _ _, h.size⟩
theorem Fill2.made {w0 w : World} {k : Nat} {lk : List (List UInt8 × Int)} (h : Fill1 w0 w k lk) : Fill2 w0 (w.alloc (.map #[] 0)) k lk w.heap.size [] :=
  ⟨⟨h.bel.alloc h.bel.size _, h.own.alloc _, h.new⟩, World.ownsMap_made _ _ _ _, h.bel.size, Nat.ne_of_lt h.own.lt⟩
theorem ins_own {w : World} {b : Nat} {l : List (List UInt8 × Int)} (h : Owns w b l) (hn : l.length < maxLen) {s : ByteArray} {c : Int} (hs : s.size ≤ maxLen) (hc : (Lit.int .i64 c).wf = true) :
    ∃ w', (Instr.mapUpdate 34 (.map (some b)) (.string s) (.int .i64 c)).run Try.prog w = .ok () w' ∧ Owns w' b ((s.data.toList, c) :: l) ∧ w.grownBy w' (some b) :=
  World.ownsMap.update h lawK Try.underlying34 hn (keyOf_string_mk Try.underlying9 hs) (plainElem_int Try.underlying3 hc)
theorem Fill1.ins {w0 w w' : World} {b : Nat} {l l' : List (List UInt8 × Int)} (h : Fill1 w0 w b l) (ho : Owns w' b l') (hg : w.grownBy w' (some b)) : Fill1 w0 w' b l' :=
  ⟨h.bel.grown hg h.bel.size (fun j hj => by cases hj; exact h.new), ho, h.new⟩
theorem Fill2.ins {w0 w w' : World} {k b : Nat} {lk l l' : List (List UInt8 × Int)} (h : Fill2 w0 w k lk b l) (ho : Owns w' b l') (hg : w.grownBy w' (some b)) : Fill2 w0 w' k lk b l' :=
  ⟨⟨h.one.bel.grown hg h.one.bel.size (fun j hj => by cases hj; exact h.new), h.one.own.kept hg (fun e => h.ne (by injection e)), h.one.new⟩, ho, h.new, h.ne⟩
theorem box2 {w w1 : World} {v0 v1 : Value} {t : TypeId} (hb : Below (w.alloc (.cells #[v0, v1] t)).heap.size (w.alloc (.cells #[v0, v1] t)) w1) :
    w1.cell? ⟨w.heap.size, 0, none⟩ = some v0 ∧ w1.cell? ⟨w.heap.size, 1, none⟩ = some v1 ∧ w1.frozen? ⟨w.heap.size, 0, none⟩ = false ∧ w1.frozen? ⟨w.heap.size, 1, none⟩ = false := by
  have hl : w.heap.size < (w.alloc (.cells #[v0, v1] t)).heap.size := by simp
  refine ⟨?_, ?_, ?_, ?_⟩
  · rw [hb.cell (p := ⟨w.heap.size, 0, none⟩) hl]; go_simp
  · rw [hb.cell (p := ⟨w.heap.size, 1, none⟩) hl]; go_simp
  · rw [hb.frozen (p := ⟨w.heap.size, 0, none⟩) hl]; go_simp
  · rw [hb.frozen (p := ⟨w.heap.size, 1, none⟩) hl]; go_simp
theorem ins1 {w0 w : World} {ops : Array Oper} {rest : List Oper} {o : Oper} {a : Act} {Q : Exit → Act → World → Prop}
    (hg : o.guard = none) (m x v : Operand) (hop : o.op = Op.insert 34 m x v) (b : Nat) (l : List (List UInt8 × Int)) (s : ByteArray) (c : Int)
    (hm : a.eval m = .map (some b)) (hx : a.eval x = .string s) (hv : a.eval v = .int .i64 c) (hF : Fill1 w0 w b l) (hn : l.length < maxLen) (hs : s.size ≤ maxLen) (hc : (Lit.int .i64 c).wf = true)
    (hK : ∀ w', Fill1 w0 w' b ((s.data.toList, c) :: l) → wpList Try.prog ops Q rest (a.put o.dst undef) w') :
    wpList Try.prog ops Q (o :: rest) a w := by
  refine wpList_plain hg fun K' hK' => ?_
  obtain ⟨w', hrun, r1, r2⟩ := ins_own hF.own hn hs hc
  unfold Oper.wp
  simp [execOp, hop, hm, hx, hv, hrun, Result.andThen]
  exact hK' _ _ (hK w' (hF.ins r1 r2))
theorem ins2 {w0 w : World} {ops : Array Oper} {rest : List Oper} {o : Oper} {a : Act} {Q : Exit → Act → World → Prop}
    (hg : o.guard = none) (m x v : Operand) (hop : o.op = Op.insert 34 m x v) (k b : Nat) (lk l : List (List UInt8 × Int)) (s : ByteArray) (c : Int)
    (hm : a.eval m = .map (some b)) (hx : a.eval x = .string s) (hv : a.eval v = .int .i64 c) (hF : Fill2 w0 w k lk b l) (hn : l.length < maxLen) (hs : s.size ≤ maxLen) (hc : (Lit.int .i64 c).wf = true)
    (hK : ∀ w', Fill2 w0 w' k lk b ((s.data.toList, c) :: l) → wpList Try.prog ops Q rest (a.put o.dst undef) w') :
    wpList Try.prog ops Q (o :: rest) a w := by
  refine wpList_plain hg fun K' hK' => ?_
  obtain ⟨w', hrun, r1, r2⟩ := ins_own hF.own hn hs hc
  unfold Oper.wp
  simp [execOp, hop, hm, hx, hv, hrun, Result.andThen]
  exact hK' _ _ (hK w' (hF.ins r1 r2))
set_option maxHeartbeats 4000000 in
set_option maxRecDepth 100000 in
theorem newWords_any (w : World) :
    Calls Try.prog 37 #[] w fun e w' => ∃ k p, e = .returned (.agg #[.map (some k), .map (some p)]) ∧ Fill2 w w' k keyws p prims := by
  have hmm := @run_makeMap Try.prog
  obtain ⟨w0, hw0⟩ : ∃ w0, w0 = w.alloc (.cells #[.map none, .map none] 60) := ⟨_, rfl⟩
  have h0 : Hid (Fill1 w0 ((w.alloc (.cells #[.map none, .map none] 60)).alloc (.map #[] 0)) (w.heap.size + 1) []) :=
    hid (Fill1.made (by rw [← hw0]; exact Below.refl _ _) (by simp))
  have hbx : ∀ w1 k lk b l, Fill2 w0 w1 k lk b l → w1.cell? ⟨w.heap.size, 0, none⟩ = some (.map none) ∧ w1.cell? ⟨w.heap.size, 1, none⟩ = some (.map none) ∧ w1.frozen? ⟨w.heap.size, 0, none⟩ = false ∧ w1.frozen? ⟨w.heap.size, 1, none⟩ = false :=
    fun w1 k lk b l h => box2 (by have := h.one.bel; rw [hw0] at this; exact this)
  have HW := hid hw0
  clear hw0
  go_enter Try.func37, Try.ntmps37
  go_wp2_with (first
    | (refine ins1 (w0 := w0) rfl _ _ _ rfl _ _ _ _ rfl rfl rfl (by first | exact h0.out | assumption) (by unfold maxLen; simp) (by decide) (WalkArith.wf_i64 (by omega)) ?_; intro w1 hF)
    | (refine ins2 (w0 := w0) rfl _ _ _ rfl _ _ _ _ _ _ rfl rfl rfl (by first | exact Fill2.made (by assumption) | assumption) (by unfold maxLen; simp) (by decide) (WalkArith.wf_i64 (by omega)) ?_; intro w1 hF; obtain ⟨g0, g1, f0, f1⟩ := hbx _ _ _ _ _ hF))
  have hz : w0.heap.size = w.heap.size + 1 := by rw [HW.out]; simp
  have hk := hF.one.new
  have hp := hF.new
  have hB : Below w.heap.size w w1 := ((Below.refl _ _).alloc (Nat.le_refl _) _).trans ((show Below w0.heap.size (w.alloc (.cells #[.map none, .map none] 60)) w1 from HW.out ▸ hF.one.bel).mono (by omega))
  refine bodyPost_ret (v := .agg #[.map (some _), .map (some _)]) (by simp [results, Try.results37, go_sem, g0, g1]; exact ⟨rfl, rfl⟩) rfl ?_
  refine ⟨_, _, rfl, ⟨⟨(hB.setCell (p := ⟨w.heap.size, 0, none⟩) (Nat.le_refl _) _).setCell (p := ⟨w.heap.size, 1, none⟩) (Nat.le_refl _) _, (hF.one.own.setCell (Nat.ne_of_gt (show w.heap.size < _ by omega)) _).setCell (Nat.ne_of_gt (show w.heap.size < _ by omega)) _, by omega⟩, (hF.own.setCell (Nat.ne_of_gt (show w.heap.size < _ by omega)) _).setCell (Nat.ne_of_gt (show w.heap.size < _ by omega)) _, by omega, hF.ne⟩⟩
end Go.Proofs.Yteblglkmkakcjaa

/- The words of the language in memory; free names: unit's own words, isName, isFree. · The words of the language in memory: newWords makes both maps. · Is a text a name that may be bound: unit's isFree. · Texts in a row; is a text among them: slices.Contains and the document's isIn. · Words in memory; heap's isPlain, hasInt, planOf. · What begins at an address: heap's thingAt. · The chart of a heap in memory: its words, its things, its two maps. -/
import Derived.Test.YtldmanfgmadbfaaGreatDoorQ01
import Derived.Maps.OwnSet
import Derived.Carry
import Derived.Maps.OwnOps
import Derived.Lib.SlicesS
import Derived.Deep.LoopGhost
import Derived.Test.YtldmanfgmadbfaaGreatDoorChecked
import Derived.WalkKit
import Derived.WalkSpells
import Derived.WalkLawsBesides
import Derived.Below
import Derived.Deep.QuietTactic
import Derived.BigQuiet
import Derived.Deep.Draws
import Derived.Deep.Light
import Derived.Deep.DeepFit
import Derived.RegionTactic
import Derived.Deep.RegionWith
import Derived.Deep.AppendLies
import Derived.Deep.RegionLaw
namespace Go.Proofs.YtldmanfgmadbfaaGreatDoor.UU
set_option maxRecDepth 100000
open Go.RowKit Go.Maps
theorem lawK : Keyed Tryz.prog 9 := string_keyed Tryz.underlying9
theorem zeroI (w : World) : (zeroValue 3).run Tryz.prog w = .ok (.int .i64 0) w := by kernel_rfl
set_option maxHeartbeats 400000 in
theorem check_leaf (n : Int) (s : ByteArray) (w : World) (hs : s.size ≤ 9223372036854775807) :
    Calls Tryz.prog 100 #[.agg #[.int .i64 3, .int .i64 n, .string s, .slice none 0 0]] w fun e w' => e = .returned (.int .i64 (fltI w 40 3 n s none 0)) ∧ Below w.heap.size w w' := by
  have HW : Hid (Below w.heap.size w (w.alloc (.cells #[.int .i64 3, .int .i64 n, .string s, .slice none 0 0] 162))) := (Below.refl _ _).alloc (Nat.le_refl _) _
  go_enter Tryz.func100, Tryz.ntmps100
  go_wp2_with fail
  have hcall := within_any w w.heap.size 40 3 n s none 0 0 0 _ (by omega) (by omega) HW.out (by simp) ⟨hs, by omega, fun i hi => absurd hi (by omega)⟩
  go_fit hcall
  rintro e w2 ⟨rfl, hb2⟩
  go_wp2_with fail
  go_ret
  exact ⟨rfl, ((Below.refl _ _).alloc (Nat.le_refl _) _).trans (hb2.mono (by simp))⟩
theorem leaf_name (w : World) (s : ByteArray) : (fltI w 40 3 0 s none 0 = 0) ↔ nameB s.data.toList = true := by
  have e : aloneI 3 0 s 0 (39 - ((39 : Nat) : Int)) = if nameB s.data.toList = false then 4 else 0 := by
    unfold aloneI
    rw [if_neg (by omega), if_neg (by omega), if_neg (by omega), if_neg (by omega)]
    by_cases h : nameB s.data.toList = false
    · rw [if_pos ⟨rfl, h⟩, if_pos h]
    · rw [if_neg (fun x => h x.2), if_neg h, if_neg (by simp [moreB])]
  by_cases h : nameB s.data.toList = true
  · have e0 : aloneI 3 0 s 0 (39 - ((39 : Nat) : Int)) = 0 := by rw [e, if_neg (by simp [h])]
    rw [fltI_pos w 39 3 0 s none 0 e0]
    exact ⟨fun _ => h, fun _ => rfl⟩
  · have h' : nameB s.data.toList = false := by simpa using h
    have e4 : aloneI 3 0 s 0 (39 - ((39 : Nat) : Int)) = 4 := by rw [e, if_pos h']
    rw [fltI_neg w 39 3 0 s none 0 (by rw [e4]; decide), e4]
    exact ⟨fun x => absurd x (by decide), fun x => absurd x h⟩
set_option maxHeartbeats 400000 in
theorem uisName_any (s : ByteArray) (w : World) (hs : s.size ≤ 9223372036854775807) :
    Calls Tryz.prog 96 #[.string s] w fun e w' => e = .returned (.bool (nameB s.data.toList)) ∧ Below w.heap.size w w' := by
  have hn := hid (leaf_name w s)
  go_enter Tryz.func96, Tryz.ntmps96
  go_wp2_with (go_at_call 100; refine (check_leaf _ _ _ hs).mono ?_; rintro e w' ⟨rfl, hb⟩)
  go_ret
  refine ⟨ret_bool ?_, hb⟩
  rw [Bool.eq_iff_iff, ← hn.out]; simp
end Go.Proofs.YtldmanfgmadbfaaGreatDoor.UU
namespace Go.Proofs.YtldmanfgmadbfaaGreatDoor.UU
set_option maxRecDepth 100000
open Go.RowKit Go.WideMaps Go.Maps
abbrev Owns (w : World) (b : Nat) (l : List (List UInt8 × Int)) : Prop := w.ownsMap Tryz.prog 9 (plainElem (H := Unit) Tryz.prog 3) b l.length (filled l)
/-- One map of the call's own is being filled. -/
structure Fill1 (w0 w : World) (b : Nat) (l : List (List UInt8 × Int)) : Prop where
  bel : Below w0.heap.size w0 w
  own : Owns w b l
  new : w0.heap.size ≤ b
/-- A second one, beside the first. -/
structure Fill2 (w0 w : World) (k : Nat) (lk : List (List UInt8 × Int)) (b : Nat) (l : List (List UInt8 × Int)) : Prop where
  one : Fill1 w0 w k lk
  own : Owns w b l
  new : w0.heap.size ≤ b
  ne : ¬ k = b
theorem Fill1.made {w0 w : World} (h : Below w0.heap.size w0 w) {b : Nat} (hb : b = w.heap.size) : Fill1 w0 (w.alloc (.map #[] 0)) b [] := by
  subst hb
  exact ⟨h.alloc h.size _, World.ownsMap_made _ _ _ _, h.size⟩
theorem Fill2.made {w0 w : World} {k : Nat} {lk : List (List UInt8 × Int)} (h : Fill1 w0 w k lk) : Fill2 w0 (w.alloc (.map #[] 0)) k lk w.heap.size [] :=
  ⟨⟨h.bel.alloc h.bel.size _, h.own.alloc _, h.new⟩, World.ownsMap_made _ _ _ _, h.bel.size, Nat.ne_of_lt h.own.lt⟩
theorem ins_own {w : World} {b : Nat} {l : List (List UInt8 × Int)} (h : Owns w b l) (hn : l.length < maxLen) {s : ByteArray} {c : Int} (hs : s.size ≤ maxLen) (hc : (Lit.int .i64 c).wf = true) :
    ∃ w', (Instr.mapUpdate 100 (.map (some b)) (.string s) (.int .i64 c)).run Tryz.prog w = .ok () w' ∧ Owns w' b ((s.data.toList, c) :: l) ∧ w.grownBy w' (some b) :=
  World.ownsMap.update h lawK Tryz.underlying100 hn (keyOf_string_mk Tryz.underlying9 hs) (plainElem_int Tryz.underlying3 hc)
theorem Fill1.ins {w0 w w' : World} {b : Nat} {l l' : List (List UInt8 × Int)} (h : Fill1 w0 w b l) (ho : Owns w' b l') (hg : w.grownBy w' (some b)) : Fill1 w0 w' b l' :=
  ⟨h.bel.grown hg h.bel.size (fun j hj => by cases hj; exact h.new), ho, h.new⟩
theorem Fill2.ins {w0 w w' : World} {k b : Nat} {lk l l' : List (List UInt8 × Int)} (h : Fill2 w0 w k lk b l) (ho : Owns w' b l') (hg : w.grownBy w' (some b)) : Fill2 w0 w' k lk b l' :=
  ⟨⟨h.one.bel.grown hg h.one.bel.size (fun j hj => by cases hj; exact h.new), h.one.own.kept hg (fun e => h.ne (by injection e)), h.one.new⟩, ho, h.new, h.ne⟩
theorem box2 {w w1 : World} {v0 v1 : Value} {t : TypeId} (hb : Below (w.alloc (.cells #[v0, v1] t)).heap.size (w.alloc (.cells #[v0, v1] t)) w1) :
    w1.cell? ⟨w.heap.size, 0, none⟩ = some v0 ∧ w1.cell? ⟨w.heap.size, 1, none⟩ = some v1 ∧ w1.frozen? ⟨w.heap.size, 0, none⟩ = false ∧ w1.frozen? ⟨w.heap.size, 1, none⟩ = false := by
  have hl : w.heap.size < (w.alloc (.cells #[v0, v1] t)).heap.size := by simp
  refine ⟨?_, ?_, ?_, ?_⟩
  · rw [hb.cell (p := ⟨w.heap.size, 0, none⟩) hl]; go_simp
  · rw [hb.cell (p := ⟨w.heap.size, 1, none⟩) hl]; go_simp
  · rw [hb.frozen (p := ⟨w.heap.size, 0, none⟩) hl]; go_simp
  · rw [hb.frozen (p := ⟨w.heap.size, 1, none⟩) hl]; go_simp
theorem ins1 {w0 w : World} {ops : Array Oper} {rest : List Oper} {o : Oper} {a : Act} {Q : Exit → Act → World → Prop}
    (hg : o.guard = none) (m x v : Operand) (hop : o.op = Op.insert 100 m x v) (b : Nat) (l : List (List UInt8 × Int)) (s : ByteArray) (c : Int)
    (hm : a.eval m = .map (some b)) (hx : a.eval x = .string s) (hv : a.eval v = .int .i64 c) (hF : Fill1 w0 w b l) (hn : l.length < maxLen) (hs : s.size ≤ maxLen) (hc : (Lit.int .i64 c).wf = true)
    (hK : ∀ w', Fill1 w0 w' b ((s.data.toList, c) :: l) → wpList Tryz.prog ops Q rest (a.put o.dst undef) w') :
    wpList Tryz.prog ops Q (o :: rest) a w := by
  refine wpList_plain hg fun K' hK' => ?_
  obtain ⟨w', hrun, r1, r2⟩ := ins_own hF.own hn hs hc
  unfold Oper.wp
  simp [execOp, hop, hm, hx, hv, hrun, Result.andThen]
  exact hK' _ _ (hK w' (hF.ins r1 r2))
theorem ins2 {w0 w : World} {ops : Array Oper} {rest : List Oper} {o : Oper} {a : Act} {Q : Exit → Act → World → Prop}
    (hg : o.guard = none) (m x v : Operand) (hop : o.op = Op.insert 100 m x v) (k b : Nat) (lk l : List (List UInt8 × Int)) (s : ByteArray) (c : Int)
    (hm : a.eval m = .map (some b)) (hx : a.eval x = .string s) (hv : a.eval v = .int .i64 c) (hF : Fill2 w0 w k lk b l) (hn : l.length < maxLen) (hs : s.size ≤ maxLen) (hc : (Lit.int .i64 c).wf = true)
    (hK : ∀ w', Fill2 w0 w' k lk b ((s.data.toList, c) :: l) → wpList Tryz.prog ops Q rest (a.put o.dst undef) w') :
    wpList Tryz.prog ops Q (o :: rest) a w := by
  refine wpList_plain hg fun K' hK' => ?_
  obtain ⟨w', hrun, r1, r2⟩ := ins_own hF.own hn hs hc
  unfold Oper.wp
  simp [execOp, hop, hm, hx, hv, hrun, Result.andThen]
  exact hK' _ _ (hK w' (hF.ins r1 r2))
set_option maxHeartbeats 4000000 in
set_option maxRecDepth 100000 in
theorem newWords_any (w : World) :
    Calls Tryz.prog 84 #[] w fun e w' => ∃ k p, e = .returned (.agg #[.map (some k), .map (some p)]) ∧ Fill2 w w' k keyws p prims := by
  have hmm := @run_makeMap Tryz.prog
  obtain ⟨w0, hw0⟩ : ∃ w0, w0 = w.alloc (.cells #[.map none, .map none] 142) := ⟨_, rfl⟩
  have h0 : Hid (Fill1 w0 ((w.alloc (.cells #[.map none, .map none] 142)).alloc (.map #[] 0)) (w.heap.size + 1) []) :=
    hid (Fill1.made (by rw [← hw0]; exact Below.refl _ _) (by simp))
  have hbx : ∀ w1 k lk b l, Fill2 w0 w1 k lk b l → w1.cell? ⟨w.heap.size, 0, none⟩ = some (.map none) ∧ w1.cell? ⟨w.heap.size, 1, none⟩ = some (.map none) ∧ w1.frozen? ⟨w.heap.size, 0, none⟩ = false ∧ w1.frozen? ⟨w.heap.size, 1, none⟩ = false :=
    fun w1 k lk b l h => box2 (by have := h.one.bel; rw [hw0] at this; exact this)
  have HW := hid hw0
  clear hw0
  go_enter Tryz.func84, Tryz.ntmps84
  go_wp2_with (first
    | (refine ins1 (w0 := w0) rfl _ _ _ rfl _ _ _ _ rfl rfl rfl (by first | exact h0.out | assumption) (by unfold maxLen; simp) (by decide) (WalkArith.wf_i64 (by omega)) ?_; intro w1 hF)
    | (refine ins2 (w0 := w0) rfl _ _ _ rfl _ _ _ _ _ _ rfl rfl rfl (by first | exact Fill2.made (by assumption) | assumption) (by unfold maxLen; simp) (by decide) (WalkArith.wf_i64 (by omega)) ?_; intro w1 hF; obtain ⟨g0, g1, f0, f1⟩ := hbx _ _ _ _ _ hF))
  have hz : w0.heap.size = w.heap.size + 1 := by rw [HW.out]; simp
  have hk := hF.one.new
  have hp := hF.new
  have hB : Below w.heap.size w w1 := ((Below.refl _ _).alloc (Nat.le_refl _) _).trans ((show Below w0.heap.size (w.alloc (.cells #[.map none, .map none] 142)) w1 from HW.out ▸ hF.one.bel).mono (by omega))
  refine bodyPost_ret (v := .agg #[.map (some _), .map (some _)]) (by simp [results, Tryz.results84, go_sem, g0, g1]; exact ⟨rfl, rfl⟩) rfl ?_
  refine ⟨_, _, rfl, ⟨⟨(hB.setCell (p := ⟨w.heap.size, 0, none⟩) (Nat.le_refl _) _).setCell (p := ⟨w.heap.size, 1, none⟩) (Nat.le_refl _) _, (hF.one.own.setCell (Nat.ne_of_gt (show w.heap.size < _ by omega)) _).setCell (Nat.ne_of_gt (show w.heap.size < _ by omega)) _, by omega⟩, (hF.own.setCell (Nat.ne_of_gt (show w.heap.size < _ by omega)) _).setCell (Nat.ne_of_gt (show w.heap.size < _ by omega)) _, by omega, hF.ne⟩⟩
end Go.Proofs.YtldmanfgmadbfaaGreatDoor.UU
namespace Go.Proofs.YtldmanfgmadbfaaGreatDoor.UU
set_option maxRecDepth 100000
open Go.RowKit Go.WideMaps Go.Maps
/-- The words lie in memory. -/
structure Words (w : World) (k p : Nat) : Prop where
  keys : Owns w k keyws
  pris : Owns w p prims
theorem Words.below {w w' : World} {k p : Nat} (h : Words w k p) (hb : Below w.heap.size w w') : Words w' k p := by
  have h1 := h.keys.lt
  have h2 := h.pris.lt
  obtain ⟨es, c, e1, e2⟩ := h.keys
  obtain ⟨es', c', e1', e2'⟩ := h.pris
  exact ⟨⟨es, c, (hb.block _ h1).trans e1, e2⟩, ⟨es', c', (hb.block _ h2).trans e1', e2'⟩⟩
theorem val_at {s : List UInt8} {l : List (List UInt8 × Int)} {c : Int} (h : (filled l).atKey (.string s) (.lit (.int .i64 0)) = .lit (.int .i64 c)) : c = valOf l s := by
  rw [filled_at] at h
  injection h with h; injection h with _ h; exact h.symm
set_option maxHeartbeats 1000000 in
theorem isFree_any (k p : Nat) (s : ByteArray) (w : World) (hs : s.size ≤ maxLen) (hW : Words w k p) :
    Calls Tryz.prog 95 #[.agg #[.map (some k), .map (some p)], .string s] w fun e w' => e = .returned (.bool (freeB s.data.toList)) ∧ Below w.heap.size w w' := by
  have hs2 : s.size ≤ 9223372036854775807 := by unfold maxLen at hs; omega
  go_enter Tryz.func95, Tryz.ntmps95
  have hB0 := hid ((Below.refl w.heap.size w).alloc (Nat.le_refl _) (.cells #[.map (some k), .map (some p)] 142))
  go_wp2_with (go_at_call 96; refine (uisName_any _ _ hs2).mono ?_; rintro e w1 ⟨rfl, hb⟩; obtain ⟨g0, g1, f0, f1⟩ := box2 hb; have hB := hid (hB0.out.trans (hb.mono (by simp))); obtain ⟨c, hrun, hat, _⟩ := (hW.below hB.out).keys.lookup_int lawK Tryz.underlying100 Tryz.underlying3 (zeroI _) (keyOf_string_mk Tryz.underlying9 hs); obtain ⟨d, hrun2, hat2, _⟩ := (hW.below hB.out).pris.lookup_int lawK Tryz.underlying100 Tryz.underlying3 (zeroI _) (keyOf_string_mk Tryz.underlying9 hs); have hcK := hid (val_at hat); have hcP := hid (val_at hat2); clear f0 f1 hat hat2)
  all_goals (go_ret; refine ⟨ret_bool ?_, hB.out⟩)
  all_goals (unfold freeB; have e1 := hcK.out; have e2 := hcP.out; clear hcK hcP hrun hrun2 g0 g1 hb hB; simp_all)
end Go.Proofs.YtldmanfgmadbfaaGreatDoor.UU
namespace Go.Proofs.YtldmanfgmadbfaaGreatDoor.UU
set_option maxRecDepth 100000
open Go.RowKit Go.WideMaps Go.Maps
/-- Texts in a row, from an address on, in blocks below B. -/
def Strs (w : World) (B : Nat) (a : Option Addr) (ss : List ByteArray) : Prop :=
  ∀ i (h : i < ss.length), ss[i].size ≤ maxLen ∧ ∃ b o, a = some ⟨b, o, none⟩ ∧ b < B ∧ w.cell? ⟨b, o + i, none⟩ = some (.string ss[i])
theorem Strs.below {w w' : World} {B : Nat} {a : Option Addr} {ss : List ByteArray} (h : Strs w B a ss) (hb : Below B w w') : Strs w' B a ss := by
  intro i hi
  obtain ⟨h1, b, o, h2, h3, h4⟩ := h i hi
  exact ⟨h1, b, o, h2, h3, (hb.cell (p := ⟨b, o + i, none⟩) h3).trans h4⟩
theorem Strs.mono {w : World} {B B' : Nat} {a : Option Addr} {ss : List ByteArray} (h : Strs w B a ss) (hb : B ≤ B') : Strs w B' a ss := by
  intro i hi
  obtain ⟨h1, b, o, h2, h3, h4⟩ := h i hi
  exact ⟨h1, b, o, h2, Nat.lt_of_lt_of_le h3 hb, h4⟩
theorem Strs.cells {w : World} {B b o : Nat} {ss : List ByteArray} (h : Strs w B (some ⟨b, o, none⟩) ss) : ∀ j, j < ss.length → w.cell? ⟨b, o + j, none⟩ = some (.string (ss.getD j ByteArray.empty)) := by
  intro j hj
  obtain ⟨_, b', o', h2, _, h4⟩ := h j hj
  injection h2 with h2; injection h2 with h21 h22
  subst h21 h22
  rw [h4, List.getD_eq_getElem?_getD, List.getElem?_eq_getElem hj]; rfl
abbrev hasS (ss : List ByteArray) (x : ByteArray) : Bool := Lib.containsS ss x
theorem contains_any (w : World) (B : Nat) (a : Option Addr) (ss : List ByteArray) (n cap : Nat) (x : ByteArray) (hS : Strs w B a ss) (hn : n ≤ ss.length) (hm : n ≤ 9223372036854775807) :
    Calls Tryz.prog 97 #[.slice a n cap, .string x] w fun e w' => e = .returned (.bool (hasS (ss.take n) x)) ∧ w' = w := by
  cases n with
  | zero => exact Tryz.slices_Contains_string_empty a cap x w
  | succ m =>
    obtain ⟨_, b, o, rfl, _, _⟩ := hS 0 (by omega)
    exact Tryz.slices_Contains_string b o (m + 1) cap ss x w hn hm hS.cells
theorem has_no (ss : List ByteArray) (x : ByteArray) (k : Nat) (hk : k < ss.length) (h : hasS (ss.take k) x = false) (hne : ¬ ss[k] = x) : hasS (ss.take (k + 1)) x = false := by
  rw [Bool.eq_false_iff] at h ⊢
  intro e
  rw [Lib.containsS_iff, List.take_succ_eq_append_getElem hk, List.mem_append] at e
  rcases e with e | e
  · exact h ((Lib.containsS_iff _ _).2 e)
  · exact hne (by simpa using (List.mem_singleton.1 e).symm)
theorem has_yes (ss : List ByteArray) (x : ByteArray) (n k : Nat) (hk : k < ss.length) (hn : k < n) (he : ss[k] = x) : hasS (ss.take n) x = true := by
  rw [Lib.containsS_iff, ← he]
  exact List.mem_take_iff_getElem.2 ⟨k, by omega, rfl⟩
theorem bytes_eq (x y : ByteArray) : (x.toList == y.toList) = decide (x = y) := by
  rw [Bool.eq_iff_iff]
  simp only [beq_iff_eq, decide_eq_true_eq]
  constructor
  · intro h
    rw [ByteArray.toList_eq, ByteArray.toList_eq] at h
    cases x; cases y
    simp only [ByteArray.mk.injEq]
    exact Array.toList_inj.1 h
  · intro h; rw [h]
set_option maxHeartbeats 400000 in
theorem isIn_any (w : World) (B : Nat) (a : Option Addr) (ss : List ByteArray) (n cap : Nat) (x : ByteArray) (hS : Strs w B a ss) (hn : n ≤ ss.length) (hm : n ≤ 9223372036854775807) :
    Calls Tryz.prog 62 #[.slice a n cap, .string x] w fun e w' => e = .returned (.bool (hasS (ss.take n) x)) ∧ w' = w := by
  go_enter Tryz.func62, Tryz.ntmps62
  go_wp2
  go_loop [5] (fun i => ∃ k : Nat, k ≤ n ∧ i = .int .i64 k ∧ hasS (ss.take k) x = false) (fun i => n - (intOf i).toNat)
  case atStart => exact ⟨0, Nat.zero_le _, rfl, rfl⟩
  case round =>
    obtain ⟨k, hk, rfl, hno⟩ := hrel
    have HN := hid hno
    clear hno
    by_cases hlt : k < n
    · obtain ⟨_, b, o, rfl, _, hc⟩ := hS k (by omega)
      by_cases he : ss[k] = x
      · have HY := hid (has_yes ss x n k (by omega) hlt he)
        have hq : (ss[k].toList == x.toList) = true := by rw [bytes_eq]; simpa using he
        have HQ := hid he
        clear he
        generalize ss[k] = y at hc hq
        go_wp2
        go_ret
        exact ⟨ret_bool HY.out.symm, rfl⟩
      · have HY := hid (has_no ss x k (by omega) HN.out he)
        have hq : (ss[k].toList == x.toList) = false := by rw [bytes_eq]; simpa using he
        clear he
        generalize ss[k] = y at hc hq
        go_wp2
        go_round
        case rel => exact ⟨k + 1, by omega, by go_num, HY.out⟩
        case measure => simp [intOf]; omega
    · obtain rfl : k = n := by omega
      go_wp2
      go_ret
      exact ⟨ret_bool HN.out.symm, rfl⟩
end Go.Proofs.YtldmanfgmadbfaaGreatDoor.UU
namespace Go.Proofs.YtldmanfgmadbfaaGreatDoor.HH
set_option maxRecDepth 100000
open Go.RowKit
theorem hid {p : Prop} (h : p) : Hid p := h
theorem ret_bool {a b : Bool} (h : a = b) : Ending.returned (.bool a) = .returned (.bool b) := by rw [h]
theorem ret_int {k : IntKind} {a b : Int} (h : a = b) : Ending.returned (.int k a) = .returned (.int k b) := by rw [h]
theorem bdrew {B : Nat} {a w : World} (h : Below B a w) (n : Nat) : Below B a (w.drewN n) := ⟨h.os, h.tape, h.output, h.size, h.block⟩
theorem bempty (s : ByteArray) : (s.toList == ([] : List UInt8)) = decide (s.size = 0) := by
  rw [Bool.eq_iff_iff]
  simp only [beq_iff_eq, decide_eq_true_eq]
  rw [ByteArray.toList_eq]
  obtain ⟨⟨l⟩⟩ := s
  show l = [] ↔ l.length = 0
  exact List.length_eq_zero_iff.symm
/-- Words in a row, from an address on, in blocks below B. -/
def Wds (w : World) (B : Nat) (a : Option Addr) (l : List Wd) : Prop :=
  ∀ i (h : i < l.length), ∃ b o, a = some ⟨b, o, none⟩ ∧ b < B ∧ w.cell? ⟨b, o + i * 3, none⟩ = some (.int .i64 l[i].k) ∧ w.cell? ⟨b, o + i * 3 + 1, none⟩ = some (.int .i64 l[i].n) ∧ w.cell? ⟨b, o + i * 3 + 2, none⟩ = some (.string l[i].s)
theorem Wds.below {w w' : World} {B : Nat} {a : Option Addr} {l : List Wd} (h : Wds w B a l) (hb : Below B w w') : Wds w' B a l := by
  intro i hi
  obtain ⟨b, o, h2, h3, c0, c1, c2⟩ := h i hi
  exact ⟨b, o, h2, h3, (hb.cell (p := ⟨b, _, none⟩) h3).trans c0, (hb.cell (p := ⟨b, _, none⟩) h3).trans c1, (hb.cell (p := ⟨b, _, none⟩) h3).trans c2⟩
theorem Wds.mono {w : World} {B B' : Nat} {a : Option Addr} {l : List Wd} (h : Wds w B a l) (hb : B ≤ B') : Wds w B' a l := by
  intro i hi
  obtain ⟨b, o, h2, h3, h4⟩ := h i hi
  exact ⟨b, o, h2, Nat.lt_of_lt_of_le h3 hb, h4⟩
abbrev wdV (k n : Int) (s : ByteArray) : Value := .agg #[.int .i64 k, .int .i64 n, .string s]
set_option maxHeartbeats 400000 in
theorem isPlain_any (k n b : Int) (s : ByteArray) (w : World) :
    Calls Tryz.prog 90 #[.agg #[.int .i64 k, .int .i64 n, .string s], .int .i64 b] w fun e w' => e = .returned (.bool (plainB n s b)) ∧ Below w.heap.size w w' := by
  have he := hid (bempty s)
  have hB0 := hid ((Below.refl w.heap.size w).alloc (Nat.le_refl _) (.cells #[.int .i64 k, .int .i64 n, .string s] 51))
  go_enter Tryz.func90, Tryz.ntmps90
  go_wp2
  all_goals (go_ret; refine ⟨ret_bool ?_, hB0.out⟩)
  all_goals (have e := he.out; clear he hB0; simp_all [plainB])
  all_goals omega
theorem intAt_at (l : List Wd) (i : Nat) (b : Int) (h : i < l.length) : intAt l i b = (decide (l[i].k = 1) && plainB l[i].n l[i].s b) := by
  unfold intAt; rw [List.getElem?_eq_getElem h]
theorem intAt_no (l : List Wd) (i : Nat) (b : Int) (h : ¬ i < l.length) : intAt l i b = false := by
  unfold intAt; rw [List.getElem?_eq_none (by omega)]
set_option maxHeartbeats 400000 in
theorem hasInt_any (w : World) (B : Nat) (a : Option Addr) (l : List Wd) (len cap i : Nat) (b : Int) (hlen : len = l.length) (hW : Wds w B a l) :
    Calls Tryz.prog 91 #[.slice a len cap, .int .i64 i, .int .i64 b] w fun e w' => e = .returned (.bool (intAt l i b)) ∧ Below w.heap.size w w' := by
  have hL := hid hlen
  clear hlen
  by_cases hlt : i < len
  · have hi2 : i < l.length := by rw [← hL.out]; exact hlt
    have hlt2 : (i : Int) < len := by omega
    obtain ⟨bb, o, rfl, hbB, c0, c1, c2⟩ := hW i hi2
    have HX := hid (intAt_at l i b hi2)
    generalize l[i].k = k at c0 HX
    generalize l[i].n = n at c1 HX
    generalize l[i].s = s at c2 HX
    go_enter Tryz.func91, Tryz.ntmps91
    go_wp2_with (go_at_call 90; refine (isPlain_any _ _ _ _ _).mono ?_; rintro e w' ⟨rfl, hb⟩)
    all_goals (go_ret; refine ⟨ret_bool ?_, ?_⟩)
    all_goals first | exact hb | exact Below.refl _ _ | (rw [HX.out]; clear HX; simp_all)
  · have HX := hid (intAt_no l i b (by rw [← hL.out]; exact hlt))
    have hlt2 : ¬ (i : Int) < len := by omega
    go_enter Tryz.func91, Tryz.ntmps91
    go_wp2_with fail
    go_ret
    exact ⟨ret_bool HX.out.symm, Below.refl _ _⟩
set_option maxHeartbeats 400000 in
theorem planOf_any (k : Int) (w : World) :
    Calls Tryz.prog 89 #[.int .i64 k] w fun e w' => e = .returned (.agg #[.int .i64 (headsI k), .int .i64 (versI k), .int .i64 (valsI k), .bool (cntdB k)]) ∧ Below w.heap.size w w' := by
  go_enter Tryz.func89, Tryz.ntmps89
  go_wp2
  · refine bodyPost_ret (v := .agg #[.int .i64 1, .int .i64 0, .int .i64 2, .bool false]) (by simp [results, Tryz.results89, go_sem]) rfl ⟨?_, (Below.refl _ _).alloc (Nat.le_refl _) _⟩
    simp_all [headsI, versI, valsI, cntdB]
  · refine bodyPost_ret (v := .agg #[.int .i64 1, .int .i64 0, .int .i64 1, .bool false]) (by simp [results, Tryz.results89, go_sem]) rfl ⟨?_, (Below.refl _ _).alloc (Nat.le_refl _) _⟩
    simp_all [headsI, versI, valsI, cntdB]
  · refine bodyPost_ret (v := .agg #[.int .i64 2000, .int .i64 0, .int .i64 40, .bool true]) (by simp [results, Tryz.results89, go_sem]) rfl ⟨?_, (Below.refl _ _).alloc (Nat.le_refl _) _⟩
    simp_all [headsI, versI, valsI, cntdB]
  · refine bodyPost_ret (v := .agg #[.int .i64 8, .int .i64 20, .int .i64 6, .bool true]) (by simp [results, Tryz.results89, go_sem]) rfl ⟨?_, (Below.refl _ _).alloc (Nat.le_refl _) _⟩
    simp_all [headsI, versI, valsI, cntdB]
  · refine bodyPost_ret (v := .agg #[.int .i64 60000, .int .i64 1, .int .i64 6, .bool true]) (by simp [results, Tryz.results89, go_sem]) rfl ⟨?_, (Below.refl _ _).alloc (Nat.le_refl _) _⟩
    simp_all [headsI, versI, valsI, cntdB]
  · refine bodyPost_ret (v := .agg #[.int .i64 0, .int .i64 0, .int .i64 0, .bool false]) (by simp [results, Tryz.results89, go_sem]) rfl ⟨?_, (Below.refl _ _).alloc (Nat.le_refl _) _⟩
    simp_all [headsI, versI, valsI, cntdB]
end Go.Proofs.YtldmanfgmadbfaaGreatDoor.HH
namespace Go.Proofs.YtldmanfgmadbfaaGreatDoor.HH
set_option maxRecDepth 100000
open Go.RowKit
def thR (a : Nat) : Option (Nat × Nat) → Value
  | some (f, e) => .tuple #[.agg #[.int .i64 a, .int .i64 f, .int .i64 e], .bool true]
  | none => .tuple #[.agg #[.int .i64 0, .int .i64 0, .int .i64 0], .bool false]
theorem tAt_at {l : List Wd} {i : Nat} (h : i < l.length) : tAt l i = if plainB l[i].n l[i].s (headsI l[i].k) = false then none else if 0 < versI l[i].k then (if intAt l (i + 1) (versI l[i].k) = true then tailT l (i + 2) l[i].k else none) else tailT l (i + 1) l[i].k := by
  unfold tAt; rw [List.getElem?_eq_getElem h]
theorem intAt_lt {l : List Wd} {i : Nat} {b : Int} (h : intAt l i b = true) : ∃ hi : i < l.length, 0 ≤ l[i].n ∧ l[i].n < b ∧ nAt l i = l[i].n.toNat := by
  by_cases hi : i < l.length
  · rw [intAt_at l i b hi] at h
    simp [plainB] at h
    exact ⟨hi, h.2.1.1, h.2.1.2, by unfold nAt; rw [List.getElem?_eq_getElem hi]⟩
  · rw [intAt_no l i b hi] at h; cases h
theorem cells3 {w w1 : World} {B b : Nat} {v0 v1 v2 : Value} (hb : Below B w w1) (hB : b < B) (h : w.cell? ⟨b, 0, none⟩ = some v0 ∧ w.cell? ⟨b, 1, none⟩ = some v1 ∧ w.cell? ⟨b, 2, none⟩ = some v2 ∧ w.frozen? ⟨b, 0, none⟩ = false ∧ w.frozen? ⟨b, 1, none⟩ = false ∧ w.frozen? ⟨b, 2, none⟩ = false) :
    w1.cell? ⟨b, 0, none⟩ = some v0 ∧ w1.cell? ⟨b, 1, none⟩ = some v1 ∧ w1.cell? ⟨b, 2, none⟩ = some v2 ∧ w1.frozen? ⟨b, 0, none⟩ = false ∧ w1.frozen? ⟨b, 1, none⟩ = false ∧ w1.frozen? ⟨b, 2, none⟩ = false :=
  ⟨(hb.cell (p := ⟨b, 0, none⟩) hB).trans h.1, (hb.cell (p := ⟨b, 1, none⟩) hB).trans h.2.1, (hb.cell (p := ⟨b, 2, none⟩) hB).trans h.2.2.1, (hb.frozen (p := ⟨b, 0, none⟩) hB).trans h.2.2.2.1, (hb.frozen (p := ⟨b, 1, none⟩) hB).trans h.2.2.2.2.1, (hb.frozen (p := ⟨b, 2, none⟩) hB).trans h.2.2.2.2.2⟩
theorem cells4 {w w1 : World} {B b : Nat} {v0 v1 v2 v3 : Value} (hb : Below B w w1) (hB : b < B) (h : w.cell? ⟨b, 0, none⟩ = some v0 ∧ w.cell? ⟨b, 1, none⟩ = some v1 ∧ w.cell? ⟨b, 2, none⟩ = some v2 ∧ w.cell? ⟨b, 3, none⟩ = some v3) :
    w1.cell? ⟨b, 0, none⟩ = some v0 ∧ w1.cell? ⟨b, 1, none⟩ = some v1 ∧ w1.cell? ⟨b, 2, none⟩ = some v2 ∧ w1.cell? ⟨b, 3, none⟩ = some v3 :=
  ⟨(hb.cell (p := ⟨b, 0, none⟩) hB).trans h.1, (hb.cell (p := ⟨b, 1, none⟩) hB).trans h.2.1, (hb.cell (p := ⟨b, 2, none⟩) hB).trans h.2.2.1, (hb.cell (p := ⟨b, 3, none⟩) hB).trans h.2.2.2⟩
theorem vers_cntd {k : Int} (h : 0 < versI k) : cntdB k = true := by
  unfold versI at h
  by_cases h9 : k = 9
  · simp [cntdB, h9]
  · by_cases h10 : k = 10
    · simp [cntdB, h10]
    · rw [if_neg h9, if_neg h10] at h; omega
theorem below_set3 {B g : Nat} {a w : World} (h : Below B a w) (hg : B ≤ g) (x0 x1 x2 : Value) : Below B a (((w.setCell ⟨g, 0, none⟩ x0).setCell ⟨g, 1, none⟩ x1).setCell ⟨g, 2, none⟩ x2) :=
  ((h.setCell (p := ⟨g, 0, none⟩) hg _).setCell (p := ⟨g, 1, none⟩) hg _).setCell (p := ⟨g, 2, none⟩) hg _
set_option maxHeartbeats 4000000 in
theorem thingAt_any (w : World) (B : Nat) (a : Option Addr) (l : List Wd) (len cap i : Nat) (hlen : len = l.length) (hl : len ≤ 60000) (hi : i < len) (hBw : B ≤ w.heap.size) (hW : Wds w B a l) :
    Calls Tryz.prog 77 #[.slice a len cap, .int .i64 i] w fun e w' => e = .returned (thR i (tAt l i)) ∧ Below w.heap.size w w' := by
  have hL := hid hlen
  clear hlen
  have hi2 : i < l.length := by rw [← hL.out]; exact hi
  have hi3 : (i : Int) < len := by omega
  have HT := hid (tAt_at hi2)
  obtain ⟨bb, o, rfl, hbB, c0, c1, c2⟩ := hW i hi2
  have hvl := hid (valsI_le l[i].k)
  generalize l[i].k = k at c0 HT hvl
  generalize l[i].n = n at c1 HT
  generalize l[i].s = s at c2 HT
  have hbw : bb < w.heap.size := by omega
  go_enter Tryz.func77, Tryz.ntmps77
  go_wp2_with fail
  have hcall := planOf_any k (w.alloc (.cells #[.int .i64 0, .int .i64 0, .int .i64 0] 129))
  go_fit hcall
  clear hcall
  rintro e w1 ⟨rfl, hb1⟩
  have hb1' : Below (w.heap.size + 1) (w.alloc (.cells #[.int .i64 0, .int .i64 0, .int .i64 0] 129)) w1 := hb1.mono (by simp)
  clear hb1
  have hz1 := hb1'.size
  simp at hz1
  have hB1 : Below w.heap.size w w1 := ((Below.refl _ _).alloc (Nat.le_refl _) _).trans (hb1'.mono (by omega))
  obtain ⟨r0, r1, r2, f0, f1, f2⟩ := cells3 hb1' (show w.heap.size < w.heap.size + 1 by omega) (v0 := .int .i64 0) (v1 := .int .i64 0) (v2 := .int .i64 0) (by refine ⟨?_, ?_, ?_, ?_, ?_, ?_⟩ <;> go_simp)
  have d0 := (hB1.cell (p := ⟨bb, _, none⟩) hbw).trans c0
  have d1 := (hB1.cell (p := ⟨bb, _, none⟩) hbw).trans c1
  have d2 := (hB1.cell (p := ⟨bb, _, none⟩) hbw).trans c2
  have hW1 := hid (hW.below (hB1.mono hBw))
  clear c0 c1 c2
  go_wp2_with fail
  obtain ⟨w1a, hw1a⟩ : ∃ w1a, w1a = w1.alloc (.cells #[.int .i64 (headsI k), .int .i64 (versI k), .int .i64 (valsI k), .bool (cntdB k)] 147) := ⟨_, rfl⟩
  have hBa : Below w1.heap.size w1 w1a := by rw [hw1a]; exact (Below.refl _ _).alloc (Nat.le_refl _) _
  have hza : w1a.heap.size = w1.heap.size + 1 := by rw [hw1a]; simp
  have pp : w1a.cell? ⟨w1.heap.size, 0, none⟩ = some (.int .i64 (headsI k)) ∧ w1a.cell? ⟨w1.heap.size, 1, none⟩ = some (.int .i64 (versI k)) ∧ w1a.cell? ⟨w1.heap.size, 2, none⟩ = some (.int .i64 (valsI k)) ∧ w1a.cell? ⟨w1.heap.size, 3, none⟩ = some (.bool (cntdB k)) := by
    rw [hw1a]; refine ⟨?_, ?_, ?_, ?_⟩ <;> go_simp
  rw [← hw1a]
  clear hw1a
  have rr := cells3 hBa (show w.heap.size < w1.heap.size by omega) ⟨r0, r1, r2, f0, f1, f2⟩
  have e0 := (hBa.cell (p := ⟨bb, _, none⟩) (show bb < w1.heap.size by omega)).trans d0
  have e1 := (hBa.cell (p := ⟨bb, _, none⟩) (show bb < w1.heap.size by omega)).trans d1
  have e2 := (hBa.cell (p := ⟨bb, _, none⟩) (show bb < w1.heap.size by omega)).trans d2
  have hW2 := hid (hW1.out.below (hBa.mono (by omega)))
  have p0 := pp.1
  clear d0 d1 d2 r0 r1 r2 f0 f1 f2 hW1
  generalize headsI k = hd at HT pp p0 ⊢
  generalize w1.heap.size = pb at *
  go_region_with (go_at_call 90; refine (isPlain_any k n hd s _).mono ?_; rintro e w2 ⟨rfl, hb2⟩)
  all_goals
    have hb2' : Below w1a.heap.size w1a w2 := ⟨hb2.os, hb2.tape, hb2.output, hb2.size, hb2.block⟩
    clear hb2
    have hz2 := hb2'.size
    have rr2 := cells3 hb2' (show w.heap.size < w1a.heap.size by omega) rr
    have pp2 := cells4 hb2' (show pb < w1a.heap.size by omega) pp
    have hW3 := hid (hW2.out.below (hb2'.mono (by omega)))
    have hB2 : Below w.heap.size w w2 := (hB1.trans (hBa.mono (by omega))).trans (hb2'.mono (by omega))
    clear hb2' hBa hB1 e0 e1 e2 rr pp p0 hW2 hW hb1'
    cases hpl : plainB n s hd
    · obtain ⟨r0, r1, r2, f0, f1, f2⟩ := rr2
      have HR := hid (show tAt l i = none by rw [HT.out, if_pos hpl])
      clear HT
      go_wp2_with fail
      refine bodyPost_ret (v := .tuple #[.agg #[.int .i64 0, .int .i64 0, .int .i64 0], .bool false]) (by simp [results, Tryz.results77, go_sem, r0, r1, r2]) rfl ⟨?_, ?_⟩
      · rw [HR.out]; rfl
      · exact below_set3 hB2 (Nat.le_refl _) _ _ _
    · obtain ⟨p0, p1, p2, p3⟩ := id pp2
      have hpb : pb < w2.heap.size := by omega
      have hrb : w.heap.size < w2.heap.size := by omega
      obtain ⟨f, hf⟩ : ∃ f : Nat, f = i + 1 := ⟨_, rfl⟩
      have hf1 : (i : Int) + 1 = f := by omega
      have hfb : f ≤ 60000 := by omega
      have Hf := hid hf
      clear hf
      obtain ⟨hv0, hv1⟩ := hvl.out
      by_cases hv : 0 < versI k
      · have hc : cntdB k = true := vers_cntd hv
        rw [hc] at p3 pp2
        go_wp2_with fail
        obtain ⟨w3, hw3⟩ : ∃ w3, w3 = w2.alloc (.cells #[.int .i64 (i : Int), .int .i64 (f : Int), .int .i64 0] 129) := ⟨_, rfl⟩
        have hB3 : Below w2.heap.size w2 w3 := by rw [hw3]; exact (Below.refl _ _).alloc (Nat.le_refl _) _
        have hz3 : w3.heap.size = w2.heap.size + 1 := by rw [hw3]; simp
        have tt3 : w3.cell? ⟨w2.heap.size, 0, none⟩ = some (.int .i64 (i : Int)) ∧ w3.cell? ⟨w2.heap.size, 1, none⟩ = some (.int .i64 (f : Int)) ∧ w3.cell? ⟨w2.heap.size, 2, none⟩ = some (.int .i64 0) ∧ w3.frozen? ⟨w2.heap.size, 0, none⟩ = false ∧ w3.frozen? ⟨w2.heap.size, 1, none⟩ = false ∧ w3.frozen? ⟨w2.heap.size, 2, none⟩ = false := by
          rw [hw3]; refine ⟨?_, ?_, ?_, ?_, ?_, ?_⟩ <;> go_simp
        rw [← hw3]
        clear hw3
        have rr3 := cells3 hB3 hrb rr2
        have pp3 := cells4 hB3 hpb pp2
        have hW3a := hid (hW3.out.below (hB3.mono (by omega)))
        have hBw3 := hB2.trans (hB3.mono (by omega))
        clear rr2 pp2 hW3 hB2 p0 p1 p2 p3 hB3
        generalize w2.heap.size = tb at *
        have htb : tb < w3.heap.size := by omega
        have hcall := hasInt_any w3 B _ l len cap f (versI k) hL.out hW3a.out
        go_fit hcall
        clear hcall
        rintro e w4 ⟨rfl, hb4⟩
        have hz4 := hb4.size
        obtain ⟨r0, r1, r2, f0, f1, f2⟩ := cells3 hb4 (show w.heap.size < w3.heap.size by omega) rr3
        obtain ⟨p0, p1, p2, p3⟩ := cells4 hb4 (show pb < w3.heap.size by omega) pp3
        obtain ⟨t0, t1, t2, g0, g1, g2⟩ := cells3 hb4 htb tt3
        have hW4 := hW3a.out.below (hb4.mono (by omega))
        have hB4 := hBw3.trans (hb4.mono (by omega))
        clear rr3 pp3 tt3 hW3a hb4 hBw3
        cases hx : intAt l f (versI k)
        · have HR := hid (show tAt l i = none by rw [HT.out, if_neg (by simp [hpl]), if_pos hv, ← Hf.out, if_neg (by simp [hx])])
          clear HT
          go_wp2_with fail
          refine bodyPost_ret (v := .tuple #[.agg #[.int .i64 0, .int .i64 0, .int .i64 0], .bool false]) (by simp [results, Tryz.results77, go_sem, r0, r1, r2]) rfl ⟨?_, ?_⟩
          · rw [HR.out]; rfl
          · exact below_set3 hB4 (Nat.le_refl _) _ _ _
        · have HF0 := show tAt l i = tailT l (f + 1) k by rw [HT.out, if_neg (by simp [hpl]), if_pos hv, ← Hf.out, if_pos hx, Hf.out]
          clear hx
          obtain ⟨g, hg⟩ : ∃ g : Nat, g = f + 1 := ⟨_, rfl⟩
          rw [← hg] at HF0
          have HF := hid HF0
          have hf1' : (f : Int) + 1 = g := by omega
          have hgb : g ≤ 60001 := by omega
          clear hg HF0 hf1 Hf
          go_wp2_with fail
          obtain ⟨w4', hw4'⟩ : ∃ w4', w4' = w4.setCell ⟨tb, 1, none⟩ (.int .i64 (g : Int)) := ⟨_, rfl⟩
          rw [← hw4']
          have hB4' := hB4.setCell (p := ⟨tb, 1, none⟩) (show w.heap.size ≤ tb by omega) (.int .i64 (g : Int))
          have tt4 : w4'.cell? ⟨tb, 0, none⟩ = some (.int .i64 (i : Int)) ∧ w4'.cell? ⟨tb, 1, none⟩ = some (.int .i64 (g : Int)) ∧ w4'.cell? ⟨tb, 2, none⟩ = some (.int .i64 0) ∧ w4'.frozen? ⟨tb, 0, none⟩ = false ∧ w4'.frozen? ⟨tb, 1, none⟩ = false ∧ w4'.frozen? ⟨tb, 2, none⟩ = false := by
            rw [hw4']; refine ⟨?_, ?_, ?_, ?_, ?_, ?_⟩ <;> go_simp
          have hBt : Below tb w4 w4' := by rw [hw4']; exact (Below.refl _ _).setCell (p := ⟨tb, 1, none⟩) (Nat.le_refl _) _
          have hz4' : w4'.heap.size = w4.heap.size := by rw [hw4']; simp
          rw [← hw4'] at hB4'
          clear hw4'
          have rr4 := cells3 hBt hrb ⟨r0, r1, r2, f0, f1, f2⟩
          have pp4 := cells4 hBt hpb ⟨p0, p1, p2, p3⟩
          have hW4' := hid (hW4.below (hBt.mono (by omega)))
          have htb' : tb < w4'.heap.size := by omega
          clear hB4 hW4 hBt r0 r1 r2 f0 f1 f2 p0 p1 p2 p3 t0 t1 t2 g0 g1 g2 htb
        
          have hcall := hasInt_any w4' B _ l len cap g (valsI k + 1) hL.out hW4'.out
          go_fit hcall
          clear hcall
          rintro e w5 ⟨rfl, hb5⟩
          have hz5 := hb5.size
          obtain ⟨r0, r1, r2, f0, f1, f2⟩ := cells3 hb5 (show w.heap.size < w4'.heap.size by omega) rr4
          obtain ⟨p0, p1, p2, p3⟩ := cells4 hb5 (show pb < w4'.heap.size by omega) pp4
          obtain ⟨t0, t1, t2, g0, g1, g2⟩ := cells3 hb5 htb' tt4
          have hW5 := hW4'.out.below (hb5.mono (by omega))
          have hB5 := hB4'.trans (hb5.mono (by omega))
          clear rr4 pp4 tt4 hW4' hb5 hB4'
          cases hx : intAt l g (valsI k + 1)
          · have HR := hid (show tAt l i = none by rw [HF.out]; unfold tailT; rw [if_pos hc, if_neg (by simp [hx])])
            clear HF HT
            go_wp2_with fail
            refine bodyPost_ret (v := .tuple #[.agg #[.int .i64 0, .int .i64 0, .int .i64 0], .bool false]) (by simp [results, Tryz.results77, go_sem, r0, r1, r2]) rfl ⟨?_, ?_⟩
            · rw [HR.out]; rfl
            · exact below_set3 hB5 (Nat.le_refl _) _ _ _
          · obtain ⟨hfl2, hn0, hn1, hnA⟩ := intAt_lt hx
            obtain ⟨bb', o', hbo, hbB', c0, c1, c2⟩ := hW5 g hfl2
            injection hbo with hbo; injection hbo with hbo1 hbo2; subst hbo1 hbo2
            have HE := hid (show tAt l i = fitT l (g + 1) l[g].n.toNat by rw [HF.out]; unfold tailT; rw [if_pos hc, if_pos hx, hnA])
            have hfl3 : g < len := by rw [hL.out]; exact hfl2
            have hfl4 : (g : Int) < len := by omega
            clear HF HT hW5 hnA hx c0 c2
            generalize l[g].n = m at c1 HE hn0 hn1
            obtain ⟨f', hf'⟩ : ∃ f' : Nat, f' = g + 1 := ⟨_, rfl⟩
            have hf2 : (g : Int) + 1 = f' := by omega
            have hfb' : f' ≤ 60001 := by omega
            rw [← hf'] at HE
            have hm40 : m ≤ 40 := by omega
            clear hf' hf1'
            by_cases hfit : f' + m.toNat ≤ len
            · have HR := hid (show tAt l i = some (f', f' + m.toNat) by rw [HE.out]; unfold fitT; rw [if_pos (by rw [← hL.out]; exact hfit)])
              clear HE
              have hfit2 : (f' : Int) + m ≤ len := by omega
              go_wp2_with fail
              refine bodyPost_ret (v := .tuple #[.agg #[.int .i64 i, .int .i64 f', .int .i64 ((f' : Int) + m)], .bool true]) (by simp [results, Tryz.results77, go_sem, r0, r1, r2]) rfl ⟨?_, ?_⟩
              · rw [HR.out]; simp [thR]; omega
              · exact below_set3 ((hB5.setCell (p := ⟨tb, 1, none⟩) (Nat.le_of_lt hrb) _).setCell (p := ⟨tb, 2, none⟩) (Nat.le_of_lt hrb) _) (Nat.le_refl _) _ _ _
            · have HR := hid (show tAt l i = none by rw [HE.out]; unfold fitT; rw [if_neg (by rw [← hL.out]; exact hfit)])
              clear HE
              have hfit2 : ¬ (f' : Int) + m ≤ len := by omega
              go_wp2_with fail
              refine bodyPost_ret (v := .tuple #[.agg #[.int .i64 0, .int .i64 0, .int .i64 0], .bool false]) (by simp [results, Tryz.results77, go_sem, r0, r1, r2]) rfl ⟨?_, ?_⟩
              · rw [HR.out]; rfl
              · exact below_set3 ((hB5.setCell (p := ⟨tb, 1, none⟩) (Nat.le_of_lt hrb) _).setCell (p := ⟨tb, 2, none⟩) (Nat.le_of_lt hrb) _) (Nat.le_refl _) _ _ _
      · have HF := hid (show tAt l i = tailT l f k by rw [HT.out, if_neg (by simp [hpl]), if_neg hv, Hf.out])
        cases hc : cntdB k
        · have HE := hid (show tAt l i = fitT l f (valsI k).toNat by rw [HF.out]; unfold tailT; rw [if_neg (by simp [hc])])
          obtain ⟨r0, r1, r2, f0, f1, f2⟩ := id rr2
          rw [hc] at p3 pp2
          clear HF HT hvl p0 hW3
          generalize valsI k = vl at p2 HE hv0 hv1 pp2 ⊢
          by_cases hfit : f + vl.toNat ≤ len
          · have HR := hid (show tAt l i = some (f, f + vl.toNat) by rw [HE.out]; unfold fitT; rw [if_pos (by rw [← hL.out]; exact hfit)])
            clear HE
            have hfit2 : (f : Int) + vl ≤ len := by omega
            go_wp2_with fail
            refine bodyPost_ret (v := .tuple #[.agg #[.int .i64 i, .int .i64 f, .int .i64 ((f : Int) + vl)], .bool true]) (by simp [results, Tryz.results77, go_sem, hrb, r0, r1, r2]) rfl ⟨?_, ?_⟩
            · rw [HR.out]; simp [thR]; omega
            · exact (below_set3 hB2 (Nat.le_refl _) _ _ _).alloc (by simp; omega) _
          · have HR := hid (show tAt l i = none by rw [HE.out]; unfold fitT; rw [if_neg (by rw [← hL.out]; exact hfit)])
            clear HE
            have hfit2 : ¬ (f : Int) + vl ≤ len := by omega
            go_wp2_with fail
            refine bodyPost_ret (v := .tuple #[.agg #[.int .i64 0, .int .i64 0, .int .i64 0], .bool false]) (by simp [results, Tryz.results77, go_sem, hrb, r0, r1, r2]) rfl ⟨?_, ?_⟩
            · rw [HR.out]; rfl
            · exact (below_set3 hB2 (Nat.le_refl _) _ _ _).alloc (by simp; omega) _
        · rw [hc] at p3 pp2
          go_wp2_with fail
          obtain ⟨w4, hw4⟩ : ∃ w4, w4 = w2.alloc (.cells #[.int .i64 (i : Int), .int .i64 (f : Int), .int .i64 0] 129) := ⟨_, rfl⟩
          have hB3 : Below w2.heap.size w2 w4 := by rw [hw4]; exact (Below.refl _ _).alloc (Nat.le_refl _) _
          have hz3 : w4.heap.size = w2.heap.size + 1 := by rw [hw4]; simp
          have tt4 : w4.cell? ⟨w2.heap.size, 0, none⟩ = some (.int .i64 (i : Int)) ∧ w4.cell? ⟨w2.heap.size, 1, none⟩ = some (.int .i64 (f : Int)) ∧ w4.cell? ⟨w2.heap.size, 2, none⟩ = some (.int .i64 0) ∧ w4.frozen? ⟨w2.heap.size, 0, none⟩ = false ∧ w4.frozen? ⟨w2.heap.size, 1, none⟩ = false ∧ w4.frozen? ⟨w2.heap.size, 2, none⟩ = false := by
            rw [hw4]; refine ⟨?_, ?_, ?_, ?_, ?_, ?_⟩ <;> go_simp
          rw [← hw4]
          clear hw4
          have rr4 := cells3 hB3 hrb rr2
          have pp4 := cells4 hB3 hpb pp2
          have hW4 := hid (hW3.out.below (hB3.mono (by omega)))
          have hB4 := hB2.trans (hB3.mono (by omega))
          clear rr2 pp2 hW3 hB2 p0 p1 p2 p3 hB3
          generalize w2.heap.size = tb at *
          have htb : tb < w4.heap.size := by omega
          have hcall := hasInt_any w4 B _ l len cap f (valsI k + 1) hL.out hW4.out
          go_fit hcall
          clear hcall
          rintro e w5 ⟨rfl, hb5⟩
          have hz5 := hb5.size
          obtain ⟨r0, r1, r2, f0, f1, f2⟩ := cells3 hb5 (show w.heap.size < w4.heap.size by omega) rr4
          obtain ⟨p0, p1, p2, p3⟩ := cells4 hb5 (show pb < w4.heap.size by omega) pp4
          obtain ⟨t0, t1, t2, g0, g1, g2⟩ := cells3 hb5 htb tt4
          have hW5 := hW4.out.below (hb5.mono (by omega))
          have hB5 := hB4.trans (hb5.mono (by omega))
          clear rr4 pp4 tt4 hW4 hb5 hB4
          cases hx : intAt l f (valsI k + 1)
          · have HR := hid (show tAt l i = none by rw [HF.out]; unfold tailT; rw [if_pos hc, if_neg (by simp [hx])])
            clear HF HT
            go_wp2_with fail
            refine bodyPost_ret (v := .tuple #[.agg #[.int .i64 0, .int .i64 0, .int .i64 0], .bool false]) (by simp [results, Tryz.results77, go_sem, r0, r1, r2]) rfl ⟨?_, ?_⟩
            · rw [HR.out]; rfl
            · exact below_set3 hB5 (Nat.le_refl _) _ _ _
          · obtain ⟨hfl2, hn0, hn1, hnA⟩ := intAt_lt hx
            obtain ⟨bb', o', hbo, hbB', c0, c1, c2⟩ := hW5 f hfl2
            injection hbo with hbo; injection hbo with hbo1 hbo2; subst hbo1 hbo2
            have HE := hid (show tAt l i = fitT l (f + 1) l[f].n.toNat by rw [HF.out]; unfold tailT; rw [if_pos hc, if_pos hx, hnA])
            have hfl3 : f < len := by rw [hL.out]; exact hfl2
            have hfl4 : (f : Int) < len := by omega
            clear HF HT hW5 hnA hx c0 c2
            generalize l[f].n = m at c1 HE hn0 hn1
            obtain ⟨f', hf'⟩ : ∃ f' : Nat, f' = f + 1 := ⟨_, rfl⟩
            have hf2 : (f : Int) + 1 = f' := by omega
            have hfb' : f' ≤ 60001 := by omega
            rw [← hf'] at HE
            have hm40 : m ≤ 40 := by omega
            clear hf' hf1
            by_cases hfit : f' + m.toNat ≤ len
            · have HR := hid (show tAt l i = some (f', f' + m.toNat) by rw [HE.out]; unfold fitT; rw [if_pos (by rw [← hL.out]; exact hfit)])
              clear HE
              have hfit2 : (f' : Int) + m ≤ len := by omega
              go_wp2_with fail
              refine bodyPost_ret (v := .tuple #[.agg #[.int .i64 i, .int .i64 f', .int .i64 ((f' : Int) + m)], .bool true]) (by simp [results, Tryz.results77, go_sem, r0, r1, r2]) rfl ⟨?_, ?_⟩
              · rw [HR.out]; simp [thR]; omega
              · exact below_set3 ((hB5.setCell (p := ⟨tb, 1, none⟩) (Nat.le_of_lt hrb) _).setCell (p := ⟨tb, 2, none⟩) (Nat.le_of_lt hrb) _) (Nat.le_refl _) _ _ _
            · have HR := hid (show tAt l i = none by rw [HE.out]; unfold fitT; rw [if_neg (by rw [← hL.out]; exact hfit)])
              clear HE
              have hfit2 : ¬ (f' : Int) + m ≤ len := by omega
              go_wp2_with fail
              refine bodyPost_ret (v := .tuple #[.agg #[.int .i64 0, .int .i64 0, .int .i64 0], .bool false]) (by simp [results, Tryz.results77, go_sem, r0, r1, r2]) rfl ⟨?_, ?_⟩
              · rw [HR.out]; rfl
              · exact below_set3 ((hB5.setCell (p := ⟨tb, 1, none⟩) (Nat.le_of_lt hrb) _).setCell (p := ⟨tb, 2, none⟩) (Nat.le_of_lt hrb) _) (Nat.le_refl _) _ _ _
end Go.Proofs.YtldmanfgmadbfaaGreatDoor.HH
namespace Go.Proofs.YtldmanfgmadbfaaGreatDoor.HH
set_option maxRecDepth 100000
open Go.RowKit Go.Maps
/-- A thing: where it begins, where its values do, where it ends. -/
structure Th where
  h : Nat
  f : Nat
  e : Nat
/-- A map filled with pairs, the last one first. -/
def filledI : List (Int × Int) → DataW Unit
  | [] => .map []
  | p :: r => (filledI r).put (.int .i64 p.1) (.lit (.int .i64 p.2))
def hasI : List (Int × Int) → Int → Bool
  | [], _ => false
  | p :: r, k => decide (p.1 = k) || hasI r k
def valI : List (Int × Int) → Int → Int
  | [], _ => 0
  | p :: r, k => if p.1 = k then p.2 else valI r k
theorem filledI_map : ∀ l, IsMap (filledI l)
  | [] => isMap_empty
  | _ :: r => (filledI_map r).put _ _
theorem filledI_has (k : Int) : ∀ l, Maps.has (filledI l) (.int .i64 k) = hasI l k
  | [] => rfl
  | p :: r => by
    unfold filledI hasI
    by_cases h : p.1 = k
    · rw [← h, has_put_same (k := .int .i64 p.1) (filledI_map r) (by trivial)]; simp
    · rw [has_put_other (by intro e; injection e with _ e; exact h e.symm), filledI_has k r]; simp [h]
theorem filledI_at (k : Int) : ∀ l, (filledI l).atKey (.int .i64 k) (.lit (.int .i64 0)) = .lit (.int .i64 (valI l k))
  | [] => rfl
  | p :: r => by
    unfold filledI valI
    by_cases h : p.1 = k
    · rw [if_pos h, ← h]; exact atKey_put_same (k := .int .i64 p.1) (filledI_map r) (by trivial) _ _
    · rw [if_neg h, atKey_put_other (by intro e; injection e with _ e; exact h e.symm)]; exact filledI_at k r
theorem lawI : Keyed Tryz.prog 3 := int_keyed Tryz.underlying3
theorem zeroI (w : World) : (zeroValue 3).run Tryz.prog w = .ok (.int .i64 0) w := by kernel_rfl
abbrev wfI (k : Int) : Prop := (Lit.int .i64 k).wf = true
abbrev OwnsI (w : World) (b : Nat) (l : List (Int × Int)) : Prop := w.ownsMap Tryz.prog 3 (plainElem (H := Unit) Tryz.prog 3) b l.length (filledI l)
theorem OwnsI.look2 {w : World} {b : Nat} {l : List (Int × Int)} (h : OwnsI w b l) {k : Int} (hk : wfI k) :
    (Instr.lookup 95 (.map (some b)) (.int .i64 k) true).run Tryz.prog w = .ok (.tuple #[.int .i64 (valI l k), .bool (hasI l k)]) w := by
  obtain ⟨v, ps, hrun, hv⟩ := h.look_ok lawI Tryz.underlying95 (zeroI w) (plainElem_int Tryz.underlying3 (by decide)) (keyOf_int_mk Tryz.underlying3 hk)
  obtain ⟨c, rfl, hc, _⟩ := plainElem_int_inv Tryz.underlying3 hv
  simp only [Prod.mk.injEq] at hc
  have e := hc.1
  rw [filledI_at] at e
  injection e with e; injection e with _ e
  rw [hrun, filledI_has, e]
theorem OwnsI.look1 {w : World} {b : Nat} {l : List (Int × Int)} (h : OwnsI w b l) {k : Int} (hk : wfI k) :
    (Instr.lookup 95 (.map (some b)) (.int .i64 k) false).run Tryz.prog w = .ok (.int .i64 (valI l k)) w := by
  obtain ⟨c, hrun, hat, _⟩ := h.lookup_int lawI Tryz.underlying95 Tryz.underlying3 (zeroI w) (keyOf_int_mk Tryz.underlying3 hk)
  rw [filledI_at] at hat
  injection hat with e; injection e with _ e
  rw [hrun, e]
theorem OwnsI.put {w : World} {b : Nat} {l : List (Int × Int)} (h : OwnsI w b l) (hn : l.length < maxLen) {k c : Int} (hk : wfI k) (hc : wfI c) :
    ∃ w', (Instr.mapUpdate 95 (.map (some b)) (.int .i64 k) (.int .i64 c)).run Tryz.prog w = .ok () w' ∧ OwnsI w' b ((k, c) :: l) ∧ w.grownBy w' (some b) :=
  World.ownsMap.update h lawI Tryz.underlying95 hn (keyOf_int_mk Tryz.underlying3 hk) (plainElem_int Tryz.underlying3 hc)
theorem OwnsI.keep {w w' : World} {b : Nat} {l : List (Int × Int)} (h : OwnsI w b l) (hb : w'.heap[b]? = w.heap[b]?) : OwnsI w' b l := by
  obtain ⟨es, c, e1, e2⟩ := h
  exact ⟨es, c, hb.trans e1, e2⟩
/-- Things in a row of one's own. -/
def ThL (w : World) (B : Nat) (v : Value) (acc : List Th) : Prop :=
  ∃ cells, w.ownsRow B 129 3 v acc.length cells ∧ ∀ i (h : i < acc.length), cells[i * 3]? = some (.int .i64 acc[i].h) ∧ cells[i * 3 + 1]? = some (.int .i64 acc[i].f) ∧ cells[i * 3 + 2]? = some (.int .i64 acc[i].e)
theorem ThL.nil (w : World) (B : Nat) : ThL w B (.slice none 0 0) [] := ⟨[], ⟨rfl, Or.inl ⟨rfl, rfl⟩⟩, fun i h => absurd h (by simp)⟩
theorem ownsRow_keep {w w' : World} {B k : Nat} {ty : TypeId} {v : Value} {n : Nat} {cells : List Value} (h : w.ownsRow B ty k v n cells) (hk : ∀ b, v.ownBlock = some b → w'.heap[b]? = w.heap[b]?) : w'.ownsRow B ty k v n cells := by
  refine ⟨h.1, ?_⟩
  rcases h.2 with h | ⟨g, cap, cur, hv, hb, hg, hr⟩
  · exact Or.inl h
  · exact Or.inr ⟨g, cap, cur, hv, hb, by rw [hk g (by rw [hv]; rfl)]; exact hg, hr⟩
theorem ownsRow_lt {w : World} {B k : Nat} {ty : TypeId} {v : Value} {n : Nat} {cells : List Value} (h : w.ownsRow B ty k v n cells) {g : Nat} (hg : v.ownBlock = some g) : B ≤ g ∧ g < w.heap.size := by
  rcases h.2 with ⟨rfl, _⟩ | ⟨g', cap, cur, rfl, hb, hc, _⟩
  · simp [Value.ownBlock] at hg
  · simp [Value.ownBlock] at hg
    subst hg
    refine ⟨hb, ?_⟩
    rcases Nat.lt_or_ge g' w.heap.size with h' | h'
    · exact h'
    · rw [Array.getElem?_eq_none h'] at hc; cases hc
theorem ThL.own_lt {w : World} {B : Nat} {v : Value} {l : List Th} (h : ThL w B v l) {g : Nat} (hg : v.ownBlock = some g) : B ≤ g ∧ g < w.heap.size := by
  obtain ⟨cells, ho, _⟩ := h
  exact ownsRow_lt ho hg
theorem ThL.keep {w w' : World} {B : Nat} {v : Value} {l : List Th} (h : ThL w B v l) (hk : ∀ b, v.ownBlock = some b → w'.heap[b]? = w.heap[b]?) : ThL w' B v l := by
  obtain ⟨cells, ho, hi⟩ := h
  exact ⟨cells, ownsRow_keep ho hk, hi⟩
theorem ThL.append {w' : World} {B : Nat} {l : List Th} {cells : List Value} {t : Th} {g cap : Nat}
    (hi : ∀ i (h : i < l.length), cells[i * 3]? = some (.int .i64 l[i].h) ∧ cells[i * 3 + 1]? = some (.int .i64 l[i].f) ∧ cells[i * 3 + 2]? = some (.int .i64 l[i].e)) (hlen : cells.length = l.length * 3)
    (ho : w'.ownsRow B 129 3 (.slice (some ⟨g, 0, none⟩) (l.length + 1) cap) (l.length + 1) (cells ++ [.int .i64 t.h, .int .i64 t.f, .int .i64 t.e])) :
    ThL w' B (.slice (some ⟨g, 0, none⟩) (l.length + 1) cap) (l ++ [t]) := by
  refine ⟨_, by rw [List.length_append]; exact ho, fun i h => ?_⟩
  by_cases hlt : i < l.length
  · rw [List.getElem_append_left hlt]
    obtain ⟨e0, e1, e2⟩ := hi i hlt
    exact ⟨by rw [List.getElem?_append_left (by omega)]; exact e0, by rw [List.getElem?_append_left (by omega)]; exact e1, by rw [List.getElem?_append_left (by omega)]; exact e2⟩
  · have hil : i = l.length := by simp at h; omega
    subst hil
    rw [List.getElem_append_right (Nat.le_refl _)]
    simp only [Nat.sub_self, List.getElem_cons_zero]
    exact ⟨by rw [List.getElem?_append_right (by omega), hlen]; simp, by rw [List.getElem?_append_right (by omega), hlen, show l.length * 3 + 1 - l.length * 3 = 1 from by omega]; rfl, by rw [List.getElem?_append_right (by omega), hlen, show l.length * 3 + 2 - l.length * 3 = 2 from by omega]; rfl⟩
/-- As cells. -/
theorem ThL.cells {w : World} {B : Nat} {v : Value} {l : List Th} (h : ThL w B v l) : ∃ a cap, v = .slice a l.length cap ∧ l.length ≤ cap ∧ ∀ i (h : i < l.length), ∃ g, a = some ⟨g, 0, none⟩ ∧ v.ownBlock = some g ∧ w.cell? ⟨g, i * 3, none⟩ = some (.int .i64 l[i].h) ∧ w.cell? ⟨g, i * 3 + 1, none⟩ = some (.int .i64 l[i].f) ∧ w.cell? ⟨g, i * 3 + 2, none⟩ = some (.int .i64 l[i].e) := by
  obtain ⟨cells, ho, hi⟩ := h
  rcases ho.2 with ⟨rfl, h0⟩ | ⟨g, cap, cur, rfl, hb, hc, hn, hm, hcs, hcut⟩
  · have : l = [] := List.length_eq_zero_iff.1 h0
    subst this
    exact ⟨none, 0, rfl, Nat.le_refl _, fun i h => absurd h (by simp)⟩
  · refine ⟨_, cap, rfl, hn, fun i hlt => ?_⟩
    obtain ⟨e0, e1, e2⟩ := hi i hlt
    have hat : ∀ j u, j < l.length * 3 → cells[j]? = some u → w.cell? ⟨g, j, none⟩ = some u := fun j u hj hu => by
      rw [show w.cell? ⟨g, j, none⟩ = cur[j]? by simp [World.cell?, hc], ← hu, ← hcut, List.getElem?_take_of_lt hj]
      simp
    exact ⟨g, rfl, rfl, hat _ _ (by omega) e0, hat _ _ (by omega) e1, hat _ _ (by omega) e2⟩
def plOf (acc : List Th) : List (Int × Int) := (acc.zipIdx.map fun p => ((p.1.h : Int), (p.2 : Int))).reverse
theorem plOf_snoc (acc : List Th) (t : Th) : plOf (acc ++ [t]) = ((t.h : Int), (acc.length : Int)) :: plOf acc := by
  simp [plOf, List.zipIdx_append]
theorem plOf_length (acc : List Th) : (plOf acc).length = acc.length := by simp [plOf]
/-- The chart lies in block cb; it is the call's own from block B on. -/
structure Chart (w : World) (B cb : Nat) (a : Option Addr) (len cap : Nat) (l : List Wd) (v : Value) (acc : List Th) (pb mb : Nat) (ms : List (Int × Int)) : Prop where
  wds : Wds w B a l
  c0 : w.cell? ⟨cb, 0, none⟩ = some (.slice a len cap)
  c1 : w.cell? ⟨cb, 1, none⟩ = some v
  c2 : w.cell? ⟨cb, 2, none⟩ = some (.map (some pb))
  c3 : w.cell? ⟨cb, 3, none⟩ = some (.map (some mb))
  f1 : w.frozen? ⟨cb, 1, none⟩ = false
  row : ThL w B v acc
  pl : OwnsI w pb (plOf acc)
  mv : OwnsI w mb ms
  hcb : B ≤ cb
  hpb : B ≤ pb
  hmb : B ≤ mb
  n1 : ¬ cb = pb
  n2 : ¬ cb = mb
  n3 : ¬ pb = mb
  n4 : ∀ g, v.ownBlock = some g → ¬ g = cb ∧ ¬ g = pb ∧ ¬ g = mb
theorem Chart.lt {w : World} {B cb : Nat} {a : Option Addr} {len cap : Nat} {l : List Wd} {v : Value} {acc : List Th} {pb mb : Nat} {ms : List (Int × Int)} (h : Chart w B cb a len cap l v acc pb mb ms) : cb < w.heap.size := World.block_lt_of_cell? w _ h.c0
theorem Chart.below {w w' : World} {B cb : Nat} {a : Option Addr} {len cap : Nat} {l : List Wd} {v : Value} {acc : List Th} {pb mb : Nat} {ms : List (Int × Int)} (h : Chart w B cb a len cap l v acc pb mb ms) (hb : Below w.heap.size w w') : Chart w' B cb a len cap l v acc pb mb ms := by
  have hl := h.lt
  exact ⟨h.wds.below (hb.mono (by have := h.hcb; omega)), (hb.cell (p := ⟨cb, _, none⟩) hl).trans h.c0, (hb.cell (p := ⟨cb, _, none⟩) hl).trans h.c1, (hb.cell (p := ⟨cb, _, none⟩) hl).trans h.c2, (hb.cell (p := ⟨cb, _, none⟩) hl).trans h.c3, (hb.frozen (p := ⟨cb, _, none⟩) hl).trans h.f1,
    h.row.keep (fun b hv => hb.block b (h.row.own_lt hv).2), h.pl.keep (hb.block _ h.pl.lt), h.mv.keep (hb.block _ h.mv.lt), h.hcb, h.hpb, h.hmb, h.n1, h.n2, h.n3, h.n4⟩
/-- A pair more in the map of the things' places. -/
theorem Chart.placed {w w' : World} {B cb : Nat} {a : Option Addr} {len cap : Nat} {l : List Wd} {v : Value} {acc : List Th} {pb mb : Nat} {ms : List (Int × Int)} (h : Chart w B cb a len cap l v acc pb mb ms) (hg : w.grownBy w' (some pb)) :
    Wds w' B a l ∧ w'.cell? ⟨cb, 0, none⟩ = some (.slice a len cap) ∧ w'.cell? ⟨cb, 1, none⟩ = some v ∧ w'.cell? ⟨cb, 2, none⟩ = some (.map (some pb)) ∧ w'.cell? ⟨cb, 3, none⟩ = some (.map (some mb)) ∧ w'.frozen? ⟨cb, 1, none⟩ = false ∧ ThL w' B v acc ∧ OwnsI w' mb ms := by
  have hl := h.lt
  have hne : some cb ≠ some pb := fun e => h.n1 (by injection e)
  have hB : Below B w w' := (Below.refl _ _).grown hg (by have := h.hcb; omega) (fun j hj => by cases hj; exact h.hpb)
  exact ⟨h.wds.below hB, (hg.cell_far ⟨cb, _, none⟩ hl hne).trans h.c0, (hg.cell_far ⟨cb, _, none⟩ hl hne).trans h.c1, (hg.cell_far ⟨cb, _, none⟩ hl hne).trans h.c2, (hg.cell_far ⟨cb, _, none⟩ hl hne).trans h.c3, (hg.frozen_far ⟨cb, _, none⟩ hl hne).trans h.f1,
    h.row.keep (fun b hv => hg.block b (h.row.own_lt hv).2 (fun e => (h.n4 b hv).2.1 (by injection e))), h.mv.kept hg (fun e => h.n3 (by injection e with e; exact e.symm))⟩
end Go.Proofs.YtldmanfgmadbfaaGreatDoor.HH

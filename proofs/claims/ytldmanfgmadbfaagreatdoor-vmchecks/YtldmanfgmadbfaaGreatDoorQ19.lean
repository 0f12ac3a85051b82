/- VmChecks: both answer the same. · The closed facts of VmChecks's row, one by one. · The effects of the operators, as the row's cell 'laid' has them. · VmChecks' row, over the document's contract. · vm.Check answers what the document's P4.5 asks, whatever the world: VmChecks returns true. No condition; the effects start as their text lays them. -/
import Derived.Test.YtldmanfgmadbfaaGreatDoorQ18
import Derived.Test.YtldmanfgmadbfaaGreatDoorQ07
import Derived.Test.YtldmanfgmadbfaaGreatDoorRows
import Derived.JoinedOf
import Derived.ProofKit
import Derived.Test.YtldmanfgmadbfaaGreatDoorQ08
import Derived.LaidMore
import Derived.Lib.LaidTab
import Derived.Test.YtldmanfgmadbfaaGreatDoorQ04
import Derived.SizedLaws
import Derived.Stop.LaidErr
import Derived.OpenShut
import Derived.Stop.Joined
import Derived.SevenTiedAt
import Derived.Test.YtldmanfgmadbfaaGreatDoorCards
import Derived.Test.YtldmanfgmadbfaaGreatDoorTie
namespace Go.Proofs.YtldmanfgmadbfaaGreatDoor
set_option maxRecDepth 100000
open HH UU VV
open Go.RowKit Go.Maps Go.WideMaps
/-- What the document's WorldMay answers. -/
def DocR (x : Wv) (lim : Int) (e : Ending) : Prop :=
  (e = .returned (.bool true) ∧ OkR lim x.hs ∧ x.fs.length ≤ 2000 ∧ x.gs.length ≤ 40 ∧ x.rs.length ≤ 8 ∧ ∃ th, ChainR x.hs th x.hs.length ∧ docB x th = true) ∨
  (e = .returned (.bool false) ∧ (BadR lim x.hs ∨ ¬ (x.fs.length ≤ 2000 ∧ x.gs.length ≤ 40 ∧ x.rs.length ≤ 8) ∨ ((x.gs.length ≤ 40 ∧ x.rs.length ≤ 8) ∧ ∃ th, ChainR x.hs th x.hs.length ∧ docB x th = false)))
theorem agree {x : Wv} {lim : Int} {e e' : Ending} (h : ChkR x lim e) (h' : DocR x lim e') : (e = .returned (.int .i64 0) ∧ e' = .returned (.bool true)) ∨ (e = .returned (.int .i64 9) ∧ e' = .returned (.bool false)) := by
  rcases h with ⟨th, rfl, ⟨ms, hok⟩, l1, l2, l3, hm⟩ | ⟨rfl, hno⟩
  · rcases h' with ⟨rfl, _⟩ | ⟨rfl, hd⟩
    · exact Or.inl ⟨rfl, rfl⟩
    · exfalso
      rcases hd with hb | hb | ⟨_, th', hc, hd⟩
      · exact ok_not_bad hok hb
      · exact hb ⟨l1, l2, l3⟩
      · have := (hok.chain.ref.same hc hok.chain.ref.full hc.full).1
        subst this
        rw [doc_same x _ l2 l3, hm] at hd
        cases hd
  · rcases h' with ⟨rfl, hr, l1, l2, l3, th', hc, hd⟩ | ⟨rfl, _⟩
    · exfalso
      rcases hno with hb | ⟨_, hb⟩ | ⟨th, ms, hok, hm⟩
      · exact bad_not_ok hb hr
      · exact hb ⟨l1, l2, l3⟩
      · have := (hok.chain.ref.same hc hok.chain.ref.full hc.full).1
        subst this
        rw [doc_same x _ l2 l3, hm] at hd
        cases hd
    · exact Or.inr ⟨rfl, rfl⟩
set_option maxHeartbeats 4000000 in
theorem vmChecks_walk (x : Wv) (lim : Int) (w : World) (hS : subW w (fun b => b < w.heap.size) x) (hb : bigW x) (hw : wfW x) (hE : EffAt w)
    (hW : ∀ w', Below w.heap.size w w' → Calls Tryz.prog 6 #[.agg #[.slice x.fa x.fs.length x.fcap, .slice x.ga x.gs.length x.gcap, .slice x.ra x.rs.length x.rcap, .slice x.ha x.hs.length x.hcap, .int .i64 lim]] w' fun e w'' => DocR x lim e ∧ Below w'.heap.size w' w'') :
    Calls Tryz.prog 3 #[.agg #[.slice x.fa x.fs.length x.fcap, .slice x.ga x.gs.length x.gcap, .slice x.ra x.rs.length x.rcap, .slice x.ha x.hs.length x.hcap, .int .i64 lim]] w fun e w' => e = .returned (.bool true) ∧ Below w.heap.size w w' := by
  obtain ⟨w2, hw2⟩ : ∃ w2, w2 = w.alloc (.cells #[.slice x.fa x.fs.length x.fcap, .slice x.ga x.gs.length x.gcap, .slice x.ra x.rs.length x.rcap, .slice x.ha x.hs.length x.hcap, .int .i64 lim] 29) := ⟨_, rfl⟩
  have HB2 := hid (show Below w.heap.size w w2 by rw [hw2]; exact (Below.refl _ _).alloc (Nat.le_refl _) _)
  have hz2 : w2.heap.size = w.heap.size + 1 := by rw [hw2]; simp
  have k0 : w2.cell? ⟨w.heap.size, 0, none⟩ = some (.slice x.fa x.fs.length x.fcap) ∧ w2.cell? ⟨w.heap.size, 1, none⟩ = some (.slice x.ga x.gs.length x.gcap) ∧ w2.cell? ⟨w.heap.size, 2, none⟩ = some (.slice x.ra x.rs.length x.rcap) ∧ w2.cell? ⟨w.heap.size, 3, none⟩ = some (.slice x.ha x.hs.length x.hcap) ∧ w2.cell? ⟨w.heap.size, 4, none⟩ = some (.int .i64 lim) := by
    rw [hw2]; refine ⟨?_, ?_, ?_, ?_, ?_⟩ <;> go_simp
  have K0 := hid k0
  have hcall := vmCheck_any x lim w2 (subW_keep hS (fun b hb' => HB2.out.block b hb') (fun _ hb' => Nat.lt_of_lt_of_le hb' HB2.out.size)) hb hw (hE.below HB2.out hE.lt)
  have H2 := hid hw2
  clear hw2 hS hb hw hE k0
  go_enter Tryz.func3, Tryz.ntmps3
  go_wp2_with fail
  rw [← H2.out]
  go_fit hcall
  clear hcall
  rintro e w3 ⟨hc, hb3⟩
  have HC := hid hc
  have HB3 := hid (HB2.out.trans (hb3.mono HB2.out.size))
  obtain ⟨k0, k1, k2, k3, k4⟩ := K0.out
  have k0 := (hb3.cell (p := ⟨w.heap.size, 0, none⟩) (by dsimp only; omega)).trans k0
  have k1 := (hb3.cell (p := ⟨w.heap.size, 1, none⟩) (by dsimp only; omega)).trans k1
  have k2 := (hb3.cell (p := ⟨w.heap.size, 2, none⟩) (by dsimp only; omega)).trans k2
  have k3 := (hb3.cell (p := ⟨w.heap.size, 3, none⟩) (by dsimp only; omega)).trans k3
  have k4 := (hb3.cell (p := ⟨w.heap.size, 4, none⟩) (by dsimp only; omega)).trans k4
  have hcall := hW w3 HB3.out
  clear hW hb3
  have hsplit : ∀ e', DocR x lim e' → _ := fun e' h' => agree HC.out h'
  have HSp := hid hsplit
  clear hsplit hc
  rcases HC.out with ⟨th, rfl, _⟩ | ⟨rfl, _⟩
  · go_wp2_with fail
    go_fit hcall
    clear hcall
    rintro e w4 ⟨hd, hb4⟩
    have HB4 := hid (HB3.out.trans (hb4.mono HB3.out.size))
    rcases HSp.out _ hd with ⟨_, rfl⟩ | ⟨h0, _⟩
    · clear hb4 hd
      go_wp2
      go_ret
      exact ⟨rfl, HB4.out⟩
    · cases h0
  · go_wp2_with fail
    go_fit hcall
    clear hcall
    rintro e w4 ⟨hd, hb4⟩
    have HB4 := hid (HB3.out.trans (hb4.mono HB3.out.size))
    rcases HSp.out _ hd with ⟨h0, _⟩ | ⟨_, rfl⟩
    · cases h0
    · clear hb4 hd
      go_wp2
      go_ret
      exact ⟨rfl, HB4.out⟩
end Go.Proofs.YtldmanfgmadbfaaGreatDoor
namespace Go.Proofs.YtldmanfgmadbfaaGreatDoor
set_option maxRecDepth 100000
theorem band {a b : Bool} (ha : a = true) (hb : b = true) : (a && b) = true := by rw [ha, hb]; rfl
set_option maxHeartbeats 40000000 in
theorem joined : joinedFacts Tryz.prog 3 Tryz.f3 Rows.vmChecksSpec Rows.vmChecksRow = true := by
  unfold joinedFacts
  repeat' with_reducible apply band
  all_goals as_aux_lemma => kernel_rfl
end Go.Proofs.YtldmanfgmadbfaaGreatDoor
namespace Go.Proofs.YtldmanfgmadbfaaGreatDoor
set_option maxRecDepth 100000
open HH UU VV
open Go.RowKit Go.Maps Go.WideMaps
def litE (e : Eff) : DataW Unit := .agg [.lit (.int .i64 e.takes), .lit (.int .i64 e.byA), .lit (.int .i64 e.byB), .lit (.int .i64 e.leaves), .lit (.int .i64 e.goes), .lit (.bool e.inMove)]
def cellsE (e : Eff) : List Value := [.int .i64 e.takes, .int .i64 e.byA, .int .i64 e.byB, .int .i64 e.leaves, .int .i64 e.goes, .bool e.inMove]
theorem cellsEff : Tryz.prog.cellsOf 153 = 6 := by kernel_rfl
theorem cellsEffs : Tryz.prog.cellsOf 154 = 138 := by kernel_rfl
theorem cellsI : Tryz.prog.cellsOf 3 = 1 := by kernel_rfl
theorem cellsB : Tryz.prog.cellsOf 4 = 1 := by kernel_rfl
theorem six {α : Type} {l : List α} (h : l.length = 6) : ∃ a b c d e f, l = [a, b, c, d, e, f] := by
  match l, h with
  | [a, b, c, d, e, f], _ => exact ⟨a, b, c, d, e, f, rfl⟩
theorem eff_cells {enc : TypeId × Value → Unit} {w : World} {base : Nat} {sp : Nat → Bool} {held : Bool} {fuel : Nat} {cs : List Value} {e : Eff} {p : List MemPlace}
    (h : DataW.trod enc Tryz.prog w base sp held fuel 153 cs = some (litE e, p)) : cs = cellsE e := by
  obtain ⟨xs, n, rfl, hx, hlen, hxl, hat⟩ := DataW.trod_struct Tryz.underlying153 h
  rw [cellsEff] at hlen
  obtain ⟨c0, c1, c2, c3, c4, c5, rfl⟩ := six hlen
  obtain ⟨x0, x1, x2, x3, x4, x5, rfl⟩ := six (l := xs) (by rw [hxl]; rfl)
  have h0 := hat 0 _ rfl
  have h1 := hat 1 _ rfl
  have h2 := hat 2 _ rfl
  have h3 := hat 3 _ rfl
  have h4 := hat 4 _ rfl
  have h5 := hat 5 _ rfl
  simp only [List.getElem?_cons_succ, List.getElem?_cons_zero] at h0 h1 h2 h3 h4 h5
  obtain ⟨n0, e0, rfl, _⟩ := DataW.trod_int Tryz.underlying3 h0
  obtain ⟨n1, e1, rfl, _⟩ := DataW.trod_int Tryz.underlying3 h1
  obtain ⟨n2, e2, rfl, _⟩ := DataW.trod_int Tryz.underlying3 h2
  obtain ⟨n3, e3, rfl, _⟩ := DataW.trod_int Tryz.underlying3 h3
  obtain ⟨n4, e4, rfl, _⟩ := DataW.trod_int Tryz.underlying3 h4
  obtain ⟨n5, e5, rfl⟩ := DataW.trod_bool Tryz.underlying4 h5
  have hh := congrArg Prod.fst hx
  simp only [litE, List.map_cons, List.map_nil, DataW.agg.injEq, List.cons.injEq, DataW.lit.injEq, Lit.int.injEq, Lit.bool.injEq, true_and, and_true] at hh
  obtain ⟨q0, q1, q2, q3, q4, q5⟩ := hh
  have f0 := (List.cons.inj e0).1
  have f1 := (List.cons.inj e1).1
  have f2 := (List.cons.inj e2).1
  have f3 := (List.cons.inj e3).1
  have f4 := (List.cons.inj e4).1
  have f5 := (List.cons.inj e5).1
  rw [f0, f1, f2, f3, f4, f5]
  rw [cellsE, q0, q1, q2, q3, q4, q5]
theorem laid_is : (Rows.laid_graftery_vm_effects : DataW Unit) = .agg (effs.map litE) := by rfl
theorem gEff : Tryz.prog.globalNamed "graftery/vm.effects" = some 0 := by kernel_rfl
theorem gEffType : (Tryz.prog.globals[0]?).map (·.type) = some 154 := by kernel_rfl
theorem lt_of_var {W : World} {n : String} {g : Nat} {cs : Array Value} (hg : Tryz.prog.globalNamed n = some g) (h : W.var? Tryz.prog n = some cs) : g < W.heap.size := by
  unfold World.var? at h
  simp only [hg, Option.bind_some] at h
  rcases Nat.lt_or_ge g W.heap.size with h' | h'
  · exact h'
  · rw [Array.getElem?_eq_none h'] at h; simp at h
theorem effs_cells {enc : TypeId × Value → Unit} {w : World} {base : Nat} {sp : Nat → Bool} {held : Bool} {fuel : Nat} {cs : List Value} {p : List MemPlace}
    (h : DataW.trod enc Tryz.prog w base sp held fuel 154 cs = some (.agg (effs.map litE), p)) (i : Nat) (hi : i < 23) : (cs.drop (i * 6)).take 6 = cellsE (effAt i) := by
  cases fuel with
  | zero => simp [DataW.trod] at h
  | succ fuel =>
    simp only [DataW.trod, Tryz.underlying154, cellsEff, cellsEffs] at h
    split at h
    · obtain ⟨xs, hm, hx⟩ := Option.map_eq_some_iff.1 h
      have hxs : xs.map (·.1) = effs.map litE := by
        have := congrArg Prod.fst hx
        simpa using this
      obtain ⟨b, hb, hf⟩ := Lib.mapM_at hm i i (by simp [hi])
      have h2 : (xs.map (·.1))[i]? = some b.1 := by simp [hb]
      have hle : effs.length = 23 := rfl
      have hi2 : i < effs.length := by omega
      rw [hxs, List.getElem?_map, List.getElem?_eq_getElem hi2] at h2
      have h3 : litE effs[i] = b.1 := by simpa using h2
      have h4 : effAt (i : Int) = effs[i] := by unfold effAt; rw [Int.toNat_natCast, List.getD_eq_getElem?_getD, List.getElem?_eq_getElem hi2]; rfl
      obtain ⟨b1, b2⟩ := b
      have h3 : litE effs[i] = b1 := h3
      subst h3
      rw [h4]
      exact eff_cells hf
    · cases h
/-- The effects lie as their variable's text has them. -/
theorem eff_of_laid {W : World} (h : laidMetH Tryz.prog [("graftery/vm.effects", Rows.laid_graftery_vm_effects)] W) : EffAt W := by
  rw [MakeChecks.laidMetH_plain _ _ _ (by kernel_rfl)] at h
  obtain ⟨ps, ⟨g', t', cs, fuel, p, q, hg', ht', hvar, hd, _, _⟩, _⟩ := h
  obtain rfl := Option.some.inj (gEff.symm.trans hg')
  obtain rfl := Option.some.inj (gEffType.symm.trans ht')
  rw [laid_is] at hd
  refine ⟨lt_of_var gEff hvar, fun k hk => ?_⟩
  have hc := effs_cells hd k (by omega)
  have hj : ∀ j, j < 6 → W.cell? ⟨0, k * 6 + j, none⟩ = (cellsE (effAt k))[j]? := by
    intro j hj
    have hv := World.var?_cell gEff hvar (k * 6 + j)
    rw [← hc, List.getElem?_take, if_pos hj, List.getElem?_drop]
    simpa using hv
  have j0 := hj 0 (by omega)
  have j1 := hj 1 (by omega)
  have j2 := hj 2 (by omega)
  have j3 := hj 3 (by omega)
  have j4 := hj 4 (by omega)
  have j5 := hj 5 (by omega)
  exact ⟨j0, j1, j2, j3, j4, j5⟩
end Go.Proofs.YtldmanfgmadbfaaGreatDoor
namespace Go.Proofs.YtldmanfgmadbfaaGreatDoor
set_option maxRecDepth 100000
open HH UU VV
open Go.ChangeShapes Go.WideShapes Go.ChangeAt Go.RowKit
/-- What the document's WorldMay keeps. -/
def WorldC : Prop := ∀ (x : Wv) (lim : Int) (w : World), subW w (fun b => b < w.heap.size) x → bigW x → wfW x →
  Calls Tryz.prog 6 #[.agg #[.slice x.fa x.fs.length x.fcap, .slice x.ga x.gs.length x.gcap, .slice x.ra x.rs.length x.rcap, .slice x.ha x.hs.length x.hcap, .int .i64 lim]] w fun e w' => DocR x lim e ∧ Below w.heap.size w w'
def laid1 : List (String × DataW Unit) := [("graftery/vm.effects", Rows.laid_graftery_vm_effects)]
theorem own : ownKnob Tryz.prog.godebug = none := by kernel_rfl
theorem laidOut : laidOutB Tryz.prog = true := by kernel_rfl
theorem door_met (os : Os) (args : Array Value) : laidMetH Tryz.prog laid1 ((World.doorLaid Tryz.prog 89 os).forCall (fun _ _ => 0) ⟨#[], args, []⟩).memory :=
  laidMetH_of_parts3 (fuel := 8) (laidMet_of_run' 8 (by kernel_rfl) (by kernel_rfl)) (by kernel_rfl) (by kernel_rfl)
set_option maxRecDepth 100000 in
set_option maxHeartbeats 1000000 in
theorem lifted (hC : WorldC) (os : Os) (started : os.Started) (H : Type) (enc : TypeId × Value → H) :
    ReturnsInHanded {} Tryz.checked os 3 .any (fun w args => (Rows.vmChecksSpec.pre enc Tryz.prog Tryz.f3 [] false w args ∧ laidMetH Tryz.prog laid1 w) ∧ sizedMet enc Tryz.prog Tryz.f3 (OpenSpec.ofChange Rows.vmChecksSpec) false w args)
      (Rows.vmChecksSpec.post enc Tryz.prog Tryz.f3 false true false false) := by
  refine returnsInHanded_of_change_and (C := Tryz.checked) (X := fun w _ => laidMetH Tryz.prog laid1 w) (fun _ _ _ hh h => h.of_heap hh) own started (by kernel_rfl) Tryz.func3
    (ChangeSpec.witness_shaped (enc := enc) (C := Tryz.checked) (os := os) (X := fun w _ => laidMetH Tryz.prog laid1 w) false (World.doorLaid Tryz.prog 89 os) #[.agg #[.slice none 0 0, .slice none 0 0, .slice none 0 0, .slice none 0 0, .int .i64 0]] 8 rfl (World.shaped_of_RefB (by kernel_rfl) (by kernel_rfl)) (by kernel_rfl) (by kernel_rfl) (by kernel_rfl) (door_met os _)) ?_
  intro W base args ds gs before hval0 hW hcnd hsz0 hL _
  have hval : ∀ (j : Nat) t v, Tryz.f3.params[j]? = some t → args[j]? = some v → Value.okWide Tryz.prog W .any base t v := hval0
  have hsz : (DataW.weightsEach Tryz.prog (Tryz.f3.params.toList ++ Rows.vmChecksSpec.plain.varTypes Tryz.prog) (ds ++ gs)).all (· ≤ reachBytes) = true := hsz0
  have hW' := hW
  obtain ⟨p, q, hA0, hV, rfl, hfz, hnd⟩ := hW
  have hA : DataW.TrodAll enc Tryz.prog W 0 (fun _ => true) true Tryz.f3.params.toList args.toList ds p := hA0
  rw [Tryz.params3] at hA hval hsz
  obtain ⟨v0, vs0, d0, ds0, p0, q0, hargs, rfl, rfl, h0, r0⟩ := trodAll_cons hA
  obtain ⟨rfl, rfl, rfl⟩ := trodAll_nil r0
  obtain rfl : args = #[v0] := by cases args; simp_all
  obtain ⟨rfl, rfl⟩ := trodVars_none hV
  have k0 := h0
  have lt0 : ∀ x ∈ p0, x.block < W.heap.size := by obtain ⟨m, hm⟩ := k0; exact DataW.trod_lt m _ _ _ hm
  have hw0 : VV.InR Tryz.prog 29 d0 := fun n hn => by
    have := List.all_eq_true.1 hsz n (DataW.weights_mem_each (j := 0) rfl rfl n hn)
    exact of_decide_eq_true this
  obtain ⟨x, lim, rfl, hsub, hbig, hwf, _⟩ := open_world (hval 0 29 v0 rfl rfl) h0 hw0
  have hE := eff_of_laid hL
  clear hA0 hval0 hsz0 hsz
  refine (vmChecks_walk x lim W hsub hbig hwf hE (fun w' hb => hC x lim w' (subW_keep hsub (fun b hb' => hb.block b hb') (fun _ hb' => Nat.lt_of_lt_of_le hb' hb.size)) hbig hwf)).mono fun e W' ⟨he, bel⟩ => ?_
  subst he
  exact ⟨_, rfl, _, _, _, [], _, [], hW', trodAll_mk1 (shut_bool Tryz.underlying4 _), (trodAll_cons_mk (Below.trod laidOut (by kernel_rfl) (of_decide_eq_true (by kernel_rfl)) k0 bel lt0) trodAll_mk0), rfl, bel.frame _, fun h => by cases h⟩
theorem vmChecks_row (hC : WorldC) : Rows.VmChecksSaid :=
  OpenClaim.holds_of_wide 3 Tryz.f3 rfl rfl rfl rfl rfl rfl rfl ⟨rfl, rfl, rfl, rfl, rfl⟩ rfl rfl rfl rfl rfl (by as_aux_lemma => kernel_rfl) Tryz.func3 joined
    (of_decide_eq_true (by as_aux_lemma => kernel_rfl)) (by unfold Func.isWrapper; first | (rw [if_pos (by decide +kernel)]; kernel_rfl) | (rw [if_neg (by decide +kernel)]; exact ⟨rfl, rfl⟩))
    (fun os started H enc _ => lifted hC os started H enc)
end Go.Proofs.YtldmanfgmadbfaaGreatDoor
namespace Go.Proofs.YtldmanfgmadbfaaGreatDoor
set_option maxRecDepth 100000
open HH UU VV
open Go.ChangeShapes Go.WideShapes Go.ChangeAt Go.RowKit
set_option maxHeartbeats 40000000 in
theorem vmChecks_card_of (hC : WorldC) : Rows.VmChecksCardSaid :=
  Claim7.holds_tied_plain_at .later [] [.data] true (true, "f900bb85e3dc5c6749fbb0ba3cfa3153ab7525b604644074b62268459ceb3d25") false
    (vmChecks_row hC) (fun _ h => by cases h) (by as_aux_lemma => kernel_rfl) (fun _ h => by cases h) vmChecks_row_tie rfl ⟨rfl, rfl⟩ (by as_aux_lemma => kernel_rfl) rfl
    (fun f fn hf hfn => by
      obtain rfl : f = 3 := Option.some.inj ((show Tryz.prog.funcNamed "graftery/grafterylaw.VmChecks" = some 3 by kernel_rfl).symm.trans hf) |>.symm
      obtain rfl : fn = Tryz.f3 := (Option.some.inj (Tryz.func3.symm.trans hfn)).symm
      exact ⟨by kernel_rfl, fun j t ht => by
        rw [Tryz.params3] at ht
        have hm : t ∈ [29] := by simpa using Array.mem_of_getElem? ht
        have hall : ([29].all fun u => !Tryz.prog.wantsStandIn u) = true := by kernel_rfl
        exact (show Tryz.prog.wantsStandIn t = false by simpa using List.all_eq_true.1 hall t hm)⟩)
    (by as_aux_lemma => kernel_rfl)
end Go.Proofs.YtldmanfgmadbfaaGreatDoor

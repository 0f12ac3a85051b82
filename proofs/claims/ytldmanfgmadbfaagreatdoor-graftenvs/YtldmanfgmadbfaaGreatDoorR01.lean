/- VmChecks: both answer the same. · The effects of the operators, as the row's cell 'laid' has them. · The closed facts of GraftEnvs's row, one by one. · Records that are being gathered in memory of one's own. · The records behind a unit, plainly: P2.4; which map tells their places; copies of texts. · Rows of the same texts, of the same records, are told the same; texts that the document copies. · What graft's Env copies: a record's last version, a shape in memory of its own. -/
import Derived.Test.YtldmanfgmadbfaaGreatDoorQ18
import Derived.Test.YtldmanfgmadbfaaGreatDoorQ07
import Derived.Test.YtldmanfgmadbfaaGreatDoorQ08
import Derived.Test.YtldmanfgmadbfaaGreatDoorRows
import Derived.LaidMore
import Derived.Lib.LaidTab
import Derived.JoinedOf
import Derived.ProofKit
import Derived.Deep.AppendLies
import Derived.Lib.SmallJoins
import Derived.Maps.AppendAt
import Derived.Deep.Draws
import Derived.Test.YtldmanfgmadbfaaGreatDoorQ15
namespace Go.Proofs.YtldmanfgmadbfaaGreatDoor
set_option maxRecDepth 100000
open HH UU VV
open Go.RowKit Go.Maps Go.WideMaps
/-- What the document's WorldMay answers. -/
def DocR (x : Wv) (lim : Int) (e : Ending) : Prop :=
  (e = .returned (.bool true) ∧ OkR lim x.hs ∧ x.fs.length ≤ 2000 ∧ x.gs.length ≤ 40 ∧ x.rs.length ≤ 8 ∧ ∃ th, ChainR x.hs th x.hs.length ∧ docB x th = true) ∨
  (e = .returned (.bool false) ∧ (BadR lim x.hs ∨ ¬ (x.fs.length ≤ 2000 ∧ x.gs.length ≤ 40 ∧ x.rs.length ≤ 8) ∨ ((x.gs.length ≤ 40 ∧ x.rs.length ≤ 8) ∧ ∃ th, ChainR x.hs th x.hs.length ∧ docB x th = false)))
theorem agree {x : Wv} {lim : Int} {e e' : Ending} (h : ChkR x lim e) (h' : DocR x lim e') : (e = .returned (.int .i64 0) ∧ e' = .returned (.bool true)) ∨ (e = .returned (.int .i64 9) ∧ e' = .returned (.bool false)) := by
  rcases h with ⟨th, rfl, ⟨ms, hok⟩, l1, l2, l3, hm⟩ | ⟨rfl, hno⟩
  · rcases h' with ⟨rfl, _⟩ | ⟨rfl, hd⟩
    · exact Or.inl ⟨rfl, rfl⟩
    · exfalso
      rcases hd with hb | hb | ⟨_, th', hc, hd⟩
      · exact ok_not_bad hok hb
      · exact hb ⟨l1, l2, l3⟩
      · have := (hok.chain.ref.same hc hok.chain.ref.full hc.full).1
        subst this
        rw [doc_same x _ l2 l3, hm] at hd
        cases hd
  · rcases h' with ⟨rfl, hr, l1, l2, l3, th', hc, hd⟩ | ⟨rfl, _⟩
    · exfalso
      rcases hno with hb | ⟨_, hb⟩ | ⟨th, ms, hok, hm⟩
      · exact bad_not_ok hb hr
      · exact hb ⟨l1, l2, l3⟩
      · have := (hok.chain.ref.same hc hok.chain.ref.full hc.full).1
        subst this
        rw [doc_same x _ l2 l3, hm] at hd
        cases hd
    · exact Or.inr ⟨rfl, rfl⟩
set_option maxHeartbeats 4000000 in
theorem vmChecks_walk (x : Wv) (lim : Int) (w : World) (hS : subW w (fun b => b < w.heap.size) x) (hb : bigW x) (hw : wfW x) (hE : EffAt w)
    (hW : ∀ w', Below w.heap.size w w' → Calls Tryz.prog 6 #[.agg #[.slice x.fa x.fs.length x.fcap, .slice x.ga x.gs.length x.gcap, .slice x.ra x.rs.length x.rcap, .slice x.ha x.hs.length x.hcap, .int .i64 lim]] w' fun e w'' => DocR x lim e ∧ Below w'.heap.size w' w'') :
    Calls Tryz.prog 3 #[.agg #[.slice x.fa x.fs.length x.fcap, .slice x.ga x.gs.length x.gcap, .slice x.ra x.rs.length x.rcap, .slice x.ha x.hs.length x.hcap, .int .i64 lim]] w fun e w' => e = .returned (.bool true) ∧ Below w.heap.size w w' := by
  obtain ⟨w2, hw2⟩ : ∃ w2, w2 = w.alloc (.cells #[.slice x.fa x.fs.length x.fcap, .slice x.ga x.gs.length x.gcap, .slice x.ra x.rs.length x.rcap, .slice x.ha x.hs.length x.hcap, .int .i64 lim] 29) := ⟨_, rfl⟩
  have HB2 := hid (show Below w.heap.size w w2 by rw [hw2]; exact (Below.refl _ _).alloc (Nat.le_refl _) _)
  have hz2 : w2.heap.size = w.heap.size + 1 := by rw [hw2]; simp
  have k0 : w2.cell? ⟨w.heap.size, 0, none⟩ = some (.slice x.fa x.fs.length x.fcap) ∧ w2.cell? ⟨w.heap.size, 1, none⟩ = some (.slice x.ga x.gs.length x.gcap) ∧ w2.cell? ⟨w.heap.size, 2, none⟩ = some (.slice x.ra x.rs.length x.rcap) ∧ w2.cell? ⟨w.heap.size, 3, none⟩ = some (.slice x.ha x.hs.length x.hcap) ∧ w2.cell? ⟨w.heap.size, 4, none⟩ = some (.int .i64 lim) := by
    rw [hw2]; refine ⟨?_, ?_, ?_, ?_, ?_⟩ <;> go_simp
  have K0 := hid k0
  have hcall := vmCheck_any x lim w2 (subW_keep hS (fun b hb' => HB2.out.block b hb') (fun _ hb' => Nat.lt_of_lt_of_le hb' HB2.out.size)) hb hw (hE.below HB2.out hE.lt)
  have H2 := hid hw2
  clear hw2 hS hb hw hE k0
  go_enter Tryz.func3, Tryz.ntmps3
  go_wp2_with fail
  rw [← H2.out]
  go_fit hcall
  clear hcall
  rintro e w3 ⟨hc, hb3⟩
  have HC := hid hc
  have HB3 := hid (HB2.out.trans (hb3.mono HB2.out.size))
  obtain ⟨k0, k1, k2, k3, k4⟩ := K0.out
  have k0 := (hb3.cell (p := ⟨w.heap.size, 0, none⟩) (by dsimp only; omega)).trans k0
  have k1 := (hb3.cell (p := ⟨w.heap.size, 1, none⟩) (by dsimp only; omega)).trans k1
  have k2 := (hb3.cell (p := ⟨w.heap.size, 2, none⟩) (by dsimp only; omega)).trans k2
  have k3 := (hb3.cell (p := ⟨w.heap.size, 3, none⟩) (by dsimp only; omega)).trans k3
  have k4 := (hb3.cell (p := ⟨w.heap.size, 4, none⟩) (by dsimp only; omega)).trans k4
  have hcall := hW w3 HB3.out
  clear hW hb3
  have hsplit : ∀ e', DocR x lim e' → _ := fun e' h' => agree HC.out h'
  have HSp := hid hsplit
  clear hsplit hc
  rcases HC.out with ⟨th, rfl, _⟩ | ⟨rfl, _⟩
  · go_wp2_with fail
    go_fit hcall
    clear hcall
    rintro e w4 ⟨hd, hb4⟩
    have HB4 := hid (HB3.out.trans (hb4.mono HB3.out.size))
    rcases HSp.out _ hd with ⟨_, rfl⟩ | ⟨h0, _⟩
    · clear hb4 hd
      go_wp2
      go_ret
      exact ⟨rfl, HB4.out⟩
    · cases h0
  · go_wp2_with fail
    go_fit hcall
    clear hcall
    rintro e w4 ⟨hd, hb4⟩
    have HB4 := hid (HB3.out.trans (hb4.mono HB3.out.size))
    rcases HSp.out _ hd with ⟨h0, _⟩ | ⟨_, rfl⟩
    · cases h0
    · clear hb4 hd
      go_wp2
      go_ret
      exact ⟨rfl, HB4.out⟩
end Go.Proofs.YtldmanfgmadbfaaGreatDoor
namespace Go.Proofs.YtldmanfgmadbfaaGreatDoor
set_option maxRecDepth 100000
open HH UU VV
open Go.RowKit Go.Maps Go.WideMaps
def litE (e : Eff) : DataW Unit := .agg [.lit (.int .i64 e.takes), .lit (.int .i64 e.byA), .lit (.int .i64 e.byB), .lit (.int .i64 e.leaves), .lit (.int .i64 e.goes), .lit (.bool e.inMove)]
def cellsE (e : Eff) : List Value := [.int .i64 e.takes, .int .i64 e.byA, .int .i64 e.byB, .int .i64 e.leaves, .int .i64 e.goes, .bool e.inMove]
theorem cellsEff : Tryz.prog.cellsOf 153 = 6 := by kernel_rfl
theorem cellsEffs : Tryz.prog.cellsOf 154 = 138 := by kernel_rfl
theorem cellsI : Tryz.prog.cellsOf 3 = 1 := by kernel_rfl
theorem cellsB : Tryz.prog.cellsOf 4 = 1 := by kernel_rfl
theorem six {α : Type} {l : List α} (h : l.length = 6) : ∃ a b c d e f, l = [a, b, c, d, e, f] := by
  match l, h with
  | [a, b, c, d, e, f], _ => exact ⟨a, b, c, d, e, f, rfl⟩
theorem eff_cells {enc : TypeId × Value → Unit} {w : World} {base : Nat} {sp : Nat → Bool} {held : Bool} {fuel : Nat} {cs : List Value} {e : Eff} {p : List MemPlace}
    (h : DataW.trod enc Tryz.prog w base sp held fuel 153 cs = some (litE e, p)) : cs = cellsE e := by
  obtain ⟨xs, n, rfl, hx, hlen, hxl, hat⟩ := DataW.trod_struct Tryz.underlying153 h
  rw [cellsEff] at hlen
  obtain ⟨c0, c1, c2, c3, c4, c5, rfl⟩ := six hlen
  obtain ⟨x0, x1, x2, x3, x4, x5, rfl⟩ := six (l := xs) (by rw [hxl]; rfl)
  have h0 := hat 0 _ rfl
  have h1 := hat 1 _ rfl
  have h2 := hat 2 _ rfl
  have h3 := hat 3 _ rfl
  have h4 := hat 4 _ rfl
  have h5 := hat 5 _ rfl
  simp only [List.getElem?_cons_succ, List.getElem?_cons_zero] at h0 h1 h2 h3 h4 h5
  obtain ⟨n0, e0, rfl, _⟩ := DataW.trod_int Tryz.underlying3 h0
  obtain ⟨n1, e1, rfl, _⟩ := DataW.trod_int Tryz.underlying3 h1
  obtain ⟨n2, e2, rfl, _⟩ := DataW.trod_int Tryz.underlying3 h2
  obtain ⟨n3, e3, rfl, _⟩ := DataW.trod_int Tryz.underlying3 h3
  obtain ⟨n4, e4, rfl, _⟩ := DataW.trod_int Tryz.underlying3 h4
  obtain ⟨n5, e5, rfl⟩ := DataW.trod_bool Tryz.underlying4 h5
  have hh := congrArg Prod.fst hx
  simp only [litE, List.map_cons, List.map_nil, DataW.agg.injEq, List.cons.injEq, DataW.lit.injEq, Lit.int.injEq, Lit.bool.injEq, true_and, and_true] at hh
  obtain ⟨q0, q1, q2, q3, q4, q5⟩ := hh
  have f0 := (List.cons.inj e0).1
  have f1 := (List.cons.inj e1).1
  have f2 := (List.cons.inj e2).1
  have f3 := (List.cons.inj e3).1
  have f4 := (List.cons.inj e4).1
  have f5 := (List.cons.inj e5).1
  rw [f0, f1, f2, f3, f4, f5]
  rw [cellsE, q0, q1, q2, q3, q4, q5]
theorem laid_is : (Rows.laid_graftery_vm_effects : DataW Unit) = .agg (effs.map litE) := by rfl
theorem gEff : Tryz.prog.globalNamed "graftery/vm.effects" = some 0 := by kernel_rfl
theorem gEffType : (Tryz.prog.globals[0]?).map (·.type) = some 154 := by kernel_rfl
theorem lt_of_var {W : World} {n : String} {g : Nat} {cs : Array Value} (hg : Tryz.prog.globalNamed n = some g) (h : W.var? Tryz.prog n = some cs) : g < W.heap.size := by
  unfold World.var? at h
  simp only [hg, Option.bind_some] at h
  rcases Nat.lt_or_ge g W.heap.size with h' | h'
  · exact h'
  · rw [Array.getElem?_eq_none h'] at h; simp at h
theorem effs_cells {enc : TypeId × Value → Unit} {w : World} {base : Nat} {sp : Nat → Bool} {held : Bool} {fuel : Nat} {cs : List Value} {p : List MemPlace}
    (h : DataW.trod enc Tryz.prog w base sp held fuel 154 cs = some (.agg (effs.map litE), p)) (i : Nat) (hi : i < 23) : (cs.drop (i * 6)).take 6 = cellsE (effAt i) := by
  cases fuel with
  | zero => simp [DataW.trod] at h
  | succ fuel =>
    simp only [DataW.trod, Tryz.underlying154, cellsEff, cellsEffs] at h
    split at h
    · obtain ⟨xs, hm, hx⟩ := Option.map_eq_some_iff.1 h
      have hxs : xs.map (·.1) = effs.map litE := by
        have := congrArg Prod.fst hx
        simpa using this
      obtain ⟨b, hb, hf⟩ := Lib.mapM_at hm i i (by simp [hi])
      have h2 : (xs.map (·.1))[i]? = some b.1 := by simp [hb]
      have hle : effs.length = 23 := rfl
      have hi2 : i < effs.length := by omega
      rw [hxs, List.getElem?_map, List.getElem?_eq_getElem hi2] at h2
      have h3 : litE effs[i] = b.1 := by simpa using h2
      have h4 : effAt (i : Int) = effs[i] := by unfold effAt; rw [Int.toNat_natCast, List.getD_eq_getElem?_getD, List.getElem?_eq_getElem hi2]; rfl
      obtain ⟨b1, b2⟩ := b
      have h3 : litE effs[i] = b1 := h3
      subst h3
      rw [h4]
      exact eff_cells hf
    · cases h
/-- The effects lie as their variable's text has them. -/
theorem eff_of_laid {W : World} (h : laidMetH Tryz.prog [("graftery/vm.effects", Rows.laid_graftery_vm_effects)] W) : EffAt W := by
  rw [MakeChecks.laidMetH_plain _ _ _ (by kernel_rfl)] at h
  obtain ⟨ps, ⟨g', t', cs, fuel, p, q, hg', ht', hvar, hd, _, _⟩, _⟩ := h
  obtain rfl := Option.some.inj (gEff.symm.trans hg')
  obtain rfl := Option.some.inj (gEffType.symm.trans ht')
  rw [laid_is] at hd
  refine ⟨lt_of_var gEff hvar, fun k hk => ?_⟩
  have hc := effs_cells hd k (by omega)
  have hj : ∀ j, j < 6 → W.cell? ⟨0, k * 6 + j, none⟩ = (cellsE (effAt k))[j]? := by
    intro j hj
    have hv := World.var?_cell gEff hvar (k * 6 + j)
    rw [← hc, List.getElem?_take, if_pos hj, List.getElem?_drop]
    simpa using hv
  have j0 := hj 0 (by omega)
  have j1 := hj 1 (by omega)
  have j2 := hj 2 (by omega)
  have j3 := hj 3 (by omega)
  have j4 := hj 4 (by omega)
  have j5 := hj 5 (by omega)
  exact ⟨j0, j1, j2, j3, j4, j5⟩
end Go.Proofs.YtldmanfgmadbfaaGreatDoor
namespace Go.Proofs.YtldmanfgmadbfaaGreatDoor
set_option maxRecDepth 100000
theorem bandE {a b : Bool} (ha : a = true) (hb : b = true) : (a && b) = true := by rw [ha, hb]; rfl
set_option maxHeartbeats 40000000 in
theorem joinedE : joinedFacts Tryz.prog 4 Tryz.f4 Rows.graftEnvsSpec Rows.graftEnvsRow = true := by
  unfold joinedFacts
  repeat' with_reducible apply bandE
  all_goals as_aux_lemma => kernel_rfl
end Go.Proofs.YtldmanfgmadbfaaGreatDoor
namespace Go.Proofs.YtldmanfgmadbfaaGreatDoor.UU
set_option maxRecDepth 100000
open Go.RowKit Go.WideMaps Go.Maps
/-- All that was there is as it was, but for block rb. -/
structure Past (rb : Nat) (w w' : World) : Prop where
  os : w'.os = w.os
  tape : w'.tape = w.tape
  output : w'.output = w.output
  size : w.heap.size ≤ w'.heap.size
  block : ∀ k, k < w.heap.size → ¬ k = rb → w'.heap[k]? = w.heap[k]?
theorem Past.refl (rb : Nat) (w : World) : Past rb w w := ⟨rfl, rfl, rfl, Nat.le_refl _, fun _ _ _ => rfl⟩
theorem Past.trans {rb : Nat} {a b c : World} (h : Past rb a b) (k : Past rb b c) : Past rb a c :=
  ⟨k.os.trans h.os, k.tape.trans h.tape, k.output.trans h.output, Nat.le_trans h.size k.size, fun i hi hn => (k.block i (Nat.lt_of_lt_of_le hi h.size) hn).trans (h.block i hi hn)⟩
theorem Past.of_below {rb B : Nat} {w w' : World} (h : Below B w w') (hB : w.heap.size ≤ B) : Past rb w w' := ⟨h.os, h.tape, h.output, h.size, fun k hk _ => h.block k (by omega)⟩
theorem Past.step {rb B : Nat} {w0 w w' : World} (h : Past rb w0 w) (hb : Below B w w') (hB : w0.heap.size ≤ B) : Past rb w0 w' :=
  ⟨hb.os.trans h.os, hb.tape.trans h.tape, hb.output.trans h.output, Nat.le_trans h.size hb.size, fun k hk hn => (hb.block k (by omega)).trans (h.block k hk hn)⟩
theorem Past.grown {rb : Nat} {w0 w w' : World} {row : Option Nat} (h : Past rb w0 w) (hg : w.grownBy w' row) (hr : ∀ k, row = some k → k = rb ∨ w0.heap.size ≤ k) : Past rb w0 w' := by
  obtain ⟨g1, g2, g3, g4, g5⟩ := hg
  refine ⟨g1.trans h.os, g2.trans h.tape, g3.trans h.output, Nat.le_trans h.size g4, fun k hk hn => ?_⟩
  refine (g5 k (Nat.lt_of_lt_of_le hk h.size) (fun e => ?_)).trans (h.block k hk hn)
  rcases hr k e.symm with h' | h'
  · exact hn h'
  · omega
theorem Past.cell {rb : Nat} {w w' : World} (h : Past rb w w') {p : Addr} (hp : p.block < w.heap.size) (hn : ¬ p.block = rb) : w'.cell? p = w.cell? p := World.cell?_of_block (w := w) (h.block p.block hp hn)
theorem Past.below {rb B : Nat} {w w' : World} (h : Past rb w w') (hr : B ≤ rb) (hB : B ≤ w.heap.size) : Below B w w' := ⟨h.os, h.tape, h.output, h.size, fun k hk => h.block k (by omega) (by omega)⟩
/-- Texts in a row, in blocks of S. -/
def StrsS (w : World) (S : Nat → Prop) (a : Option Addr) (ss : List ByteArray) : Prop :=
  ∀ i (h : i < ss.length), ss[i].size ≤ maxLen ∧ ∃ b o, a = some ⟨b, o, none⟩ ∧ S b ∧ w.cell? ⟨b, o + i, none⟩ = some (.string ss[i])
theorem StrsS.keep {w w' : World} {S S' : Nat → Prop} {a : Option Addr} {ss : List ByteArray} (h : StrsS w S a ss) (hk : ∀ b, S b → w'.heap[b]? = w.heap[b]? ∧ S' b) : StrsS w' S' a ss := by
  intro i hi
  obtain ⟨h1, b, o, h2, h3, h4⟩ := h i hi
  exact ⟨h1, b, o, h2, (hk b h3).2, (World.cell?_of_block (w := w) (a := ⟨b, o + i, none⟩) (hk b h3).1).trans h4⟩
/-- The blocks that the records' own rows lie in. -/
def Own (w : World) (B : Nat) (v : Value) (b : Nat) : Prop := B ≤ b ∧ b < w.heap.size ∧ ¬ v.ownBlock = some b
/-- A record's bounds. -/
def Sh.ok (s : Sh) : Prop := s.name.size ≤ maxLen ∧ s.fs.length ≤ s.cap ∧ s.fs.length ≤ maxLen
/-- v holds the records l, in memory of one's own from block B on. -/
def ShL (w : World) (B : Nat) (v : Value) (l : List Sh) : Prop :=
  ∃ cells, w.ownsRow B 65 2 v l.length cells ∧ ∀ i (h : i < l.length), cells[i * 2]? = some (.string l[i].name) ∧ cells[i * 2 + 1]? = some (.slice l[i].adr l[i].fs.length l[i].cap) ∧ l[i].ok ∧ StrsS w (Own w B v) l[i].adr l[i].fs
theorem ShL.nil (w : World) (B : Nat) : ShL w B (.slice none 0 0) [] := ⟨[], ⟨rfl, Or.inl ⟨rfl, rfl⟩⟩, fun i h => absurd h (by simp)⟩
theorem ownsRow_keep {w w' : World} {B k : Nat} {ty : TypeId} {v : Value} {n : Nat} {cells : List Value} (h : w.ownsRow B ty k v n cells) (hk : ∀ b, v.ownBlock = some b → w'.heap[b]? = w.heap[b]?) : w'.ownsRow B ty k v n cells := by
  refine ⟨h.1, ?_⟩
  rcases h.2 with h | ⟨g, cap, cur, hv, hb, hg, hr⟩
  · exact Or.inl h
  · exact Or.inr ⟨g, cap, cur, hv, hb, by rw [hk g (by rw [hv]; rfl)]; exact hg, hr⟩
theorem ownsRow_lt {w : World} {B k : Nat} {ty : TypeId} {v : Value} {n : Nat} {cells : List Value} (h : w.ownsRow B ty k v n cells) {g : Nat} (hg : v.ownBlock = some g) : B ≤ g ∧ g < w.heap.size := by
  rcases h.2 with ⟨rfl, _⟩ | ⟨g', cap, cur, rfl, hb, hc, _⟩
  · simp [Value.ownBlock] at hg
  · simp [Value.ownBlock] at hg
    subst hg
    refine ⟨hb, ?_⟩
    rcases Nat.lt_or_ge g' w.heap.size with h' | h'
    · exact h'
    · rw [Array.getElem?_eq_none h'] at hc; cases hc
theorem ShL.own_lt {w : World} {B : Nat} {v : Value} {l : List Sh} (h : ShL w B v l) {g : Nat} (hg : v.ownBlock = some g) : B ≤ g ∧ g < w.heap.size := by
  obtain ⟨cells, ho, _⟩ := h
  exact ownsRow_lt ho hg
/-- What lies from block B on stays. -/
theorem ShL.keep {w w' : World} {B : Nat} {v : Value} {l : List Sh} (h : ShL w B v l) (hz : w.heap.size ≤ w'.heap.size) (hk : ∀ b, B ≤ b → b < w.heap.size → w'.heap[b]? = w.heap[b]?) : ShL w' B v l := by
  have hlt := fun g hg => h.own_lt (g := g) hg
  obtain ⟨cells, ho, hi⟩ := h
  refine ⟨cells, ownsRow_keep ho (fun b hb => hk b (hlt b hb).1 (hlt b hb).2), fun i hi2 => ?_⟩
  obtain ⟨e0, e1, e2, e3⟩ := hi i hi2
  exact ⟨e0, e1, e2, e3.keep (fun b hb => ⟨hk b hb.1 hb.2.1, hb.1, by have := hb.2.1; omega, hb.2.2⟩)⟩
theorem ShL.past {rb : Nat} {w w' : World} {B : Nat} {v : Value} {l : List Sh} (h : ShL w B v l) (hp : Past rb w w') (hr : rb < B) : ShL w' B v l :=
  h.keep hp.size (fun b h1 h2 => hp.block b h2 (by omega))
theorem cell_of_row (w : World) (g j : Nat) (cur : Array Value) (ty : TypeId) (fr : Nat × Nat) (h : w.heap[g]? = some (.cells cur ty fr)) : w.cell? ⟨g, j, none⟩ = cur[j]? := by simp [World.cell?, h]
/-- As records in a row. -/
theorem ShL.shs {w : World} {B : Nat} {v : Value} {l : List Sh} (h : ShL w B v l) : ∃ a cap, v = .slice a l.length cap ∧ l.length ≤ cap ∧ l.length ≤ maxLen ∧ Shs w w.heap.size a l := by
  obtain ⟨cells, ho, hi⟩ := h
  rcases ho.2 with ⟨rfl, h0⟩ | ⟨g, cap, cur, rfl, hb, hc, hn, hm, hcs, hcut⟩
  · have : l = [] := List.length_eq_zero_iff.1 h0
    subst this
    exact ⟨none, 0, rfl, Nat.le_refl _, Nat.zero_le _, fun i h => absurd h (by simp)⟩
  · refine ⟨_, cap, rfl, hn, by omega, fun i hlt => ?_⟩
    obtain ⟨e0, e1, e2, e3⟩ := hi i hlt
    have hg : g < w.heap.size := by
      rcases Nat.lt_or_ge g w.heap.size with h' | h'
      · exact h'
      · rw [Array.getElem?_eq_none h'] at hc; cases hc
    have hat : ∀ j u, j < l.length * 2 → cells[j]? = some u → w.cell? ⟨g, j, none⟩ = some u := fun j u hj hu => by
      rw [cell_of_row w g j cur _ (0, 0) hc, ← hu, ← hcut, List.getElem?_take_of_lt hj]
      simp
    exact ⟨g, 0, rfl, hg, by rw [Nat.zero_add]; exact hat _ _ (by omega) e0, by rw [Nat.zero_add]; exact hat _ _ (by omega) e1, e2.1, e2.2.1, e2.2.2, e3.keep (fun b hb => ⟨rfl, hb.2.1⟩)⟩
/-- One more behind all. -/
theorem ShL.append {w w' : World} {B : Nat} {v : Value} {l : List Sh} {cells : List Value} {s : Sh} {N g cap H : Nat}
    (hi : ∀ i (h : i < l.length), cells[i * 2]? = some (.string l[i].name) ∧ cells[i * 2 + 1]? = some (.slice l[i].adr l[i].fs.length l[i].cap) ∧ l[i].ok ∧ StrsS w (Own w B v) l[i].adr l[i].fs)
    (hlen : cells.length = l.length * 2) (hok : s.ok) (hD : StrsS w (fun b => N ≤ b ∧ b < w.heap.size) s.adr s.fs) (hN : B ≤ N) (hv : ∀ k, v.ownBlock = some k → k < N)
    (ho : w'.ownsRow B 65 2 (.slice (some ⟨g, 0, none⟩) (l.length + 1) cap) (l.length + 1) (cells ++ [.string s.name, .slice s.adr s.fs.length s.cap])) (hg : w.grownBy w' v.ownBlock) (hat : v.ownBlock = some g ∨ g = H) (hH : w.heap.size = H) :
    ShL w' B (.slice (some ⟨g, 0, none⟩) (l.length + 1) cap) (l ++ [s]) := by
  have hsz := hg.size
  refine ⟨_, by rw [List.length_append]; exact ho, fun i h => ?_⟩
  have hk : ∀ b, b < w.heap.size → ¬ v.ownBlock = some b → w'.heap[b]? = w.heap[b]? := fun b h1 h2 => hg.block b h1 (fun e => h2 e.symm)
  by_cases hlt : i < l.length
  · rw [List.getElem_append_left hlt]
    obtain ⟨e0, e1, e2, e3⟩ := hi i hlt
    refine ⟨by rw [List.getElem?_append_left (by omega)]; exact e0, by rw [List.getElem?_append_left (by omega)]; exact e1, e2, e3.keep (fun b hb => ⟨hk b hb.2.1 hb.2.2, hb.1, by have := hb.2.1; omega, ?_⟩)⟩
    simp only [Value.ownBlock]
    intro e
    injection e with e
    rcases hat with h | h
    · exact hb.2.2 (by rw [h, e])
    · have := hb.2.1; omega
  · have hil : i = l.length := by simp at h; omega
    subst hil
    rw [List.getElem_append_right (Nat.le_refl _)]
    simp only [Nat.sub_self, List.getElem_cons_zero]
    refine ⟨by rw [List.getElem?_append_right (by omega), hlen]; simp, by rw [List.getElem?_append_right (by omega), hlen, show l.length * 2 + 1 - l.length * 2 = 1 from by omega]; rfl, hok, hD.keep (fun b hb => ⟨hk b hb.2 (fun e => by have := hv b e; omega), by omega, by have := hb.2; omega, ?_⟩)⟩
    simp only [Value.ownBlock]
    intro e
    injection e with e
    rcases hat with h | h
    · have := hv _ h; omega
    · have := hb.2; omega
/-- One takes another's place. -/
theorem ShL.set {w : World} {B : Nat} {v : Value} {l : List Sh} {s : Sh} {N k g len cap : Nat} (h : ShL w B v l) (hv : v = .slice (some ⟨g, 0, none⟩) len cap) (hk : k < l.length) (hok : s.ok) (hD : StrsS w (fun b => N ≤ b ∧ b < w.heap.size) s.adr s.fs) (_hN : B ≤ N) (hgN : g < N) :
    ShL ((w.setCell ⟨g, k * 2, none⟩ (.string s.name)).setCell ⟨g, k * 2 + 1, none⟩ (.slice s.adr s.fs.length s.cap)) B v (l.set k s) := by
  obtain ⟨cells, ho, hi⟩ := h
  have hoth : ∀ b, ¬ b = g → ((w.setCell ⟨g, k * 2, none⟩ (.string s.name)).setCell ⟨g, k * 2 + 1, none⟩ (.slice s.adr s.fs.length s.cap)).heap[b]? = w.heap[b]? := fun b hb => by
    rw [Below.heap_setCell _ _ _ _ hb, Below.heap_setCell _ _ _ _ hb]
  have hsz : ((w.setCell ⟨g, k * 2, none⟩ (.string s.name)).setCell ⟨g, k * 2 + 1, none⟩ (.slice s.adr s.fs.length s.cap)).heap.size = w.heap.size := by simp
  have hvo : v.ownBlock = some g := by rw [hv]; rfl
  rcases ho.2 with ⟨hv', _⟩ | ⟨g', cap', cur, hv', hb, hc, hn, hm, hcs, hcut⟩
  · rw [hv] at hv'; cases hv'
  · have hg' : g' = g := by rw [hv] at hv'; injection hv' with e; injection e with e; injection e with e; exact e.symm
    subst hg'
    have hlen := ho.1
    refine ⟨(cells.set (k * 2) (.string s.name)).set (k * 2 + 1) (.slice s.adr s.fs.length s.cap), ⟨by simpa using hlen, Or.inr ⟨g', cap', _, by rw [List.length_set]; exact hv', hb, Joins.block_setCell (Joins.block_setCell hc _) _, by rw [List.length_set]; exact hn, hm, by simpa using hcs, ?_⟩⟩, fun i hi2 => ?_⟩
    · rw [List.length_set, ← hcut]
      simp [List.take_set]
    · rw [List.length_set] at hi2
      obtain ⟨e0, e1, e2, e3⟩ := hi i hi2
      by_cases hik : i = k
      · subst hik
        rw [List.getElem_set_self]
        refine ⟨by rw [List.getElem?_set_ne (by omega), List.getElem?_set_self (by omega)], by rw [List.getElem?_set_self (by simp; omega)], hok, hD.keep (fun b hb => ⟨hoth b (by omega), by omega, by rw [hsz]; exact hb.2, ?_⟩)⟩
        rw [hvo]; intro e; injection e with e; omega
      · rw [List.getElem_set_ne (Ne.symm hik)]
        refine ⟨by rw [List.getElem?_set_ne (by omega), List.getElem?_set_ne (by omega)]; exact e0, by rw [List.getElem?_set_ne (by omega), List.getElem?_set_ne (by omega)]; exact e1, e2, e3.keep (fun b hb => ⟨hoth b (fun e => hb.2.2 (by rw [hvo, e])), hb.1, by rw [hsz]; exact hb.2.1, hb.2.2⟩)⟩
end Go.Proofs.YtldmanfgmadbfaaGreatDoor.UU
namespace Go.Proofs.YtldmanfgmadbfaaGreatDoor.UU
set_option maxRecDepth 100000
open Go.RowKit Go.WideMaps Go.Maps
def pairOf (s : Sh) : ByteArray × List ByteArray := (s.name, s.fs)
def putP (r : List (ByteArray × List ByteArray)) (x : ByteArray × List ByteArray) : List (ByteArray × List ByteArray) :=
  if 0 ≤ Lib.idxOfS (r.map Prod.fst) x.1 then r.set (Lib.idxOfS (r.map Prod.fst) x.1).toNat x else r ++ [x]
def behindP (l : List (ByteArray × List ByteArray)) : List (ByteArray × List ByteArray) := l.foldl putP []
theorem behindP_snoc (l : List (ByteArray × List ByteArray)) (x : ByteArray × List ByteArray) : behindP (l ++ [x]) = putP (behindP l) x := by simp [behindP]
theorem behindP_take (L : List (ByteArray × List ByteArray)) (j : Nat) (h : j < L.length) : behindP (L.take (j + 1)) = putP (behindP (L.take j)) L[j] := by
  rw [List.take_succ_eq_append_getElem h, behindP_snoc]
theorem putP_len (r : List (ByteArray × List ByteArray)) (x : ByteArray × List ByteArray) : (putP r x).length ≤ r.length + 1 := by
  unfold putP; split <;> simp
theorem behindP_len (l : List (ByteArray × List ByteArray)) : (behindP l).length ≤ l.length := by
  have : ∀ (l r : List (ByteArray × List ByteArray)), (l.foldl putP r).length ≤ r.length + l.length := by
    intro l
    induction l with
    | nil => intro r; simp
    | cons x t ih => intro r; have h1 := ih (putP r x); have h2 := putP_len r x; simp only [List.foldl_cons, List.length_cons]; omega
  simpa [behindP] using this l []
theorem pairs_names (l : List Sh) : (l.map pairOf).map Prod.fst = namesOf l := by simp [namesOf, pairOf, List.map_map]
/-- The place of a name among all. -/
def posA (l : List Sh) (x : ByteArray) : Int := posI l l.length x
theorem posA_eq (l : List Sh) (x : ByteArray) : posA l x = Lib.idxOfS ((l.map pairOf).map Prod.fst) x := by
  unfold posA posI; rw [pairs_names, List.take_of_length_le (by simp [namesOf])]
theorem put_set (l : List Sh) (s : Sh) (k : Nat) (hp : posA l s.name = k) : (l.set k s).map pairOf = putP (l.map pairOf) (pairOf s) := by
  unfold putP
  have e : Lib.idxOfS ((l.map pairOf).map Prod.fst) (pairOf s).1 = k := by rw [← hp, posA_eq]; rfl
  rw [e, if_pos (by omega), Int.toNat_natCast, List.map_set]
theorem put_new (l : List Sh) (s : Sh) (hp : posA l s.name = -1) : (l ++ [s]).map pairOf = putP (l.map pairOf) (pairOf s) := by
  unfold putP
  have e : Lib.idxOfS ((l.map pairOf).map Prod.fst) (pairOf s).1 = -1 := by rw [← hp, posA_eq]; rfl
  rw [e, if_neg (by omega), List.map_append]; rfl
theorem posA_cases (l : List Sh) (x : ByteArray) : posA l x = -1 ∨ ∃ k : Nat, k < l.length ∧ posA l x = k := pos_cases l l.length x (Nat.le_refl _)
theorem posA_name (l : List Sh) (x : ByteArray) (k : Nat) (h : posA l x = k) : ∃ hk : k < l.length, l[k].name = x := by
  have hm : x ∈ (namesOf l) := by
    rw [← Lib.idxOfS_nonneg_iff]; rw [posA_eq, pairs_names] at h; omega
  have gen : ∀ (zs : List ByteArray) (i k : Nat), Lib.idxFromS zs x i = ((i + k : Nat) : Int) → ∃ hk : k < zs.length, zs[k] = x := by
    intro zs
    induction zs with
    | nil => intro i k h; simp [Lib.idxFromS] at h; omega
    | cons z t ih =>
      intro i k h
      unfold Lib.idxFromS at h
      by_cases hz : z = x
      · rw [if_pos hz] at h
        obtain rfl : k = 0 := by omega
        exact ⟨by simp, hz⟩
      · rw [if_neg hz] at h
        cases k with
        | zero =>
          exfalso
          have : ∀ (zs : List ByteArray) (i : Nat), Lib.idxFromS zs x i = -1 ∨ (i : Int) ≤ Lib.idxFromS zs x i := by
            intro zs
            induction zs with
            | nil => intro i; exact Or.inl rfl
            | cons y u ih2 =>
              intro i
              unfold Lib.idxFromS
              split
              · exact Or.inr (Int.le_refl _)
              · rcases ih2 (i + 1) with h | h
                · exact Or.inl h
                · exact Or.inr (by omega)
          rcases this t (i + 1) with h' | h' <;> omega
        | succ k =>
          obtain ⟨hk, e⟩ := ih (i + 1) k (by rw [h]; congr 1; omega)
          exact ⟨by simpa using hk, by simpa using e⟩
  rw [posA_eq, pairs_names] at h
  obtain ⟨hk, e⟩ := gen (namesOf l) 0 k (by simpa [Lib.idxOfS] using h)
  exact ⟨by simpa [namesOf] using hk, by rw [← e, namesOf_get]⟩
theorem names_set (l : List Sh) (s : Sh) (k : Nat) (hk : k < l.length) (he : l[k].name = s.name) : namesOf (l.set k s) = namesOf l := by
  unfold namesOf
  rw [List.map_set, ← he, ← List.getElem_map (f := Sh.name) (h := by simpa using hk), List.set_getElem_self]
theorem posA_set (l : List Sh) (s : Sh) (k : Nat) (hk : k < l.length) (he : l[k].name = s.name) (x : ByteArray) : posA (l.set k s) x = posA l x := by
  unfold posA posI; rw [names_set l s k hk he, List.length_set]
theorem posA_snoc (l : List Sh) (s : Sh) (hp : posA l s.name = -1) (x : ByteArray) : posA (l ++ [s]) x = if x = s.name then (l.length : Int) else posA l x := by
  have hno : ∀ y, posA l y = -1 → ¬ y ∈ namesOf l := fun y hy hm => by
    rw [← Lib.idxOfS_nonneg_iff] at hm; rw [posA_eq, pairs_names] at hy; omega
  have gen : ∀ (zs : List ByteArray) (n y : ByteArray) (i : Nat), ¬ n ∈ zs → Lib.idxFromS (zs ++ [n]) y i = if y = n then ((i + zs.length : Nat) : Int) else Lib.idxFromS zs y i := by
    intro zs n y
    induction zs with
    | nil => intro i _; simp [Lib.idxFromS, eq_comm]
    | cons z t ih =>
      intro i hm
      have hz : ¬ n = z := fun e => hm (by rw [e]; exact List.mem_cons_self ..)
      have ht : ¬ n ∈ t := fun e => hm (List.mem_cons_of_mem _ e)
      simp only [List.cons_append, Lib.idxFromS]
      rw [ih (i + 1) ht]
      by_cases hy : y = n
      · subst hy
        rw [if_pos rfl, if_neg (fun e => hz e.symm), if_pos rfl]
        simp; omega
      · rw [if_neg hy, if_neg hy]
  rw [posA_eq, posA_eq, pairs_names, pairs_names]
  have e : namesOf (l ++ [s]) = namesOf l ++ [s.name] := by simp [namesOf]
  rw [e]
  unfold Lib.idxOfS
  rw [gen (namesOf l) s.name x 0 (hno _ hp)]
  simp [namesOf]
/-- The map tells each record's place. -/
structure Tells (D : DataW Unit) (l : List Sh) : Prop where
  map : IsMap D
  has : ∀ x : ByteArray, Maps.has D (.string x.data.toList) = decide (0 ≤ posA l x)
  at' : ∀ (x : ByteArray) (k : Nat), posA l x = k → D.atKey (.string x.data.toList) (.lit (.int .i64 0)) = .lit (.int .i64 k)
theorem Tells.nil : Tells (.map []) [] := ⟨isMap_empty, fun x => rfl, fun x k h => by
  have : posA [] x = -1 := rfl
  omega⟩
theorem Tells.set {D : DataW Unit} {l : List Sh} (h : Tells D l) (s : Sh) (k : Nat) (hk : k < l.length) (he : l[k].name = s.name) : Tells D (l.set k s) :=
  ⟨h.map, fun x => by rw [posA_set l s k hk he]; exact h.has x, fun x j hj => h.at' x j (by rw [posA_set l s k hk he] at hj; exact hj)⟩
theorem key_inj {x y : ByteArray} (h : Lit.string x.data.toList = Lit.string y.data.toList) : x = y := by
  injection h with h
  exact ByteArray.ext (Array.toList_inj.1 h)
theorem Tells.put {D : DataW Unit} {l : List Sh} (h : Tells D l) (s : Sh) (hp : posA l s.name = -1) : Tells (D.put (.string s.name.data.toList) (.lit (.int .i64 (l.length : Nat)))) (l ++ [s]) := by
  refine ⟨h.map.put _ _, fun x => ?_, fun x k hk => ?_⟩
  · rw [posA_snoc l s hp]
    by_cases hx : x = s.name
    · subst hx; rw [if_pos rfl, has_put_same h.map (by trivial)]; simp
    · rw [if_neg hx, has_put_other (fun e => hx (key_inj e))]; exact h.has x
  · rw [posA_snoc l s hp] at hk
    by_cases hx : x = s.name
    · subst hx; rw [if_pos rfl] at hk
      obtain rfl : k = l.length := by omega
      exact atKey_put_same (k := .string s.name.data.toList) h.map (by trivial) _ _
    · rw [if_neg hx] at hk
      rw [atKey_put_other (fun e => hx (key_inj e))]; exact h.at' x k hk
/-- Texts that a call has copied. -/
theorem strs_row {w : World} {B n : Nat} {v : Value} {ss : List ByteArray} (h : w.ownsRow B 9 1 v n (ss.map Value.string)) (hs : ∀ s ∈ ss, s.size ≤ maxLen) :
    ∃ a cap, v = .slice a n cap ∧ n = ss.length ∧ n ≤ cap ∧ n ≤ maxLen ∧ StrsS w (fun b => B ≤ b ∧ b < w.heap.size) a ss := by
  have hl : ss.length = n := by have := h.1; simpa using this
  rcases h.2 with ⟨rfl, h0⟩ | ⟨g, cap, cur, rfl, hb, hc, hn, hm, hcs, hcut⟩
  · have : ss = [] := List.length_eq_zero_iff.1 (by omega)
    subst this
    exact ⟨none, 0, by rw [h0], by simpa using h0, by omega, by omega, fun i h => absurd h (by simp)⟩
  · refine ⟨_, cap, rfl, hl.symm, hn, by omega, fun i hi => ⟨hs _ (List.getElem_mem hi), g, 0, rfl, ⟨hb, ?_⟩, ?_⟩⟩
    · rcases Nat.lt_or_ge g w.heap.size with h' | h'
      · exact h'
      · rw [Array.getElem?_eq_none h'] at hc; cases hc
    · rw [cell_of_row w g (0 + i) cur _ (0, 0) hc, Nat.zero_add]
      have e : (cur.toList.take (n * 1))[i]? = some (.string ss[i]) := by rw [hcut, List.getElem?_map, List.getElem?_eq_getElem hi]; rfl
      rw [List.getElem?_take_of_lt (by omega)] at e
      simpa using e
theorem Strs.sizes {w : World} {B : Nat} {a : Option Addr} {ss : List ByteArray} (h : Strs w B a ss) : ∀ s ∈ ss, s.size ≤ maxLen := by
  intro s hs
  obtain ⟨i, hi, rfl⟩ := List.getElem_of_mem hs
  exact (h i hi).1
theorem clone_any (B : Nat) (a : Option Addr) (ss : List ByteArray) (n cap : Nat) (w : World) (hS : Strs w B a ss) (hn : n = ss.length) (hb : n * 16 ≤ 140737488355328) :
    Calls Tryz.prog 42 #[.slice a n cap] w fun e w' => ∃ a' cap', e = .returned (.slice a' n cap') ∧ n ≤ cap' ∧ n ≤ maxLen ∧ StrsS w' (fun b => w.heap.size ≤ b ∧ b < w'.heap.size) a' ss ∧ Below w.heap.size w w' := by
  subst hn
  cases a with
  | none =>
    have h0 : ss = [] := by
      cases ss with
      | nil => rfl
      | cons s t => obtain ⟨_, b, o, h, _⟩ := hS 0 (by simp); cases h
    subst h0
    refine (Tryz.slices_Clone_string_nil 0 cap w).mono ?_
    rintro e w' ⟨rfl, rfl⟩
    exact ⟨none, 0, rfl, Nat.le_refl _, Nat.zero_le _, fun i h => absurd h (by simp), Below.refl _ _⟩
  | some ad =>
    cases ss with
    | nil =>
      refine (Tryz.slices_Clone_string_zero ad cap w).mono ?_
      rintro e w' ⟨v', rfl, ho, _, hb⟩
      obtain ⟨a', cap', rfl, h1, h2, h3, h4⟩ := strs_row (ss := []) ho (by simp)
      exact ⟨a', cap', rfl, h2, h3, h4, hb⟩
    | cons s t =>
      obtain ⟨_, b, o, hab, _⟩ := hS 0 (by simp)
      injection hab with hab
      subst hab
      refine (Tryz.slices_Clone_string b o (s :: t).length cap (s :: t) w (Nat.le_refl _) hb hS.cells).mono ?_
      rintro e w' ⟨v', rfl, ho, _, hb⟩
      rw [List.take_length] at ho
      obtain ⟨a', cap', rfl, h1, h2, h3, h4⟩ := strs_row ho hS.sizes
      exact ⟨a', cap', rfl, h2, h3, h4, hb⟩
end Go.Proofs.YtldmanfgmadbfaaGreatDoor.UU
namespace Go.Proofs.YtldmanfgmadbfaaGreatDoor.UU
set_option maxRecDepth 100000
open Go.RowKit Go.WideMaps Go.Maps
set_option maxHeartbeats 1000000 in
theorem sameTexts_any (w : World) (B B' : Nat) (a b : Option Addr) (ss : List ByteArray) (n c c' : Nat) (hn : n = ss.length) (hm : n ≤ 9223372036854775807) (hA : Strs w B a ss) (hB : Strs w B' b ss) :
    Calls Tryz.prog 9 #[.slice a n c, .slice b n c'] w fun e w' => e = .returned (.bool true) ∧ ∃ m, w' = w.drewN m := by
  have HN := hid hn
  clear hn
  go_enter Tryz.func9, Tryz.ntmps9
  go_wp2
  go_loopw [5] (fun i wr => ∃ k : Nat, k ≤ n ∧ i = .int .i64 k ∧ ∃ m, wr = w.drewN m) (fun i _ => n - (intOf i).toNat)
  case atStart => exact ⟨0, Nat.zero_le _, rfl, 0, rfl⟩
  case round =>
    obtain ⟨k, hk, rfl, m, rfl⟩ := hrel
    by_cases hlt : k < n
    · have hk2 : k < ss.length := by rw [← HN.out]; exact hlt
      have hlt2 : (k : Int) < n := by omega
      obtain ⟨_, b1, o1, rfl, _, h1⟩ := hA k hk2
      obtain ⟨_, b2, o2, rfl, _, h2⟩ := hB k hk2
      generalize ss[k]'hk2 = y at h1 h2
      go_wp2_with fail
      go_quiet (fail)
      go_wp2
      go_roundw
      case rel => exact ⟨k + 1, by omega, by go_num, _, rfl⟩
      case measure => simp [intOf]; omega
    · go_wp2
      go_ret
      exact ⟨rfl, _, rfl⟩
theorem info_string : (Tryz.prog.info? 9).map (fun i => (i.zero, i.size, i.bytes)) = some (some (.string ⟨#[]⟩), 1, 16) := by kernel_rfl
set_option maxHeartbeats 1000000 in
theorem texts_any (B : Nat) (a : Option Addr) (ss : List ByteArray) (n cap g : Nat) (w : World) (hS : Strs w B a ss) (hB : B ≤ w.heap.size) (hn : n = ss.length) (hb : n * 16 ≤ 140737488355328) (hg : g < w.heap.size) (hc : w.cell? ⟨g, 0, none⟩ = some (.slice a n cap)) :
    Calls Tryz.prog 22 #[.slice (some ⟨g, 0, none⟩) 1 1] w fun e w' => ∃ a' cap', e = .returned (.slice a' n cap') ∧ n ≤ cap' ∧ n ≤ maxLen ∧ StrsS w' (fun b => w.heap.size ≤ b ∧ b < w'.heap.size) a' ss ∧ Below w.heap.size w w' := by
  have HN := hid hn
  clear hn
  go_enter Tryz.func22, Tryz.ntmps22
  go_wp2
  obtain ⟨i0, hi, hz0, hz1, hz2⟩ := info_parts info_string
  have HI := hid hi
  have HZ0 := hid hz0
  have HZ1 := hid hz1
  have HZ2 := hid hz2
  clear hi hz0 hz1 hz2
  have hsz := hS.sizes
  go_loopw [3, 4] (fun o i wr => (i = .int .i64 0 ∧ o = .slice none 0 0 ∧ w = wr) ∨ (i = .int .i64 1 ∧ wr.ownsRow w.heap.size 9 1 o n (ss.map Value.string) ∧ Below w.heap.size w wr)) (fun _ i _ => 1 - (intOf i).toNat)
  case atStart => exact Or.inl ⟨rfl, rfl, rfl⟩
  case round =>
    rcases hrel with ⟨rfl, rfl, rfl⟩ | ⟨rfl, hrow, hbr⟩
    · go_wp2
      go_loopw [3, 5] (fun o i wr => ∃ k : Nat, k ≤ n ∧ i = .int .i64 k ∧ wr.ownsRow w.heap.size 9 1 o k ((ss.take k).map Value.string) ∧ Below w.heap.size w wr) (fun _ i _ => n - (intOf i).toNat)
      case atStart => exact ⟨0, Nat.zero_le _, rfl, ⟨rfl, Or.inl ⟨rfl, rfl⟩⟩, Below.refl _ _⟩
      case round =>
        obtain ⟨k, hk, rfl, hrow, hbr⟩ := hrel
        have hz := hbr.size
        have hcg := (hbr.cell (p := ⟨g, 0, none⟩) hg).trans hc
        by_cases hlt : k < n
        · have hk2 : k < ss.length := by rw [← HN.out]; exact hlt
          obtain ⟨hys, b, o, rfl, hbB, hcs⟩ := (hS.below (hbr.mono hB)) k hk2
          have HT : Hid ((ss.take (k + 1)).map Value.string = (ss.take k).map Value.string ++ [.string ss[k]]) := hid (by rw [List.take_succ_eq_append_getElem hk2, List.map_append]; rfl)
          generalize ss[k]'hk2 = y at hcs HT
          have hrow2 := hid (ownsRow_keep (w' := wr.alloc (.cells #[.string y] 9)) hrow (fun b hb => ((Below.refl wr.heap.size wr).alloc (Nat.le_refl _) _).block b (ownsRow_lt hrow hb).2))
          have hgl : g < wr.heap.size := by omega
          have hbl : b < wr.heap.size := by omega
          go_wp2_with (at_builtin; refine wpList_append_lies _ rfl _ _ 33 rfl w.heap.size 9 i0 (.string ⟨#[]⟩) 1 16 Tryz.underlying33 HI.out HZ0.out HZ1.out HZ2.out rfl (by decide) _ k _ rfl hrow2.out ⟨wr.heap.size, 0, none⟩ 1 1 [.string y] rfl rfl (cell_one_new _ _ _) (by simp [Value.oneCell']) (by decide) (by unfold maxLen; omega) (by omega) (by simp; omega) _ rfl ?_; intro g3 cap3 w3 hown3 hgrow3 hat3 hlt3)
          go_wp2_with fail
          go_roundw
          case rel => exact ⟨k + 1, by omega, by go_num, by rw [HT.out]; exact hown3, (hbr.alloc hz _).grown hgrow3 (by simp; omega) (fun j hj => (ownsRow_lt hrow hj).1)⟩
          case measure => simp [intOf]; omega
        · obtain rfl : k = n := by omega
          have HT : Hid (ss.take k = ss) := hid (List.take_of_length_le (by rw [← HN.out]; exact Nat.le_refl _))
          rw [HT.out] at hrow
          go_wp2_with fail
          go_roundw
          case rel => exact Or.inr ⟨by go_num, hrow, hbr⟩
          case measure => simp [intOf]
    · obtain ⟨a', cap', rfl, h1, h2, h3, h4⟩ := strs_row hrow hsz
      go_wp2
      go_ret
      exact ⟨a', cap', rfl, h2, h3, h4, hbr⟩
set_option maxHeartbeats 1000000 in
theorem sameShapes_any (w : World) (B B' : Nat) (a b : Option Addr) (l l' : List Sh) (n c c' : Nat) (hn : n = l.length) (hn' : n = l'.length) (hm : n ≤ 9223372036854775807) (hp : l.map pairOf = l'.map pairOf) (hA : Shs w B a l) (hB : Shs w B' b l') :
    Calls Tryz.prog 10 #[.slice a n c, .slice b n c'] w fun e w' => e = .returned (.bool true) ∧ ∃ m, w' = w.drewN m := by
  have HN := hid hn
  have HN' := hid hn'
  clear hn hn'
  go_enter Tryz.func10, Tryz.ntmps10
  go_wp2
  go_loopw [5] (fun i wr => ∃ k : Nat, k ≤ n ∧ i = .int .i64 k ∧ ∃ m, wr = w.drewN m) (fun i _ => n - (intOf i).toNat)
  case atStart => exact ⟨0, Nat.zero_le _, rfl, 0, rfl⟩
  case round =>
    obtain ⟨k, hk, rfl, m, hwr⟩ := hrel
    have HW := hid hwr
    have hA' : Shs wr B a l := by rw [hwr]; exact hA.below (bdrew (Below.refl _ _) m)
    have hB' : Shs wr B' b l' := by rw [hwr]; exact hB.below (bdrew (Below.refl _ _) m)
    clear hwr
    by_cases hlt : k < n
    · have hk2 : k < l.length := by rw [← HN.out]; exact hlt
      have hk3 : k < l'.length := by rw [← HN'.out]; exact hlt
      have hlt2 : (k : Int) < n := by omega
      obtain ⟨b1, o1, rfl, _, h10, h11, _, h13, h14, h15⟩ := hA' k hk2
      obtain ⟨b2, o2, rfl, _, h20, h21, _, h23, h24, h25⟩ := hB' k hk3
      have e : pairOf l[k] = pairOf l'[k] := by
        have e1 : (l.map pairOf)[k]'(by simpa using hk2) = (l'.map pairOf)[k]'(by simpa using hk3) := by simp only [hp]
        simpa using e1
      unfold pairOf at e
      injection e with en ef
      rw [← en] at h20
      rw [← ef] at h21 h25
      generalize l[k].name = y at h10 h20
      generalize l[k].fs = f at h11 h21 h14 h15 h25
      generalize l[k].adr = a1 at h11 h15
      generalize l'[k].adr = a2 at h21 h25
      generalize l[k].cap = c1 at h11
      generalize l'[k].cap = c2 at h21
      have HC := hid (fun (w' : World) (x : Below B wr w') (x' : Below B' wr w') => sameTexts_any w' B B' a1 a2 f f.length c1 c2 rfl (by unfold maxLen at h14; omega) (h15.below x) (h25.below x'))
      generalize f.length = fl at h11 h21 HC
      clear h14 h15 h25
      go_wp2_with fail
      go_quiet (first | (go_at_call 9; exact Calls.quiet_of (HC.out _ (by first | exact bdrew (Below.refl _ _) _ | exact bdrew (bdrew (Below.refl _ _) _) _) (by first | exact bdrew (Below.refl _ _) _ | exact bdrew (bdrew (Below.refl _ _) _) _))))
      go_wp2
      go_roundw
      case rel => exact ⟨k + 1, by omega, by go_num, _, by rw [HW.out, World.drewN_drewN]⟩
      case measure => simp [intOf]; omega
    · go_wp2
      go_ret
      exact ⟨rfl, m, HW.out⟩
end Go.Proofs.YtldmanfgmadbfaaGreatDoor.UU
namespace Go.Proofs.YtldmanfgmadbfaaGreatDoor
set_option maxRecDepth 100000
open HH UU VV
open Go.RowKit Go.Maps Go.WideMaps
/-- A record's last version. -/
def lastS (r : Rc) : VV.Sh := r.vs.getD (r.vs.length - 1) shZ
def pairS (s : VV.Sh) : ByteArray × List ByteArray := (s.name, s.fs)
def envP (rs : List Rc) : List (ByteArray × List ByteArray) := rs.map fun r => pairS (lastS r)
theorem envP_len (rs : List Rc) : (envP rs).length = rs.length := by simp [envP]
theorem envP_take {rs : List Rc} {k : Nat} (h : k < rs.length) : (envP rs).take (k + 1) = (envP rs).take k ++ [pairS (lastS rs[k])] := by
  unfold envP
  rw [List.take_succ_eq_append_getElem (by simpa using h), List.getElem_map]
theorem lastS_mem {r : Rc} (h : 1 ≤ r.vs.length) : lastS r ∈ r.vs := by
  unfold lastS
  rw [List.getD_eq_getElem?_getD, List.getElem?_eq_getElem (by omega : r.vs.length - 1 < r.vs.length)]
  exact List.getElem_mem _
/-! A world that has grown, and has written to one block alone. -/
theorem gb_refl (w : World) (r : Option Nat) : w.grownBy w r := ⟨rfl, rfl, rfl, Nat.le_refl _, fun _ _ _ => rfl⟩
theorem gb_trans {a b c : World} {r : Option Nat} (h : a.grownBy b r) (k : b.grownBy c r) : a.grownBy c r :=
  ⟨k.os.trans h.os, k.tape.trans h.tape, k.output.trans h.output, Nat.le_trans h.size k.size, fun i hi hn => (k.block i (Nat.lt_of_lt_of_le hi h.size) hn).trans (h.block i hi hn)⟩
theorem gb_below {a b : World} {r : Option Nat} (h : Below a.heap.size a b) : a.grownBy b r := ⟨h.os, h.tape, h.output, h.size, fun i hi _ => h.block i hi⟩
theorem strsS_gb {w w' : World} {r : Option Nat} {N : Nat} {a : Option Addr} {ss : List ByteArray} (h : StrsS w (fun b => N ≤ b ∧ b < w.heap.size) a ss) (hg : w.grownBy w' r) (hr : ∀ g, r = some g → g < N) : StrsS w' (fun b => N ≤ b ∧ b < w'.heap.size) a ss :=
  h.keep fun b hb => ⟨hg.block b hb.2 (fun e => by have := hr b e.symm; omega), hb.1, Nat.lt_of_lt_of_le hb.2 hg.size⟩
set_option maxHeartbeats 1000000 in
theorem lastOf_any (nm : ByteArray) (va ma : Option Addr) (vcap ml mcap : Nat) (vs : List VV.Sh) (w : World) (hV : Cs w (fun b => b < w.heap.size) va (flatC shC vs)) (h1 : 1 ≤ vs.length) (h2 : vs.length ≤ 1000) :
    Calls Tryz.prog 21 #[.agg #[.string nm, .slice va vs.length vcap, .slice ma ml mcap]] w fun e w' => e = .returned (.agg #[.string (vs.getD (vs.length - 1) shZ).name, .slice (vs.getD (vs.length - 1) shZ).adr (vs.getD (vs.length - 1) shZ).fs.length (vs.getD (vs.length - 1) shZ).cap]) ∧ Below w.heap.size w w' := by
  obtain ⟨m, hm⟩ : ∃ m, vs.length = m + 1 := ⟨vs.length - 1, by omega⟩
  have hlt : m < vs.length := by omega
  have hgd : vs.getD (vs.length - 1) shZ = vs[m]'hlt := by rw [List.getD_eq_getElem?_getD, hm, Nat.add_sub_cancel, List.getElem?_eq_getElem hlt]; rfl
  rw [hgd]
  obtain ⟨b, o, rfl, hb, t0, t1⟩ := sh_at hV hlt
  have hb : b < w.heap.size := hb
  generalize (vs[m]'hlt) = s at t0 t1
  obtain ⟨sn, sa, sc, sf⟩ := s
  dsimp only at t0 t1
  obtain ⟨n, hn⟩ : ∃ n, n = vs.length := ⟨_, rfl⟩
  rw [← hn]
  have hw1 : IntKind.i64.wrap ((n : Int) - 1) = (m : Int) := by rw [wrap_small (by omega) (by omega)]; omega
  have hmn : (m : Int) < n := by omega
  have hmn2 : m < n := by omega
  clear hV hgd hlt
  go_enter Tryz.func21, Tryz.ntmps21
  go_wp2
  refine bodyPost_ret (v := .agg #[.string sn, .slice sa sf.length sc]) (by simp [results, Tryz.results21, go_sem]) rfl ?_
  exact ⟨rfl, below_2 _ _ _⟩
set_option maxHeartbeats 1000000 in
theorem copied_any (nm : ByteArray) (a : Option Addr) (ss : List ByteArray) (n cap : Nat) (w : World) (hS : Strs w w.heap.size a ss) (hn : n = ss.length) (hb : n * 16 ≤ 140737488355328) :
    Calls Tryz.prog 20 #[.agg #[.string nm, .slice a n cap]] w fun e w' => ∃ a' cap', e = .returned (.agg #[.string nm, .slice a' n cap']) ∧ n ≤ cap' ∧ n ≤ maxLen ∧ StrsS w' (fun b => w.heap.size ≤ b ∧ b < w'.heap.size) a' ss ∧ Below w.heap.size w w' := by
  obtain ⟨w2, hw2⟩ : ∃ w2, w2 = (w.alloc (.cells #[.string nm, .slice a n cap] 65)).alloc (.cells #[.string ⟨#[]⟩, .slice none 0 0] 65) := ⟨_, rfl⟩
  have HB2 := hid (show Below w.heap.size w w2 by rw [hw2]; exact below_2 _ _ _)
  have hz2 : w2.heap.size = w.heap.size + 2 := by rw [hw2]; simp
  have kk : w2.cell? ⟨w.heap.size, 0, none⟩ = some (.string nm) ∧ w2.cell? ⟨w.heap.size, 1, none⟩ = some (.slice a n cap) ∧ w2.cell? ⟨w.heap.size + 1, 0, none⟩ = some (.string ⟨#[]⟩) ∧ w2.cell? ⟨w.heap.size + 1, 1, none⟩ = some (.slice none 0 0) ∧ w2.frozen? ⟨w.heap.size, 1, none⟩ = false ∧ w2.frozen? ⟨w.heap.size + 1, 0, none⟩ = false ∧ w2.frozen? ⟨w.heap.size + 1, 1, none⟩ = false := by
    rw [hw2]; refine ⟨?_, ?_, ?_, ?_, ?_, ?_, ?_⟩ <;> go_simp
  have KK := hid kk
  have hcall := clone_any w2.heap.size a ss n cap w2 ((hS.below HB2.out).mono HB2.out.size) hn hb
  have H2 := hid hw2
  clear hw2 kk hS hn
  go_enter Tryz.func20, Tryz.ntmps20
  go_wp2_with fail
  rw [← H2.out]
  go_fit hcall
  clear hcall
  rintro e w3 ⟨a', cap', rfl, h1, h2, h3, hb3⟩
  obtain ⟨c0, c1, r0, r1, f1, g0, g1⟩ := KK.out
  have c0 := (hb3.cell (p := ⟨w.heap.size, 0, none⟩) (by dsimp only; omega)).trans c0
  have c1 := (hb3.cell (p := ⟨w.heap.size, 1, none⟩) (by dsimp only; omega)).trans c1
  have r0 := (hb3.cell (p := ⟨w.heap.size + 1, 0, none⟩) (by dsimp only; omega)).trans r0
  have r1 := (hb3.cell (p := ⟨w.heap.size + 1, 1, none⟩) (by dsimp only; omega)).trans r1
  have f1 := (hb3.frozen (p := ⟨w.heap.size, 1, none⟩) (by dsimp only; omega)).trans f1
  have g0 := (hb3.frozen (p := ⟨w.heap.size + 1, 0, none⟩) (by dsimp only; omega)).trans g0
  have g1 := (hb3.frozen (p := ⟨w.heap.size + 1, 1, none⟩) (by dsimp only; omega)).trans g1
  obtain ⟨wz, hwz⟩ : ∃ wz, wz = ((w3.setCell ⟨w.heap.size, 1, none⟩ (.slice a' n cap')).setCell ⟨w.heap.size + 1, 0, none⟩ (.string nm)).setCell ⟨w.heap.size + 1, 1, none⟩ (.slice a' n cap') := ⟨_, rfl⟩
  have hz : ∀ b, w2.heap.size ≤ b → wz.heap[b]? = w3.heap[b]? := fun b hb => by
    rw [hwz, Below.heap_setCell _ _ _ _ (by dsimp only; omega), Below.heap_setCell _ _ _ _ (by dsimp only; omega), Below.heap_setCell _ _ _ _ (by dsimp only; omega)]
  have hzs : wz.heap.size = w3.heap.size := by rw [hwz]; simp
  have HB := hid (show Below w.heap.size w wz by
    rw [hwz]; exact (((HB2.out.trans (hb3.mono HB2.out.size)).setCell (p := ⟨w.heap.size, 1, none⟩) (by dsimp only; omega) _).setCell (p := ⟨w.heap.size + 1, 0, none⟩) (by dsimp only; omega) _).setCell (p := ⟨w.heap.size + 1, 1, none⟩) (by dsimp only; omega) _)
  have HS := hid (show StrsS wz (fun b => w.heap.size ≤ b ∧ b < wz.heap.size) a' ss from h3.keep fun b hb => ⟨hz b hb.1, by omega, by omega⟩)
  have HW := hid hwz
  have H1 := hid h1
  have H2' := hid h2
  clear hwz hz hzs h1 h2 h3 hb3
  go_wp2
  refine bodyPost_ret (v := .agg #[.string nm, .slice a' n cap']) (by simp [results, Tryz.results20, go_sem, r0, r1]) rfl ?_
  rw [← HW.out]
  exact ⟨a', cap', rfl, H1.out, H2'.out, HS.out, HB.out⟩
end Go.Proofs.YtldmanfgmadbfaaGreatDoor

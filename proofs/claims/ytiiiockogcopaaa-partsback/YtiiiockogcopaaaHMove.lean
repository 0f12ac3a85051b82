/- A record that is moved: heap's leave. -/
import Derived.Test.YtiiiockogcopaaaHOne
namespace Go.Proofs.Ytiiiockogcopaaa
set_option maxRecDepth 100000
open Go.RowKit Go.Maps
abbrev nilW : Wd := ⟨3, 0, ⟨#[]⟩⟩
def nilN (l : List Wd) (f : Nat) : Nat → List Wd
  | 0 => l
  | k + 1 => (nilN l f k).set (f + k) nilW
theorem nilN_length (l : List Wd) (f : Nat) : ∀ k, (nilN l f k).length = l.length
  | 0 => rfl
  | k + 1 => by unfold nilN; rw [List.length_set, nilN_length l f k]
def headL (l : List Wd) (h : Nat) (b : Int) : List Wd := (l.set h ⟨10, b, ⟨#[]⟩⟩).set (h + 1) ⟨1, 0, ⟨#[]⟩⟩
/-- Words with a thing that was left for another one. -/
def leaveL (l : List Wd) (h f e : Nat) (b : Int) : List Wd := nilN (headL l h b) f (e - f)
theorem headL_length (l : List Wd) (h : Nat) (b : Int) : (headL l h b).length = l.length := by simp [headL]
theorem leaveL_length (l : List Wd) (h f e : Nat) (b : Int) : (leaveL l h f e b).length = l.length := by unfold leaveL; rw [nilN_length, headL_length]
theorem wfL_set {l : List Wd} {i : Nat} {x : Wd} (h : wfL l) (hx : wfI x.n ∧ x.s.size ≤ 9223372036854775807) : wfL (l.set i x) := by
  intro j hj
  by_cases e : i = j
  · subst e; rw [List.getElem_set_self]; exact hx
  · rw [List.getElem_set_ne e]; exact h j (by simpa using hj)
theorem wfL_nil {l : List Wd} (f : Nat) (h : wfL l) : ∀ k, wfL (nilN l f k)
  | 0 => h
  | k + 1 => wfL_set (wfL_nil f h k) ⟨by decide, by decide⟩
theorem wfL_leave {l : List Wd} {h f e : Nat} {b : Int} (hl : wfL l) (hb : wfI b) : wfL (leaveL l h f e b) :=
  wfL_nil f (wfL_set (wfL_set hl ⟨hb, Nat.zero_le _⟩) ⟨by decide, by decide⟩) _
/-- Only one block has turned. -/
structure Wr (w w' : World) (bb : Nat) : Prop where
  bel : Below bb w w'
  oth : ∀ k, k < w.heap.size → ¬ k = bb → w'.heap[k]? = w.heap[k]?
theorem Wr.trans {a b c : World} {bb : Nat} (h : Wr a b bb) (k : Wr b c bb) : Wr a c bb :=
  ⟨h.bel.trans k.bel, fun i hi hn => (k.oth i (Nat.lt_of_lt_of_le hi h.bel.size) hn).trans (h.oth i hi hn)⟩
theorem Wr.of {w w' : World} {bb : Nat} (hb : Below w.heap.size w w') (h : bb ≤ w.heap.size) : Wr w w' bb := ⟨hb.mono h, fun k hk _ => hb.block k hk⟩
theorem Wr.cell {w w' : World} {bb g c : Nat} (h : Wr w w' bb) (hg : g < w.heap.size) (hn : ¬ g = bb) : w'.cell? ⟨g, c, none⟩ = w.cell? ⟨g, c, none⟩ := World.cell?_of_block (w := w) (h.oth g hg hn)
structure Wn (w W : World) (bb o : Nat) (l : List Wd) : Prop where
  wds : Wds W W.heap.size (some ⟨bb, o, none⟩) l
  free : Free W (some ⟨bb, o, none⟩) l
  wr : Wr w W bb
theorem Wn.put {w w' : World} {bb o : Nat} {l : List Wd} (h : Wn w w' bb o l) {q : Nat} (hq : q < l.length) (x : Wd) (W : World) (hW : W = set3 w' bb (o + q * 3) (.int .i64 x.k) (.int .i64 x.n) (.string x.s)) :
    Wn w W bb o (l.set q x) ∧ W.heap.size = w'.heap.size ∧ (∀ g c, ¬ g = bb → W.cell? ⟨g, c, none⟩ = w'.cell? ⟨g, c, none⟩) := by
  subst hW
  have hsz : (set3 w' bb (o + q * 3) (.int .i64 x.k) (.int .i64 x.n) (.string x.s)).heap.size = w'.heap.size := by simp
  have hoth : ∀ g, ¬ g = bb → (set3 w' bb (o + q * 3) (.int .i64 x.k) (.int .i64 x.n) (.string x.s)).heap[g]? = w'.heap[g]? := fun g hg => by
    rw [Below.heap_setCell _ _ _ _ (by dsimp only; omega), Below.heap_setCell _ _ _ _ (by dsimp only; omega), Below.heap_setCell _ _ _ _ (by dsimp only; omega)]
  refine ⟨⟨?_, ?_, ?_⟩, hsz, fun g c hg => World.cell?_of_block (w := w') (hoth g hg)⟩
  · rw [hsz]; exact h.wds.put hq x
  · intro A hA j hj
    rw [List.length_set] at hj
    simpa using h.free A hA j hj
  · exact ⟨((h.wr.bel.setCell (p := ⟨bb, _, none⟩) (Nat.le_refl _) _).setCell (p := ⟨bb, _, none⟩) (Nat.le_refl _) _).setCell (p := ⟨bb, _, none⟩) (Nat.le_refl _) _, fun k hk hn => (hoth k hn).trans (h.wr.oth k hk hn)⟩
theorem Wn.at {w W : World} {bb o : Nat} {l : List Wd} (h : Wn w W bb o l) {q : Nat} (hq : q < l.length) :
    (∃ u0 u1 u2, W.cell? ⟨bb, o + q * 3, none⟩ = some (.int .i64 u0) ∧ W.cell? ⟨bb, o + q * 3 + 1, none⟩ = some (.int .i64 u1) ∧ W.cell? ⟨bb, o + q * 3 + 2, none⟩ = some (.string u2)) ∧
    W.frozen? ⟨bb, o + q * 3, none⟩ = false ∧ W.frozen? ⟨bb, o + q * 3 + 1, none⟩ = false ∧ W.frozen? ⟨bb, o + q * 3 + 2, none⟩ = false := by
  obtain ⟨b', o', e, _, c0, c1, c2⟩ := h.wds q hq
  injection e with e; injection e with e1 e2; subst e1 e2
  exact ⟨⟨_, _, _, c0, c1, c2⟩, h.free _ rfl (q * 3) (by omega), h.free _ rfl (q * 3 + 1) (by omega), h.free _ rfl (q * 3 + 2) (by omega)⟩
set_option maxHeartbeats 2000000 in
theorem leave_any (w : World) (bb o len cap : Nat) (l : List Wd) (h f e : Nat) (b : Int) (hW : Wds w w.heap.size (some ⟨bb, o, none⟩) l) (hF : Free w (some ⟨bb, o, none⟩) l) (hlen : len = l.length) (hl : len ≤ 60000) (hhf : h + 1 < f) (hfe : f ≤ e) (hel : e ≤ len) :
    Calls Try.prog 39 #[.slice (some ⟨bb, o, none⟩) len cap, .agg #[.int .i64 h, .int .i64 f, .int .i64 e], .int .i64 b] w fun e' w' => e' = .returned (.tuple #[]) ∧ Wn w w' bb o (leaveL l h f e b) := by
  have HL := hid hlen
  have hq1 : h < l.length := by omega
  have hq2 : h + 1 < l.length := by omega
  clear hlen
  have hbb : bb < w.heap.size := hW.block_lt hq1 rfl
  obtain ⟨w1, hw1⟩ : ∃ w1, w1 = w.alloc (.cells #[.int .i64 h, .int .i64 f, .int .i64 e] 75) := ⟨_, rfl⟩
  obtain ⟨⟨t0, t1, t2⟩, _, hz1, hb1⟩ := box3 w _ _ _ _ w1 hw1
  have N1 : Wn w w1 bb o l := ⟨(hW.below hb1).mono (show w.heap.size ≤ w1.heap.size by omega), hF.kept (fun A hA => hb1.block _ (by injection hA with hA; subst hA; exact hbb)), Wr.of hb1 (by omega)⟩
  obtain ⟨w2, hw2⟩ : ∃ w2, w2 = ((w1.setCell ⟨bb, o + h * 3, none⟩ (.int .i64 10)).setCell ⟨bb, o + h * 3 + 1, none⟩ (.int .i64 b)).setCell ⟨bb, o + h * 3 + 2, none⟩ (.string ⟨#[]⟩) := ⟨_, rfl⟩
  obtain ⟨N2, hz2, k2⟩ := N1.put hq1 ⟨10, b, ⟨#[]⟩⟩ w2 hw2
  obtain ⟨w3, hw3⟩ : ∃ w3, w3 = ((w2.setCell ⟨bb, o + (h + 1) * 3, none⟩ (.int .i64 1)).setCell ⟨bb, o + (h + 1) * 3 + 1, none⟩ (.int .i64 0)).setCell ⟨bb, o + (h + 1) * 3 + 2, none⟩ (.string ⟨#[]⟩) := ⟨_, rfl⟩
  obtain ⟨N3, hz3, k3⟩ := N2.put (q := h + 1) (by simpa using hq2) ⟨1, 0, ⟨#[]⟩⟩ w3 hw3
  obtain ⟨⟨u0, u1, u2, c0, c1, c2⟩, d0, d1, d2⟩ := N1.at hq1
  obtain ⟨⟨u3, u4, u5, c3, c4, c5⟩, d3, d4, d5⟩ := N2.at (q := h + 1) (by simpa using hq2)
  have hne : ¬ w.heap.size = bb := by omega
  have T0 := (k2 w.heap.size 0 hne).trans t0
  have T1 := (k3 w.heap.size 1 hne).trans ((k2 w.heap.size 1 hne).trans t1)
  have T2 := (k3 w.heap.size 2 hne).trans ((k2 w.heap.size 2 hne).trans t2)
  have H1 := hid hw1
  have H2 := hid hw2
  have H3 := hid hw3
  have HN3 := hid N3
  have hlt1 : (h : Int) < len := by omega
  have hlt2 : (h : Int) + 1 < len := by omega
  clear hw1 hw2 hw3 N1 N2 N3 k2 k3 hW hF hb1 hz1 hz2 hz3
  go_enter Try.func39, Try.ntmps39
  go_upto_region 1 with fail
  rw [← H1.out]
  go_upto_region 2 with fail
  rw [← H2.out]
  go_upto_region 3 with fail
  rw [← H3.out]
  clear c0 c1 c2 d0 d1 d2 c3 c4 c5 d3 d4 d5 t0 t1 t2 T0
  go_wp2_with fail
  go_loopw [6] (fun i wr => ∃ k : Nat, k ≤ e - f ∧ i = .int .i64 ((f + k : Nat) : Int) ∧ Wn w wr bb o (nilN (headL l h b) f k) ∧ wr.cell? ⟨w.heap.size, 2, none⟩ = some (.int .i64 e)) (fun i _ => e - (intOf i).toNat)
  case atStart => exact ⟨0, Nat.zero_le _, rfl, HN3.out, T2⟩
  case round =>
    obtain ⟨k, hk, rfl, hN, hT⟩ := hrel
    clear T1 T2
    have HN := hid hN
    by_cases hlt : f + k < e
    · have hq : f + k < (nilN (headL l h b) f k).length := by rw [nilN_length, headL_length, ← HL.out]; omega
      obtain ⟨⟨u0, u1, u2, c0, c1, c2⟩, d0, d1, d2⟩ := hN.at hq
      obtain ⟨w4, hw4⟩ : ∃ w4, w4 = ((wr.setCell ⟨bb, o + (f + k) * 3, none⟩ (.int .i64 3)).setCell ⟨bb, o + (f + k) * 3 + 1, none⟩ (.int .i64 0)).setCell ⟨bb, o + (f + k) * 3 + 2, none⟩ (.string ⟨#[]⟩) := ⟨_, rfl⟩
      obtain ⟨N4, hz4, k4⟩ := hN.put hq nilW w4 hw4
      have HN4 := hid N4
      have T4 := hid ((k4 w.heap.size 2 hne).trans hT)
      have H4 := hid hw4
      obtain ⟨m, hm⟩ : ∃ m, m = f + k := ⟨_, rfl⟩
      have HM := hid hm
      rw [← hm] at c0 c1 c2 d0 d1 d2 H4 hlt ⊢
      have hlt3 : (m : Int) < e := by omega
      have hlt4 : (m : Int) < len := by omega
      clear hN hw4 N4 k4 hm hq hz4
      go_wp2_with fail
      rw [← H4.out]
      go_roundw
      case rel => exact ⟨k + 1, by have := HM.out; omega, by have := HM.out; go_num, HN4.out, T4.out⟩
      case measure => simp [intOf]; omega
    · have hk2 : e - f = k := by omega
      have HN5 := hid (show Wn w wr bb o (leaveL l h f e b) by unfold leaveL; rw [hk2]; exact hN)
      have hlt3 : ¬ ((f + k : Nat) : Int) < e := by omega
      generalize f + k = m at *
      clear hN hk2 HN
      go_wp2_with fail
      go_end0
      exact ⟨rfl, HN5.out⟩
end Go.Proofs.Ytiiiockogcopaaa

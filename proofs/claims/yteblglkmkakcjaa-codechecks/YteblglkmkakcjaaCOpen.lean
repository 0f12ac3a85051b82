/- What came in, opened: an expression and what is in it. -/
import Derived.Test.YteblglkmkakcjaaCKids
import Derived.Test.YteblglkmkakcjaaUOpenEnv
namespace Go.Proofs.Yteblglkmkakcjaa
set_option maxRecDepth 100000
open Go.ChangeShapes Go.WideShapes Go.ChangeAt Go.RowKit
theorem cellsD : Try.prog.cellsOf 24 = 4 := by kernel_rfl
theorem cellsDs : Try.prog.cellsOf 22 = 1 := by kernel_rfl
theorem cellsI : Try.prog.cellsOf 3 = 1 := by kernel_rfl
theorem cellsX : Try.prog.cellsOf 28 = 9 := by kernel_rfl
theorem cellsXs : Try.prog.cellsOf 26 = 1 := by kernel_rfl
theorem bytesStr : Try.prog.bytesOf 9 = 16 := by kernel_rfl
set_option maxRecDepth 100000 in
/-- One datum of a row, opened. -/
theorem item_of {H : Type} {enc : TypeId × Value → H} {W : World} {a : Addr} {m len n : Nat} {D : Nat → DataW H} {Pl : Nat → List MemPlace} (hlm : len ≤ m)
    (hel : ∀ i, i < m → ∃ cs', W.cells? 0 (a.add (i * Try.prog.cellsOf 24)) (Try.prog.cellsOf 24) = some cs' ∧ DataW.trod enc Try.prog W 0 (fun _ => true) true n 24 cs' = some (D i, Pl i)) (i : Nat) (hi : i < len) :
    ∃ b o k' n' s' v' y' n2, a = ⟨b, o, none⟩ ∧ b < W.heap.size ∧ W.cell? ⟨b, o + i * 4, none⟩ = some (.int .i64 k') ∧ W.cell? ⟨b, o + i * 4 + 1, none⟩ = some (.int .i64 n') ∧ W.cell? ⟨b, o + i * 4 + 2, none⟩ = some (.string s') ∧ W.cell? ⟨b, o + i * 4 + 3, none⟩ = some v' ∧
      s'.size ≤ maxLen ∧ DataW.trod enc Try.prog W 0 (fun _ => true) true n2 22 [v'] = some y' := by
  obtain ⟨cs', h1, h2⟩ := hel i (by omega)
  rw [cellsD] at h1
  obtain ⟨_, hlen, hcell⟩ := World.cells?_some h1
  obtain ⟨y0, y1, y2, y3, n', hD, _, t0, t1, t2, t3⟩ := Joins.trod_struct4 Try.underlying24 h2
  match cs', hlen with
  | [u0, u1, u2, u3], _ =>
    simp [cellsI, cellsS, cellsDs] at t0 t1 t2 t3
    obtain ⟨kk, e0, _, _⟩ := DataW.trod_int Try.underlying3 t0
    obtain ⟨nn, e1, _, _⟩ := DataW.trod_int Try.underlying3 t1
    obtain ⟨ss, e2, e2', hss⟩ := DataW.trod_string Try.underlying9 t2
    simp at e0 e1 e2
    subst e0 e1 e2
    have c0 := hcell 0 (by omega)
    have c1 := hcell 1 (by omega)
    have c2 := hcell 2 (by omega)
    have c3 := hcell 3 (by omega)
    rw [Deep.add_add] at c0 c1 c2 c3
    obtain ⟨b, off, spot⟩ := a
    have hspot : spot = none := by
      obtain ⟨cs0, h10, _⟩ := hel 0 (by omega)
      rw [cellsD] at h10
      obtain ⟨_, hlen0, hcell0⟩ := World.cells?_some h10
      have q0 := hcell0 0 (by omega)
      match cs0, hlen0 with
      | [z0, z1, z2, z3], _ => simpa [Addr.add] using World.cell?_spot (by simpa [Addr.add] using q0)
    subst hspot
    rw [add_plain] at c0 c1 c2 c3
    exact ⟨b, off, kk, nn, ss, u3, y3, n', rfl, World.block_lt_of_cell? _ _ c0, by simpa using c0, by simpa [Nat.add_assoc] using c1, by simpa [Nat.add_assoc] using c2, by simpa [Nat.add_assoc] using c3, hss, t3⟩
set_option maxRecDepth 100000 in
theorem fine_of {H : Type} {enc : TypeId × Value → H} {W : World} (d : Nat) : ∀ (fuel : Nat) (s : ByteArray) (v : Value) (y : DataW H × List MemPlace), s.size ≤ 9223372036854775807 →
    DataW.trod enc Try.prog W 0 (fun _ => true) true fuel 22 [v] = some y → ∃ a len cap, v = .slice a len cap ∧ Fine W W.heap.size d s a len := by
  induction d with
  | zero =>
    intro fuel s v y hs h
    rcases Deep.open_slice Try.underlying22 h with ⟨hcs, _⟩ | ⟨a, len, cap, m, n, D, Pl, hcs, _, hl, hm, _⟩
    · exact ⟨none, 0, 0, by simpa using hcs, hs, by omega⟩
    · exact ⟨some a, len, cap, by simpa using hcs, hs, by unfold maxLen at hm; omega⟩
  | succ d ih =>
    intro fuel s v y hs h
    rcases Deep.open_slice Try.underlying22 h with ⟨hcs, _⟩ | ⟨a, len, cap, m, n, D, Pl, hcs, _, hl, hm, hmm, _, hel⟩
    · exact ⟨none, 0, 0, by simpa using hcs, hs, by omega, fun i hi => absurd hi (by omega)⟩
    · refine ⟨some a, len, cap, by simpa using hcs, hs, by unfold maxLen at hm; omega, fun i hi => ?_⟩
      simp at hmm
      obtain ⟨b, o, k', n', s', v', y', n2, rfl, hb, c0, c1, c2, c3, hss, t⟩ := item_of (by omega) hel i hi
      obtain ⟨a', len', cap', rfl, hF⟩ := ih n2 s' v' y' (by unfold maxLen at hss; omega) t
      exact ⟨b, o, k', n', s', a', len', cap', rfl, hb, c0, c1, c2, c3, hF⟩
/-- Nothing of it is beyond the reach. -/
def InR {H : Type} (P : Program) (t : TypeId) (d : DataW H) : Prop := ∀ n, n ∈ d.weights P t → n ≤ 140737488351232
theorem InR.field {H : Type} {P : Program} {t : TypeId} {fs : Array Field} {parts : List (DataW H)} (h : InR P t (.agg parts)) (ht : P.underlying t = some (.struct fs)) {j : Nat} {f : Field} {d : DataW H} (hf : fs[j]? = some f) (hd : parts[j]? = some d) : InR P f.type d := by
  intro n hn
  refine h n ?_
  simp only [DataW.weights, ht]
  exact DataW.weights_mem_each (by simp [hf]) hd n hn
theorem strs_ofR {H : Type} {enc : TypeId × Value → H} {W : World} {fuel : Nat} {v : Value} {y : DataW H × List MemPlace}
    (h : DataW.trod enc Try.prog W 0 (fun _ => true) true fuel 25 [v] = some y) (hw : InR Try.prog 25 y.1) :
    ∃ a cap ss, v = .slice a (List.length ss) cap ∧ ss.length ≤ cap ∧ Strs W W.heap.size a ss ∧ ss.length ≤ 1000000000000000 := by
  obtain ⟨a, cap, ss, rfl, h1, h2, h3⟩ := strs_of h
  refine ⟨a, cap, ss, rfl, h1, h3, ?_⟩
  rcases Deep.open_slice Try.underlying25 h with ⟨hcs, rfl⟩ | ⟨a', len, cap', m, n, D, Pl, hcs, _, hl, hm, hmm, rfl, hel⟩
  · have : ss.length = 0 := by simp at hcs; rw [hcs.2.1]; rfl
    omega
  · have e : ss.length = len := by simp at hcs; exact hcs.2.1
    have h1 := hw ((len + (m - len)) * 16) (by
      simp only [DataW.weights, Try.underlying25, List.mem_cons, bytesStr]
      exact Or.inl (by simp))
    omega
theorem FineX.up {W : World} {B : Nat} : ∀ (d : Nat) (t : Ex), FineX W B d t → FineX W B (d + 1) t
  | 0, _, h => absurd h (by simp [FineX])
  | d + 1, .mk x ks, h => ⟨h.1, fun i hi => by
      obtain ⟨b, o, h1, h2, h3, h4⟩ := h.2 i hi
      exact ⟨b, o, h1, h2, h3, FineX.up d _ h4⟩⟩
theorem FineX.le {W : World} {B : Nat} {d : Nat} {t : Ex} (h : FineX W B d t) : ∀ e, FineX W B (d + e) t
  | 0 => h
  | e + 1 => FineX.up _ _ (FineX.le h e)
theorem all_deep {W : World} {B : Nat} : ∀ l : List Ex, (∀ t ∈ l, ∃ d, FineX W B d t) → ∃ D, ∀ t ∈ l, FineX W B D t
  | [], _ => ⟨0, fun t ht => by cases ht⟩
  | x :: r, h => by
    obtain ⟨D, hD⟩ := all_deep r (fun t ht => h t (List.mem_cons_of_mem _ ht))
    obtain ⟨d, hd⟩ := h x (List.mem_cons_self ..)
    refine ⟨d + D, fun t ht => ?_⟩
    rcases List.mem_cons.1 ht with rfl | ht
    · exact hd.le D
    · rw [Nat.add_comm]; exact (hD t ht).le d
theorem trod_struct6 {H : Type} {enc : TypeId × Value → H} {P : Program} {w : World} {base : Nat} {spare : Nat → Bool} {held : Bool} {t : TypeId} {f0 f1 f2 f3 f4 f5 : Field} {fuel : Nat} {cs : List Value} {x : DataW H × List MemPlace} (ht : P.underlying t = some (.struct #[f0, f1, f2, f3, f4, f5])) (h : DataW.trod enc P w base spare held fuel t cs = some x) :
    ∃ y0 y1 y2 y3 y4 y5 n, x = (.agg [y0.1, y1.1, y2.1, y3.1, y4.1, y5.1], y0.2 ++ (y1.2 ++ (y2.2 ++ (y3.2 ++ (y4.2 ++ y5.2))))) ∧
      DataW.trod enc P w base spare held n f0.type ((cs.drop f0.offset).take (P.cellsOf f0.type)) = some y0 ∧ DataW.trod enc P w base spare held n f1.type ((cs.drop f1.offset).take (P.cellsOf f1.type)) = some y1 ∧
      DataW.trod enc P w base spare held n f2.type ((cs.drop f2.offset).take (P.cellsOf f2.type)) = some y2 ∧ DataW.trod enc P w base spare held n f3.type ((cs.drop f3.offset).take (P.cellsOf f3.type)) = some y3 ∧
      DataW.trod enc P w base spare held n f4.type ((cs.drop f4.offset).take (P.cellsOf f4.type)) = some y4 ∧ DataW.trod enc P w base spare held n f5.type ((cs.drop f5.offset).take (P.cellsOf f5.type)) = some y5 := by
  obtain ⟨xs, n, _, rfl, _, hlen, hf⟩ := DataW.trod_struct ht h
  match xs, hlen with
  | [y0, y1, y2, y3, y4, y5], _ => exact ⟨y0, y1, y2, y3, y4, y5, n, by simp, by simpa using hf 0 f0 rfl, by simpa using hf 1 f1 rfl, by simpa using hf 2 f2 rfl, by simpa using hf 3 f3 rfl, by simpa using hf 4 f4 rfl, by simpa using hf 5 f5 rfl⟩
abbrev xl (x : Xn) (m : Nat) : List Value := [.int .i64 x.k, .int .i64 x.dk, .int .i64 x.dn, .string x.ds, .slice x.da x.dl x.dc, .string x.s, .int .i64 x.n, .slice x.na x.ns.length x.nc, .slice x.aa m x.ac]
theorem weightsAll_mem {H : Type} {P : Program} {e : TypeId} : ∀ {l : List (DataW H)} {d : DataW H}, d ∈ l → ∀ n ∈ d.weights P e, n ∈ DataW.weightsAll P e l
  | d' :: r, d, hd, n, hn => by
    simp only [DataW.weightsAll, List.mem_append]
    rcases List.mem_cons.1 hd with rfl | h
    · exact Or.inl hn
    · exact Or.inr (weightsAll_mem h n hn)
theorem weights_el {H : Type} {P : Program} {t e : TypeId} (ht : P.underlying t = some (.slice e)) {l r : List (DataW H)} (hw : InR P t (.slice l r)) {d : DataW H} (hd : d ∈ l) : InR P e d := fun q hq => hw q (by
  simp only [DataW.weights, ht, List.mem_cons, List.mem_append]
  exact Or.inr (Or.inl (weightsAll_mem hd q hq)))
set_option maxRecDepth 100000 in
theorem node_of {H : Type} {enc : TypeId × Value → H} {W : World} (N : Nat) : ∀ (fuel : Nat) (cs : List Value) (z : DataW H × List MemPlace), DataW.trod enc Try.prog W 0 (fun _ => true) true fuel 28 cs = some z → cs.length = 9 → InR Try.prog 28 z.1 → SizeOf.sizeOf z.1 ≤ N →
    ∃ x ks d, cs = xl x (List.length ks) ∧ FineX W W.heap.size d (.mk x ks) := by
  induction N with
  | zero =>
    intro fuel cs z h hl hw hN
    obtain ⟨y0, y1, y2, y3, y4, y5, n, hz, _⟩ := trod_struct6 Try.underlying28 h
    rw [hz] at hN
    simp at hN
  | succ N ih =>
    intro fuel cs z h hl hw hN
    obtain ⟨y0, y1, y2, y3, y4, y5, n, hz, t0, t1, t2, t3, t4, t5⟩ := trod_struct6 Try.underlying28 h
    have hz1 : z.1 = .agg [y0.1, y1.1, y2.1, y3.1, y4.1, y5.1] := by rw [hz]
    rw [hz1] at hw hN
    have hw4 := hw.field Try.underlying28 (j := 4) rfl rfl
    have hw5 := hw.field Try.underlying28 (j := 5) rfl rfl
    match cs, hl with
    | [u0, u1, u2, u3, u4, u5, u6, u7, u8], _ =>
      simp [cellsI, cellsS, cellsD, cellsSs, cellsXs] at t0 t1 t2 t3 t4 t5
      obtain ⟨k, e0, _, _⟩ := DataW.trod_int Try.underlying3 t0
      obtain ⟨s, e5, _, hs⟩ := DataW.trod_string Try.underlying9 t2
      obtain ⟨nn, e6, _, _⟩ := DataW.trod_int Try.underlying3 t3
      obtain ⟨z0, z1, z2, z3, n', _, _, s0, s1, s2, s3⟩ := Joins.trod_struct4 Try.underlying24 t1
      simp [cellsI, cellsS, cellsDs] at s0 s1 s2 s3
      obtain ⟨dk, e1, _, _⟩ := DataW.trod_int Try.underlying3 s0
      obtain ⟨dn, e2, _, _⟩ := DataW.trod_int Try.underlying3 s1
      obtain ⟨ds, e3, _, hds⟩ := DataW.trod_string Try.underlying9 s2
      simp at e0 e1 e2 e3 e5 e6
      subst e0 e1 e2 e3 e5 e6
      obtain ⟨da, dl, dc, rfl, hF⟩ := fine_of 40 _ ds _ _ (by unfold maxLen at hds; omega) s3
      obtain ⟨na, nc, ns, rfl, q1, q2, q3⟩ := strs_ofR t4 hw4
      rcases Deep.open_slice Try.underlying26 t5 with ⟨hcs, _⟩ | ⟨a, len, cap, m, n2, D, Pl, hcs, _, hlc, hcm, hmm, hy5, hel⟩
      · simp at hcs
        subst hcs
        exact ⟨⟨k, dk, dn, ds, da, dl, dc, s, nn, na, ns, nc, none, 0⟩, [], 1, rfl, ⟨⟨hF, hs, q2, q3, q1, Nat.zero_le _, Nat.zero_le _⟩, fun i hi => absurd hi (by simp)⟩⟩
      · simp at hcs hmm
        subst hcs
        rw [cellsX] at hel
        have hone : ∀ i, i < len → ∃ t : Ex, (∃ d, FineX W W.heap.size d t) ∧ W.cells? 0 (a.add (i * 9)) 9 = some (xl t.x t.ks.length) := by
          intro i hi
          obtain ⟨cs', h1, h2⟩ := hel i (by omega)
          have hl' := (World.cells?_some h1).2.1
          have hmem : D i ∈ (List.range len).map D := List.mem_map.2 ⟨i, by simpa using hi, rfl⟩
          rw [hy5] at hw5 hN
          have hwi := weights_el Try.underlying26 hw5 hmem
          have hsz := List.sizeOf_lt_of_mem hmem
          obtain ⟨x, ks, d, hx, hd⟩ := ih n2 cs' _ h2 hl' hwi (by simp at hN ⊢; omega)
          exact ⟨.mk x ks, ⟨d, hd⟩, by rw [h1, hx]; rfl⟩
        obtain ⟨l, hll, hp⟩ := exists_list len hone
        obtain ⟨d, hd⟩ := all_deep (W := W) (B := W.heap.size) l (fun t ht => by
          obtain ⟨i, hi, rfl⟩ := List.getElem_of_mem ht
          exact (hp i hi).1)
        refine ⟨⟨k, dk, dn, ds, da, dl, dc, s, nn, na, ns, nc, some a, cap⟩, l, d + 1, by rw [hll], ⟨⟨hF, hs, q2, q3, q1, by omega, by dsimp only; omega⟩, fun i hi => ?_⟩⟩
        have h1 := (hp i hi).2
        obtain ⟨_, _, hcell⟩ := World.cells?_some h1
        obtain ⟨b, off, spot⟩ := a
        have hspot : spot = none := by
          obtain ⟨_, _, hc0⟩ := World.cells?_some (hp 0 (by omega)).2
          have q0 := hc0 0 (by omega)
          simpa [Addr.add] using World.cell?_spot (by simpa [Addr.add] using q0)
        subst hspot
        have c0 := hcell 0 (by omega)
        have c1 := hcell 1 (by omega)
        have c2 := hcell 2 (by omega)
        have c3 := hcell 3 (by omega)
        have c4 := hcell 4 (by omega)
        have c5 := hcell 5 (by omega)
        have c6 := hcell 6 (by omega)
        have c7 := hcell 7 (by omega)
        have c8 := hcell 8 (by omega)
        rw [Deep.add_add, add_plain] at c0 c1 c2 c3 c4 c5 c6 c7 c8
        refine ⟨b, off, rfl, World.block_lt_of_cell? _ _ c0, ⟨by simpa using c0, by simpa [Nat.add_assoc] using c1, by simpa [Nat.add_assoc] using c2, by simpa [Nat.add_assoc] using c3, by simpa [Nat.add_assoc] using c4, by simpa [Nat.add_assoc] using c5, by simpa [Nat.add_assoc] using c6, by simpa [Nat.add_assoc] using c7, by simpa [Nat.add_assoc] using c8⟩, hd _ (List.getElem_mem hi)⟩
end Go.Proofs.Yteblglkmkakcjaa

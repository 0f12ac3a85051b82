/- A world that came in, opened, with the row's own reach. -/
import Derived.Test.YtecjnlekckmhfaaVCopy
import Derived.ProofKit
import Derived.OpenShut
import Derived.ShutString
import Derived.ChangeOld
import Derived.Below
import Derived.SizedLaws
import Derived.Deep.Slices
import Derived.Deep.Strs
import Derived.Lib.SmallJoins
namespace Go.Proofs.Ytecjnlekckmhfaa
open Go.ChangeShapes Go.WideShapes Go.ChangeAt Go.RowKit
theorem exists_list {α : Type} {P : Nat → α → Prop} : ∀ n, (∀ i, i < n → ∃ x, P i x) → ∃ l : List α, l.length = n ∧ ∀ i (hi : i < l.length), P i l[i]
  | 0, _ => ⟨[], rfl, fun i hi => absurd hi (by simp)⟩
  | n + 1, h => by
    obtain ⟨l, hl, hp⟩ := exists_list n (fun i hi => h i (by omega))
    obtain ⟨x, hx⟩ := h n (by omega)
    refine ⟨l ++ [x], by simp [hl], fun i hi => ?_⟩
    by_cases hlt : i < l.length
    · rw [List.getElem_append_left hlt]; exact hp i hlt
    · have : i = l.length := by simp at hi; omega
      subst this
      rw [List.getElem_append_right (Nat.le_refl _)]
      simpa [hl] using hx
theorem weightsAll_mem {H : Type} {P : Program} {e : TypeId} : ∀ {l : List (DataW H)} {d : DataW H}, d ∈ l → ∀ n ∈ d.weights P e, n ∈ DataW.weightsAll P e l
  | d' :: r, d, hd, n, hn => by
    simp only [DataW.weightsAll, List.mem_append]
    rcases List.mem_cons.1 hd with rfl | h
    · exact Or.inl hn
    · exact Or.inr (weightsAll_mem h n hn)
/-- Nothing of it is beyond the reach. -/
def InR {H : Type} (P : Program) (t : TypeId) (d : DataW H) : Prop := ∀ n, n ∈ d.weights P t → n ≤ 140737488351232
theorem InR.field {H : Type} {P : Program} {t : TypeId} {fs : Array Field} {parts : List (DataW H)} (h : InR P t (.agg parts)) (ht : P.underlying t = some (.struct fs)) {j : Nat} {f : Field} {d : DataW H} (hf : fs[j]? = some f) (hd : parts[j]? = some d) : InR P f.type d := by
  intro n hn
  refine h n ?_
  simp only [DataW.weights, ht]
  exact DataW.weights_mem_each (by simp [hf]) hd n hn
theorem open_list {α H : Type} {enc : TypeId × Value → H} {P : Program} {W : World} {c : α → List Value} {Q : α → Prop} {t e : TypeId} {k y : Nat} (ht : P.underlying t = some (.slice e)) (hk : P.cellsOf e = k) (hk0 : 0 < k) (hc : ∀ x, (c x).length = k) (hby : P.bytesOf e = y)
    (hel : ∀ fuel cs' (z : DataW H × List MemPlace), DataW.trod enc P W 0 (fun _ => true) true fuel e cs' = some z → cs'.length = k → InR P e z.1 → ∃ x : α, cs' = c x ∧ Q x)
    {fuel : Nat} {v : Value} {z : DataW H × List MemPlace} (h : DataW.trod enc P W 0 (fun _ => true) true fuel t [v] = some z) (hw : InR P t z.1) :
    ∃ a cap l, v = .slice a (List.length l) cap ∧ l.length * y ≤ 140737488351232 ∧ Cs W (fun b => b < W.heap.size) a (flatC c l) ∧ ∀ x, x ∈ l → Q x := by
  rcases Deep.open_slice ht h with ⟨hcs, _⟩ | ⟨a, len, cap, m, n, D, Pl, hcs, _, hl, hm, hmm, rfl, helm⟩
  · exact ⟨none, 0, [], by simpa using hcs, by simp, Cs.nil _ _ _, fun x hx => by cases hx⟩
  · simp at hmm
    have hone : ∀ i, i < len → ∃ x : α, W.cells? 0 (a.add (i * k)) k = some (c x) ∧ Q x := by
      intro i hi
      obtain ⟨cs', h1, h2⟩ := helm i (by omega)
      rw [hk] at h1
      have hlen := (World.cells?_some h1).2.1
      obtain ⟨x, hx, hq⟩ := hel n cs' _ h2 hlen (fun q hq => hw q (by
        simp only [DataW.weights, ht, List.mem_cons, List.mem_append]
        exact Or.inr (Or.inl (weightsAll_mem (List.mem_map.2 ⟨i, by simpa using hi, rfl⟩) q hq))))
      exact ⟨x, by rw [h1, hx], hq⟩
    obtain ⟨l, hll, hp⟩ := exists_list len hone
    refine ⟨some a, cap, l, by rw [hll]; simpa using hcs, ?_, ?_, fun x hx => ?_⟩
    · have h1 := hw ((len + (m - len)) * y) (by
        simp only [DataW.weights, ht, List.mem_cons, hby]
        exact Or.inl (by simp))
      rw [hll]
      exact Nat.le_trans (Nat.mul_le_mul_right y (by omega)) h1
    · intro j u hj
      have hj2 : j < l.length * k := by rw [← flatC_length hc]; exact (List.getElem?_eq_some_iff.1 hj).1
      have hi : j / k < l.length := Nat.div_lt_of_lt_mul (by rw [Nat.mul_comm]; exact hj2)
      have hr : j % k < k := Nat.mod_lt _ hk0
      have hjk : j / k * k + j % k = j := by rw [Nat.mul_comm]; exact Nat.div_add_mod j k
      have e1 := flatC_at hc l (j / k) hi (j % k) hr
      rw [hjk, hj] at e1
      obtain ⟨h1, _⟩ := hp (j / k) hi
      obtain ⟨_, hlen, hcell⟩ := World.cells?_some h1
      have hc1 := hcell (j % k) hr
      rw [Deep.add_add, hjk, ← e1] at hc1
      obtain ⟨b, off, spot⟩ := a
      have hspot : spot = none := by
        have hl0 : 0 < l.length := Nat.lt_of_le_of_lt (Nat.zero_le _) hi
        obtain ⟨h10, _⟩ := hp 0 hl0
        obtain ⟨_, _, hcell0⟩ := World.cells?_some h10
        have q0 := hcell0 0 hk0
        obtain ⟨u0, hu0⟩ : ∃ u0, (c (l[0]'hl0))[0]? = some u0 := ⟨(c (l[0]'hl0))[0]'(by rw [hc]; exact hk0), List.getElem?_eq_getElem _⟩
        rw [hu0] at q0
        simpa [Addr.add] using World.cell?_spot (by simpa [Addr.add] using q0)
      subst hspot
      rw [add_plain] at hc1
      exact ⟨b, off, rfl, World.block_lt_of_cell? _ _ hc1, hc1⟩
    · obtain ⟨i, hi, rfl⟩ := List.getElem_of_mem hx
      exact (hp i hi).2
theorem cellsI : Try.prog.cellsOf 3 = 1 := by kernel_rfl
theorem cellsS : Try.prog.cellsOf 9 = 1 := by kernel_rfl
theorem cellsWd : Try.prog.cellsOf 39 = 3 := by kernel_rfl
theorem cellsIns : Try.prog.cellsOf 41 = 8 := by kernel_rfl
theorem cellsGl : Try.prog.cellsOf 44 = 4 := by kernel_rfl
theorem cellsFn : Try.prog.cellsOf 36 = 4 := by kernel_rfl
theorem cellsSh : Try.prog.cellsOf 58 = 2 := by kernel_rfl
theorem cellsRc : Try.prog.cellsOf 49 = 3 := by kernel_rfl
theorem cellsHp : Try.prog.cellsOf 27 = 2 := by kernel_rfl
theorem cellsWo : Try.prog.cellsOf 29 = 5 := by kernel_rfl
theorem cells_is : Try.prog.cellsOf 61 = 1 := by kernel_rfl
theorem cells_ss : Try.prog.cellsOf 56 = 1 := by kernel_rfl
theorem cells_ins : Try.prog.cellsOf 34 = 1 := by kernel_rfl
theorem cells_shs : Try.prog.cellsOf 46 = 1 := by kernel_rfl
theorem cells_mvs : Try.prog.cellsOf 47 = 1 := by kernel_rfl
theorem cells_fns : Try.prog.cellsOf 22 = 1 := by kernel_rfl
theorem cells_gls : Try.prog.cellsOf 23 = 1 := by kernel_rfl
theorem cells_rcs : Try.prog.cellsOf 24 = 1 := by kernel_rfl
theorem cells_wds : Try.prog.cellsOf 25 = 1 := by kernel_rfl
section
variable {H : Type} {enc : TypeId × Value → H} {W : World} {fuel : Nat} {z : DataW H × List MemPlace}
theorem el_str (cs' : List Value) (h : DataW.trod enc Try.prog W 0 (fun _ => true) true fuel 9 cs' = some z) : ∃ x, cs' = strC x ∧ True := by
  obtain ⟨s, e, _, _⟩ := DataW.trod_string Try.underlying9 h
  exact ⟨s, e, trivial⟩
theorem el_int (cs' : List Value) (h : DataW.trod enc Try.prog W 0 (fun _ => true) true fuel 3 cs' = some z) : ∃ x, cs' = intC x ∧ True := by
  obtain ⟨s, e, _, _⟩ := DataW.trod_int Try.underlying3 h
  exact ⟨s, e, trivial⟩
theorem el_wd (cs' : List Value) (h : DataW.trod enc Try.prog W 0 (fun _ => true) true fuel 39 cs' = some z) (hl : cs'.length = 3) : ∃ x, cs' = wdC x ∧ True := by
  obtain ⟨y0, y1, y2, n', _, _, t0, t1, t2⟩ := Deep.trod_struct3 Try.underlying39 h
  match cs', hl with
  | [u0, u1, u2], _ =>
    simp [cellsS, cellsI] at t0 t1 t2
    obtain ⟨k, e0, _, _⟩ := DataW.trod_int Try.underlying3 t0
    obtain ⟨nn, e1, _, _⟩ := DataW.trod_int Try.underlying3 t1
    obtain ⟨ss, e2, _, _⟩ := DataW.trod_string Try.underlying9 t2
    simp at e0 e1 e2
    subst e0 e1 e2
    exact ⟨⟨k, nn, ss⟩, rfl, trivial⟩
theorem trod_struct6 {P : Program} {t : TypeId} {f0 f1 f2 f3 f4 f5 : Field} {cs : List Value} {x : DataW H × List MemPlace} (ht : P.underlying t = some (.struct #[f0, f1, f2, f3, f4, f5])) (h : DataW.trod enc P W 0 (fun _ => true) true fuel t cs = some x) :
    ∃ y0 y1 y2 y3 y4 y5 n, DataW.trod enc P W 0 (fun _ => true) true n f0.type ((cs.drop f0.offset).take (P.cellsOf f0.type)) = some y0 ∧ DataW.trod enc P W 0 (fun _ => true) true n f1.type ((cs.drop f1.offset).take (P.cellsOf f1.type)) = some y1 ∧ DataW.trod enc P W 0 (fun _ => true) true n f2.type ((cs.drop f2.offset).take (P.cellsOf f2.type)) = some y2 ∧
      DataW.trod enc P W 0 (fun _ => true) true n f3.type ((cs.drop f3.offset).take (P.cellsOf f3.type)) = some y3 ∧ DataW.trod enc P W 0 (fun _ => true) true n f4.type ((cs.drop f4.offset).take (P.cellsOf f4.type)) = some y4 ∧ DataW.trod enc P W 0 (fun _ => true) true n f5.type ((cs.drop f5.offset).take (P.cellsOf f5.type)) = some y5 := by
  obtain ⟨xs, n, _, rfl, hl, hlen, hf⟩ := DataW.trod_struct ht h
  match xs, hlen with
  | [y0, y1, y2, y3, y4, y5], _ => exact ⟨y0, y1, y2, y3, y4, y5, n, by simpa using hf 0 f0 rfl, by simpa using hf 1 f1 rfl, by simpa using hf 2 f2 rfl, by simpa using hf 3 f3 rfl, by simpa using hf 4 f4 rfl, by simpa using hf 5 f5 rfl⟩
theorem el_ins (cs' : List Value) (h : DataW.trod enc Try.prog W 0 (fun _ => true) true fuel 41 cs' = some z) (hl : cs'.length = 8) : ∃ x, cs' = insC x ∧ True := by
  obtain ⟨y0, y1, y2, y3, y4, y5, n', t0, t1, t2, t3, t4, t5⟩ := trod_struct6 Try.underlying41 h
  match cs', hl with
  | [u0, u1, u2, u3, u4, u5, u6, u7], _ =>
    simp [cellsS, cellsI, cellsWd] at t0 t1 t2 t3 t4 t5
    obtain ⟨k0, e0, _, _⟩ := DataW.trod_int Try.underlying3 t0
    obtain ⟨k1, e1, _, _⟩ := DataW.trod_int Try.underlying3 t1
    obtain ⟨k2, e2, _, _⟩ := DataW.trod_int Try.underlying3 t2
    obtain ⟨k3, e3, _, _⟩ := DataW.trod_string Try.underlying9 t3
    obtain ⟨k4, e4, _, _⟩ := DataW.trod_string Try.underlying9 t4
    obtain ⟨w, e5, _⟩ := el_wd _ t5 rfl
    unfold wdC at e5
    simp at e0 e1 e2 e3 e4 e5
    obtain ⟨e5, e6, e7⟩ := e5
    subst e0 e1 e2 e3 e4 e5 e6 e7
    exact ⟨⟨k0, k1, k2, k3, k4, w⟩, rfl, trivial⟩
theorem el_gl (cs' : List Value) (h : DataW.trod enc Try.prog W 0 (fun _ => true) true fuel 44 cs' = some z) (hl : cs'.length = 4) : ∃ x, cs' = glC x ∧ True := by
  obtain ⟨y0, y1, n', _, _, t0, t1⟩ := ChangeShapes.trod_struct2 Try.underlying44 h
  match cs', hl with
  | [u0, u1, u2, u3], _ =>
    simp [cellsS, cellsWd] at t0 t1
    obtain ⟨k0, e0, _, _⟩ := DataW.trod_string Try.underlying9 t0
    obtain ⟨w, e5, _⟩ := el_wd _ t1 rfl
    unfold wdC at e5
    simp at e0 e5
    obtain ⟨e5, e6, e7⟩ := e5
    subst e0 e5 e6 e7
    exact ⟨⟨k0, w⟩, rfl, trivial⟩
theorem el_mv (cs' : List Value) (h : DataW.trod enc Try.prog W 0 (fun _ => true) true fuel 61 cs' = some z) (hl : cs'.length = 1) (hw : InR Try.prog 61 z.1) : ∃ x, cs' = mvC x ∧ subM W (fun b => b < W.heap.size) x ∧ bigM x := by
  match cs', hl with
  | [v], _ =>
    obtain ⟨a, cap, l, rfl, h1, h2, _⟩ := open_list (c := intC) (Q := fun _ => True) Try.underlying61 cellsI (by omega) intC_len (y := 8) (by kernel_rfl) (fun _ cs' _ h _ _ => el_int cs' h) h hw
    exact ⟨⟨a, cap, l⟩, rfl, h2, by unfold bigM; dsimp only; omega⟩
theorem el_sh (cs' : List Value) (h : DataW.trod enc Try.prog W 0 (fun _ => true) true fuel 58 cs' = some z) (hl : cs'.length = 2) (hw : InR Try.prog 58 z.1) : ∃ x, cs' = shC x ∧ subS W (fun b => b < W.heap.size) x ∧ bigS x := by
  obtain ⟨y0, y1, n', rfl, _, t0, t1⟩ := ChangeShapes.trod_struct2 Try.underlying58 h
  match cs', hl with
  | [u0, u1], _ =>
    simp [cellsS, cells_ss] at t0 t1
    obtain ⟨nm, e0, _, _⟩ := DataW.trod_string Try.underlying9 t0
    simp at e0
    subst e0
    obtain ⟨a, cap, l, rfl, h1, h2, _⟩ := open_list (c := strC) (Q := fun _ => True) Try.underlying56 cellsS (by omega) strC_len (y := 16) (by kernel_rfl) (fun _ cs' _ h _ _ => el_str cs' h) t1 (hw.field Try.underlying58 (j := 1) rfl rfl)
    exact ⟨⟨nm, a, cap, l⟩, rfl, h2, by unfold bigS; dsimp only; omega⟩
theorem el_fn (cs' : List Value) (h : DataW.trod enc Try.prog W 0 (fun _ => true) true fuel 36 cs' = some z) (hl : cs'.length = 4) (hw : InR Try.prog 36 z.1) : ∃ x, cs' = fnC x ∧ subF W (fun b => b < W.heap.size) x ∧ bigF x := by
  obtain ⟨y0, y1, y2, y3, n', rfl, _, t0, t1, t2, t3⟩ := Joins.trod_struct4 Try.underlying36 h
  match cs', hl with
  | [u0, u1, u2, u3], _ =>
    simp [cellsI, cells_ins] at t0 t1 t2 t3
    obtain ⟨k0, e0, _, _⟩ := DataW.trod_int Try.underlying3 t0
    obtain ⟨k1, e1, _, _⟩ := DataW.trod_int Try.underlying3 t1
    obtain ⟨k2, e2, _, _⟩ := DataW.trod_int Try.underlying3 t2
    simp at e0 e1 e2
    subst e0 e1 e2
    obtain ⟨a, cap, l, rfl, h1, h2, _⟩ := open_list (c := insC) (Q := fun _ => True) Try.underlying34 cellsIns (by omega) insC_len (y := 88) (by kernel_rfl) (fun _ cs' _ h hl _ => el_ins cs' h hl) t3 (hw.field Try.underlying36 (j := 3) rfl rfl)
    exact ⟨⟨k0, k1, k2, a, cap, l⟩, rfl, h2, by unfold bigF; dsimp only; omega⟩
theorem el_rc (cs' : List Value) (h : DataW.trod enc Try.prog W 0 (fun _ => true) true fuel 49 cs' = some z) (hl : cs'.length = 3) (hw : InR Try.prog 49 z.1) : ∃ x, cs' = rcC x ∧ subR W (fun b => b < W.heap.size) x ∧ bigR x := by
  obtain ⟨y0, y1, y2, n', rfl, _, t0, t1, t2⟩ := Deep.trod_struct3 Try.underlying49 h
  match cs', hl with
  | [u0, u1, u2], _ =>
    simp [cellsS, cells_shs, cells_mvs] at t0 t1 t2
    obtain ⟨nm, e0, _, _⟩ := DataW.trod_string Try.underlying9 t0
    simp at e0
    subst e0
    obtain ⟨a, cap, l, rfl, h1, h2, h3⟩ := open_list (c := shC) (Q := fun x => subS W (fun b => b < W.heap.size) x ∧ bigS x) Try.underlying46 cellsSh (by omega) shC_len (y := 40) (by kernel_rfl) (fun _ cs' _ h hl hw => el_sh cs' h hl hw) t1 (hw.field Try.underlying49 (j := 1) rfl rfl)
    obtain ⟨a', cap', l', rfl, h1', h2', h3'⟩ := open_list (c := mvC) (Q := fun x => subM W (fun b => b < W.heap.size) x ∧ bigM x) Try.underlying47 cells_is (by omega) mvC_len (y := 24) (by kernel_rfl) (fun _ cs' _ h hl hw => el_mv cs' h hl hw) t2 (hw.field Try.underlying49 (j := 2) rfl rfl)
    exact ⟨⟨nm, a, cap, l, a', cap', l'⟩, rfl, ⟨h2, fun s hs => (h3 s hs).1, h2', fun s hs => (h3' s hs).1⟩, ⟨by dsimp only; omega, fun s hs => (h3 s hs).2, by dsimp only; omega, fun s hs => (h3' s hs).2⟩⟩
theorem array5 {α : Type} {cs : Array α} (h : cs.size = 5) : ∃ c0 c1 c2 c3 c4, cs = #[c0, c1, c2, c3, c4] := by
  obtain ⟨l⟩ := cs
  match l, h with
  | [c0, c1, c2, c3, c4], _ => exact ⟨c0, c1, c2, c3, c4, rfl⟩
theorem open_world {v : Value} {d : DataW H} {p : List MemPlace} {base : Nat} (hv : Value.okWide Try.prog W .any base 29 v) (h : DataW.Trod enc Try.prog W 0 (fun _ => true) true 29 v d p) (hw : InR Try.prog 29 d) :
    ∃ (x : Wv) (lim : Int), v = .agg #[.slice x.fa x.fs.length x.fcap, .slice x.ga x.gs.length x.gcap, .slice x.ra x.rs.length x.rcap, .slice x.ha x.hs.length x.hcap, .int .i64 lim] ∧ subW W (fun b => b < W.heap.size) x ∧ bigW x := by
  obtain ⟨cs, rfl, hsz⟩ := okWide_struct Try.underlying29 hv
  obtain ⟨c0, c1, c2, c3, c4, rfl⟩ := array5 (hsz.trans cellsWo)
  obtain ⟨fuel, hf⟩ := h
  obtain ⟨y0, y1, y2, y3, n', hx, _, t0, t1, t2, t3⟩ := Joins.trod_struct4 Try.underlying29 hf
  simp only [Prod.mk.injEq] at hx
  obtain ⟨rfl, _⟩ := hx
  simp [Value.cells, cells_fns, cells_gls, cells_rcs, cellsHp] at t0 t1 t2 t3
  have hw3 := hw.field Try.underlying29 (j := 3) rfl rfl
  obtain ⟨z0, z1, n'', rfl, _, s0, s1⟩ := ChangeShapes.trod_struct2 Try.underlying27 t3
  simp [cells_wds, cellsI] at s0 s1
  obtain ⟨lim, e4, _, _⟩ := DataW.trod_int Try.underlying3 s1
  simp at e4
  subst e4
  obtain ⟨a1, p1, l1, rfl, h11, h12, h13⟩ := open_list (c := fnC) (Q := fun x => subF W (fun b => b < W.heap.size) x ∧ bigF x) Try.underlying22 cellsFn (by omega) fnC_len (y := 48) (by kernel_rfl) (fun _ cs' _ h hl hw => el_fn cs' h hl hw) t0 (hw.field Try.underlying29 (j := 0) rfl rfl)
  obtain ⟨a2, p2, l2, rfl, h21, h22, _⟩ := open_list (c := glC) (Q := fun _ => True) Try.underlying23 cellsGl (by omega) glC_len (y := 48) (by kernel_rfl) (fun _ cs' _ h hl _ => el_gl cs' h hl) t1 (hw.field Try.underlying29 (j := 1) rfl rfl)
  obtain ⟨a3, p3, l3, rfl, h31, h32, h33⟩ := open_list (c := rcC) (Q := fun x => subR W (fun b => b < W.heap.size) x ∧ bigR x) Try.underlying24 cellsRc (by omega) rcC_len (y := 64) (by kernel_rfl) (fun _ cs' _ h hl hw => el_rc cs' h hl hw) t2 (hw.field Try.underlying29 (j := 2) rfl rfl)
  obtain ⟨a4, p4, l4, rfl, h41, h42, _⟩ := open_list (c := wdC) (Q := fun _ => True) Try.underlying25 cellsWd (by omega) wdC_len (y := 32) (by kernel_rfl) (fun _ cs' _ h hl _ => el_wd cs' h hl) s0 (hw3.field Try.underlying27 (j := 0) rfl rfl)
  exact ⟨⟨a1, p1, l1, a2, p2, l2, a3, p3, l3, a4, p4, l4⟩, lim, rfl, ⟨h12, fun y hy => (h13 y hy).1, h22, h32, fun y hy => (h33 y hy).1, h42⟩, ⟨by dsimp only; omega, fun y hy => (h13 y hy).2, by dsimp only; omega, by dsimp only; omega, fun y hy => (h33 y hy).2, by dsimp only; omega⟩⟩
end
end Go.Proofs.Ytecjnlekckmhfaa

/- A copy of words: the statements' words. -/
import Derived.Test.YtfjfobpdlmdddaaHChart
import Derived.Deep.AppendSrc
import Derived.OwnWalk
namespace Go.Proofs.Ytfjfobpdlmdddaa
set_option maxRecDepth 100000
open Go.RowKit
def wcs : List Wd → List Value
  | [] => []
  | x :: r => .int .i64 x.k :: .int .i64 x.n :: .string x.s :: wcs r
theorem wcs_length : ∀ l, (wcs l).length = l.length * 3
  | [] => rfl
  | x :: r => by simp only [wcs, List.length_cons, wcs_length r]; omega
theorem wcs_get : ∀ (l : List Wd) i (h : i < l.length), (wcs l)[i * 3]? = some (.int .i64 l[i].k) ∧ (wcs l)[i * 3 + 1]? = some (.int .i64 l[i].n) ∧ (wcs l)[i * 3 + 2]? = some (.string l[i].s)
  | [], i, h => absurd h (by simp)
  | x :: r, 0, h => ⟨rfl, rfl, rfl⟩
  | x :: r, i + 1, h => by
    obtain ⟨h0, h1, h2⟩ := wcs_get r i (by simpa using h)
    rw [show (i + 1) * 3 = i * 3 + 3 by omega]
    exact ⟨h0, h1, h2⟩
theorem wcs_one : ∀ (l : List Wd) u, u ∈ wcs l → u.oneCell' = true
  | [], u, h => by cases h
  | x :: r, u, h => by
    simp only [wcs, List.mem_cons] at h
    rcases h with rfl | rfl | rfl | h
    · rfl
    · rfl
    · rfl
    · exact wcs_one r u h
theorem wcs_append : ∀ (l m : List Wd), wcs (l ++ m) = wcs l ++ wcs m
  | [], m => rfl
  | x :: r, m => by simp only [List.cons_append, wcs, wcs_append r m]
theorem Wds.at {w : World} {B b o : Nat} {l : List Wd} (h : Wds w B (some ⟨b, o, none⟩) l) (j : Nat) (u : Value) (hu : (wcs l)[j]? = some u) : w.cell? ⟨b, o + j, none⟩ = some u := by
  have hj : j < l.length * 3 := by rw [← wcs_length]; exact (List.getElem?_eq_some_iff.1 hu).1
  obtain ⟨i, r, hr, rfl⟩ : ∃ i r, r < 3 ∧ j = i * 3 + r := ⟨j / 3, j % 3, Nat.mod_lt _ (by omega), by omega⟩
  have hi : i < l.length := by omega
  obtain ⟨b', o', e, _, c0, c1, c2⟩ := h i hi
  injection e with e; injection e with e1 e2; subst e1 e2
  obtain ⟨g0, g1, g2⟩ := wcs_get l i hi
  match r, hr with
  | 0, _ => rw [Nat.add_zero, g0] at hu; rw [← hu]; exact c0
  | 1, _ => rw [g1] at hu; rw [← hu]; exact c1
  | 2, _ => rw [g2] at hu; rw [← hu]; exact c2
theorem Wds.made {w : World} {B b o : Nat} {l : List Wd} (hb : b < B) (h : ∀ j, j < l.length * 3 → w.cell? ⟨b, o + j, none⟩ = (wcs l)[j]?) : Wds w B (some ⟨b, o, none⟩) l := by
  intro i hi
  obtain ⟨g0, g1, g2⟩ := wcs_get l i hi
  exact ⟨b, o, rfl, hb, (h _ (by omega)).trans g0, (h (i * 3 + 1) (by omega)).trans g1, (h (i * 3 + 2) (by omega)).trans g2⟩
theorem Wds.src {P : Program} {w : World} {B : Nat} {a : Option Addr} {l : List Wd} (h : Wds w B a l) {tx e' : TypeId} (hk : P.underlying tx = some (.slice e')) (c : Nat) : Src P 3 tx (.slice a l.length c) l.length (wcs l) w := by
  cases l with
  | nil =>
    refine ⟨.inl ⟨e', hk⟩, fun _ => rfl, ?_, ?_, rfl, fun _ h => by cases h⟩
    · cases a with
      | none => exact run_firstCells_none w 3 0 0 c
      | some a => exact run_firstCells_some w 3 0 a 0 c [] rfl (fun j u h => by simp at h)
    · cases a with
      | none => exact run_firstCells_none w.drew 3 0 0 c
      | some a => exact run_firstCells_some w.drew 3 0 a 0 c [] rfl (fun j u h => by simp at h)
  | cons x r =>
    obtain ⟨b, o, rfl, _⟩ := h 0 (by simp)
    exact Src.ofSlice w hk _ _ _ _ (wcs_length _) (fun j u hu => by rw [Addr.add_lit]; exact h.at j u hu) (wcs_one _)
/-- What an append to nothing leaves. -/
def Copied (w : World) (e : TypeId) (n : Nat) (news : List Value) (v : Value) (w' : World) : Prop :=
  (n = 0 ∧ v = .slice none 0 0 ∧ w' = w) ∨ (0 < n ∧ ∃ cap cells, n ≤ cap ∧ v = .slice (some ⟨w.heap.size, 0, none⟩) n cap ∧ w' = w.drew.alloc (.cells cells e) ∧ ∀ j, j < news.length → cells[j]? = news[j]?)
theorem wpList_append_copy {P : Program} (w : World) {ops : Array Oper} {rest : List Oper} {o : Oper} {a : Act} {Q : Exit → Act → World → Prop}
    (hg : o.guard = none) (s x : Operand) (t tx : TypeId) (hop : o.op = Op.call { callee := Callee.builtin Builtin.append, args := #[s, x], argTypes := #[t, tx] })
    (e : TypeId) (z : Value) (size bytes : Nat) (ht : P.underlying t = some (.slice e)) (hinfo : (P.info? e).map (fun i => (i.zero, i.size, i.bytes)) = some (some z, size, bytes))
    (hs : a.eval s = .slice none 0 0) (xv : Value) (hx : a.eval x = xv) (n : Nat) (news : List Value) (hsrc : Src P size tx xv n news w) (hn : n ≤ 9223372036854775807) (hfit : n * bytes ≤ 281474976710656)
    (hK : ∀ v w', Copied w e n news v w' → wpList P ops Q rest (a.put o.dst v) w') :
    wpList P ops Q (o :: rest) a w := by
  obtain ⟨i, hi, hzz⟩ := Option.map_eq_some_iff.1 hinfo
  simp only [Prod.mk.injEq] at hzz
  obtain ⟨hz, rfl, rfl⟩ := hzz
  refine wpList_plain hg fun K hK' => ?_
  rcases Nat.eq_zero_or_pos n with h0 | h0
  · subst h0
    have hnl := hsrc.newsLen
    have : news = [] := by simpa using hnl
    subst this
    have hrun : (Builtin.append_ #[t, tx] o.type #[.slice none 0 0, xv]).run P w = .ok (.slice none 0 0) w := by
      rcases hsrc.kind with ⟨e', hk⟩ | hk <;> simp [Builtin.append_, run_underlying ht, run_underlying hk, sizeOf, typeInfo, hi, hsrc.len, hsrc.cells]
    unfold Oper.wp
    simp [execOp, hop, resolve, invoke, builtin, hs, hx, hrun, Result.andThen]
    exact hK' _ _ (hK _ _ (Or.inl ⟨rfl, rfl, rfl⟩))
  · have hrun := run_append_grow_src (P := P) w t tx o.type e i z ht hi hz none 0 0 [] (run_firstCells_none w.drew i.size 0 0 0) xv n news hsrc (by omega) (by omega) (by
      have : Builtin.nextslicecap (0 + n) 0 = n := by unfold Builtin.nextslicecap; rw [if_pos (by omega)]; omega
      rw [this]; exact hfit)
    rw [Nat.zero_add] at hrun
    unfold Oper.wp
    simp only [execOp, hop, resolve, invoke, builtin]
    simp [hs, hx, hrun, Result.andThen]
    refine hK' _ _ (hK _ _ (Or.inr ⟨h0, grownCap w n 0 e, _, grownCap_ge w n 0 e, rfl, rfl, fun j hj => ?_⟩))
    simp [Array.getElem?_append, hj]
end Go.Proofs.Ytfjfobpdlmdddaa

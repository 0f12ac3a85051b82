/- A copy of words by slices.Clone; a word that is changed in a copy. -/
import Derived.Test.YtfjfobpdlmdddaaHWCopy
import Derived.Lib.SliceRun
namespace Go.Proofs.Ytfjfobpdlmdddaa
set_option maxRecDepth 100000
open Go.RowKit Go.Maps
def CopiedB (w : World) (e : TypeId) (base : Option Addr) (n : Nat) (news : List Value) (v : Value) (w' : World) : Prop :=
  (n = 0 ∧ v = .slice base 0 0 ∧ w' = w) ∨ (0 < n ∧ ∃ cap cells, n ≤ cap ∧ v = .slice (some ⟨w.heap.size, 0, none⟩) n cap ∧ w' = w.drew.alloc (.cells cells e) ∧ ∀ j, j < news.length → cells[j]? = news[j]?)
theorem wpList_append_copyb {P : Program} (w : World) {ops : Array Oper} {rest : List Oper} {o : Oper} {a : Act} {Q : Exit → Act → World → Prop}
    (hg : o.guard = none) (s x : Operand) (t tx : TypeId) (hop : o.op = Op.call { callee := Callee.builtin Builtin.append, args := #[s, x], argTypes := #[t, tx] })
    (e : TypeId) (z : Value) (size bytes : Nat) (ht : P.underlying t = some (.slice e)) (hinfo : (P.info? e).map (fun i => (i.zero, i.size, i.bytes)) = some (some z, size, bytes))
    (A : Addr) (hs : a.eval s = .slice (some A) 0 0) (xv : Value) (hx : a.eval x = xv) (n : Nat) (news : List Value) (hsrc : Src P size tx xv n news w) (hn : n ≤ 9223372036854775807) (hfit : n * bytes ≤ 281474976710656)
    (hK : ∀ v w', CopiedB w e (some A) n news v w' → wpList P ops Q rest (a.put o.dst v) w') :
    wpList P ops Q (o :: rest) a w := by
  obtain ⟨i, hi, hzz⟩ := Option.map_eq_some_iff.1 hinfo
  simp only [Prod.mk.injEq] at hzz
  obtain ⟨hz, rfl, rfl⟩ := hzz
  refine wpList_plain hg fun K hK' => ?_
  rcases Nat.eq_zero_or_pos n with h0 | h0
  · subst h0
    have hnl := hsrc.newsLen
    have : news = [] := by simpa using hnl
    subst this
    have hrun : (Builtin.append_ #[t, tx] o.type #[.slice (some A) 0 0, xv]).run P w = .ok (.slice (some A) 0 0) w := by
      rcases hsrc.kind with ⟨e', hk⟩ | hk <;> simp [Builtin.append_, run_underlying ht, run_underlying hk, sizeOf, typeInfo, hi, hsrc.len, hsrc.cells, storeCells]
    unfold Oper.wp
    simp [execOp, hop, resolve, invoke, builtin, hs, hx, hrun, Result.andThen]
    exact hK' _ _ (hK _ _ (Or.inl ⟨rfl, rfl, rfl⟩))
  · have hrun := run_append_grow_src (P := P) w t tx o.type e i z ht hi hz (some A) 0 0 [] (run_firstCells_some w.drew i.size 0 A 0 0 [] (by simp) (fun j u h => by simp at h)) xv n news hsrc (by omega) (by omega) (by
      have : Builtin.nextslicecap (0 + n) 0 = n := by unfold Builtin.nextslicecap; rw [if_pos (by omega)]; omega
      rw [this]; exact hfit)
    rw [Nat.zero_add] at hrun
    unfold Oper.wp
    simp only [execOp, hop, resolve, invoke, builtin]
    simp [hs, hx, hrun, Result.andThen]
    refine hK' _ _ (hK _ _ (Or.inr ⟨h0, grownCap w n 0 e, _, grownCap_ge w n 0 e, rfl, rfl, fun j hj => ?_⟩))
    simp [Array.getElem?_append, hj]
/-- None of the words is frozen. -/
def Free (w : World) (a : Option Addr) (l : List Wd) : Prop := ∀ A, a = some A → ∀ j, j < l.length * 3 → w.frozen? ⟨A.block, A.off + j, none⟩ = false
/-- New words. -/
structure Fresh (w w' : World) (a : Option Addr) (l : List Wd) : Prop where
  bel : Below w.heap.size w w'
  wds : Wds w' w'.heap.size a l
  new : NewAt w.heap.size a
  free : Free w' a l
theorem fresh_copied {w w' : World} {A : Addr} {l : List Wd} {v : Value} (hA : w.heap.size ≤ A.block + 1) (h : CopiedB w 37 (some A) l.length (wcs l) v w') : ∃ a' cap', v = .slice a' l.length cap' ∧ l.length ≤ cap' ∧ Below w.heap.size w w' ∧ Wds w' w'.heap.size a' l ∧ NewAt (w.heap.size - 1) a' ∧ Free w' a' l := by
  rcases h with ⟨h0, rfl, rfl⟩ | ⟨h0, cap, cells, h1, rfl, rfl, h2⟩
  · have : l = [] := List.length_eq_zero_iff.1 h0
    subst this
    exact ⟨some A, 0, rfl, Nat.le_refl _, Below.refl _ _, fun i hi => absurd hi (by simp), (fun A' h => by injection h with h; subst h; omega), (fun A' _ j hj => absurd hj (by simp))⟩
  · have hn := World.alloc_heap_new w.drew (.cells cells 37)
    rw [show w.drew.heap.size = w.heap.size from rfl] at hn
    refine ⟨_, cap, rfl, h1, (bdrew (Below.refl _ _) 1).alloc (Nat.le_refl _) _, ?_, (fun A' h => by injection h with h; subst h; simp), (fun A' h j _ => by injection h with h; subst h; simp only [World.frozen?, hn]; simp)⟩
    refine Wds.made (by simp) (fun j hj => ?_)
    rw [← h2 j (by rw [wcs_length]; exact hj), Nat.zero_add]
    simp only [World.cell?, hn]
    rfl
set_option maxHeartbeats 1000000 in
theorem Clone_any (w : World) (B : Nat) (a : Option Addr) (len cap : Nat) (l : List Wd) (hW : Wds w B a l) (hB : B ≤ w.heap.size) (hlen : len = l.length) (hl : len ≤ 4398046511104) :
    Calls Try.prog 38 #[.slice a len cap] w fun e w' => ∃ a' cap', e = .returned (.slice a' len cap') ∧ len ≤ cap' ∧ Fresh w w' a' l := by
  cases a with
  | none =>
    have h0 : l = [] := by
      cases l with
      | nil => rfl
      | cons x r => obtain ⟨b, o, h, _⟩ := hW 0 (by simp); cases h
    subst h0
    have h1 : len = 0 := hlen
    subst h1
    have he : ∀ w, (binOp .eql 22 (.slice none 0 cap) (.slice none 0 0)).run Try.prog w = .ok (.bool true) w := fun w => Lib.run_eql_slice_nil w _ _ none 0 cap 0 0 Try.underlying22
    clear hlen hW hB hl
    go_enter Try.func38, Try.ntmps38
    go_wp2_with fail
    go_ret
    exact ⟨none, 0, rfl, Nat.le_refl _, Below.refl _ _, fun i hi => absurd hi (by simp), (fun A h => by cases h), (fun A h => by cases h)⟩
  | some A0 =>
    obtain ⟨w1, hw1⟩ : ∃ w1, w1 = w.alloc (.cells #[] 37) := ⟨_, rfl⟩
    have hb1 : Below w.heap.size w w1 := by rw [hw1]; exact (Below.refl _ _).alloc (Nat.le_refl _) _
    have hz1 : w1.heap.size = w.heap.size + 1 := by rw [hw1]; simp
    have HS := hid ((hW.below (hb1.mono hB)).src (P := Try.prog) (tx := 22) Try.underlying22 cap)
    have HX := hid (fun (v : Value) (w' : World) (h : CopiedB w1 37 (some ⟨w.heap.size, 0, none⟩) len (wcs l) v w') => (by
      rw [hlen] at h ⊢
      obtain ⟨a', cap', h1, h2, h3, h4, h5, h6⟩ := fresh_copied (by dsimp only; omega) h
      exact ⟨a', cap', h1, h2, hb1.trans (h3.mono (by omega)), h4, (fun A hA => by have := h5 A hA; omega), h6⟩ : ∃ a' cap', v = .slice a' len cap' ∧ len ≤ cap' ∧ Fresh w w' a' l))
    rw [← hlen] at HS
    have HW := hid hw1
    clear hlen hw1 hb1 hz1
    have he : ∀ w, (binOp .eql 22 (.slice (some A0) len cap) (.slice none 0 0)).run Try.prog w = .ok (.bool false) w := fun w => Lib.run_eql_slice_nil w _ _ (some A0) len cap 0 0 Try.underlying22
    go_enter Try.func38, Try.ntmps38
    go_wp2_with (at_builtin; rw [← HW.out]; refine wpList_append_copyb _ rfl _ _ 22 22 rfl 37 _ 3 32 Try.underlying22 infoWd ⟨w.heap.size, 0, none⟩ rfl _ rfl _ _ HS.out (by omega) (by omega) ?_; intro v w2 hv)
    obtain ⟨a', cap', rfl, h1, h2⟩ := HX.out _ _ hv
    have H2 := hid h2
    clear h2 hv
    go_wp2_with fail
    go_ret
    exact ⟨a', cap', rfl, h1, H2.out⟩
abbrev set3 (w : World) (b p : Nat) (u0 u1 u2 : Value) : World := ((w.setCell ⟨b, p, none⟩ u0).setCell ⟨b, p + 1, none⟩ u1).setCell ⟨b, p + 2, none⟩ u2
theorem set3_other (w : World) (b p x : Nat) (u0 u1 u2 : Value) (h : x < p ∨ p + 3 ≤ x) : (set3 w b p u0 u1 u2).cell? ⟨b, x, none⟩ = w.cell? ⟨b, x, none⟩ := by
  rw [World.cell?_setCell_other _ _ _ _ (by intro e; injection e with _ e; omega), World.cell?_setCell_other _ _ _ _ (by intro e; injection e with _ e; omega), World.cell?_setCell_other _ _ _ _ (by intro e; injection e with _ e; omega)]
theorem set3_at {w : World} {b p : Nat} {x0 x1 x2 : Value} (u0 u1 u2 : Value) (h0 : w.cell? ⟨b, p, none⟩ = some x0) (h1 : w.cell? ⟨b, p + 1, none⟩ = some x1) (h2 : w.cell? ⟨b, p + 2, none⟩ = some x2) :
    (set3 w b p u0 u1 u2).cell? ⟨b, p, none⟩ = some u0 ∧ (set3 w b p u0 u1 u2).cell? ⟨b, p + 1, none⟩ = some u1 ∧ (set3 w b p u0 u1 u2).cell? ⟨b, p + 2, none⟩ = some u2 := by
  refine ⟨?_, ?_, ?_⟩
  · rw [World.cell?_setCell_other _ _ _ _ (by intro e; injection e with _ e; omega), World.cell?_setCell_other _ _ _ _ (by intro e; injection e with _ e; omega), World.cell?_setCell_same _ _ _ h0]
  · rw [World.cell?_setCell_other _ _ _ _ (by intro e; injection e with _ e; omega)]
    exact World.cell?_setCell_same _ _ _ ((World.cell?_setCell_other _ _ _ _ (by intro e; injection e with _ e; omega)).trans h1)
  · exact World.cell?_setCell_same _ _ _ ((World.cell?_setCell_other _ _ _ _ (by intro e; injection e with _ e; omega)).trans ((World.cell?_setCell_other _ _ _ _ (by intro e; injection e with _ e; omega)).trans h2))
theorem Wds.put {w : World} {B b o : Nat} {l : List Wd} (h : Wds w B (some ⟨b, o, none⟩) l) {q : Nat} (hq : q < l.length) (x : Wd) : Wds (set3 w b (o + q * 3) (.int .i64 x.k) (.int .i64 x.n) (.string x.s)) B (some ⟨b, o, none⟩) (l.set q x) := by
  intro i hi
  have hi2 : i < l.length := by simpa using hi
  obtain ⟨b', o', e, hb, c0, c1, c2⟩ := h i hi2
  injection e with e; injection e with e1 e2; subst e1 e2
  refine ⟨b, o, rfl, hb, ?_⟩
  by_cases hiq : i = q
  · subst hiq
    rw [List.getElem_set_self]
    exact set3_at _ _ _ c0 c1 c2
  · rw [List.getElem_set_ne (by omega)]
    exact ⟨(set3_other _ _ _ _ _ _ _ (by omega)).trans c0, (set3_other _ _ _ _ _ _ _ (by omega)).trans c1, (set3_other _ _ _ _ _ _ _ (by omega)).trans c2⟩
end Go.Proofs.Ytfjfobpdlmdddaa

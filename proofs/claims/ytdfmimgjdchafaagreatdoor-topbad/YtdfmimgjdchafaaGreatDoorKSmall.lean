/- Texts of bounded length; parts of raw things; a row of acts that grows. -/
import Derived.Test.YtdfmimgjdchafaaGreatDoorBFull
import Derived.Deep.AppendLies
namespace Go.Proofs.YtdfmimgjdchafaaGreatDoor
set_option maxRecDepth 100000
open Go.RowKit
/-- A text of n bytes at most. -/
def Sm (n : Nat) (v : Value) : Prop := ∃ s : ByteArray, v = .string s ∧ s.size ≤ n
theorem Sm.mono {m n : Nat} {v : Value} (h : Sm m v) (hn : m ≤ n) : Sm n v := by
  obtain ⟨s, h1, h2⟩ := h
  exact ⟨s, h1, by omega⟩
theorem Sm.cat {a b : ByteArray} {m n k : Nat} (h : a.size ≤ m) (hb : b.size ≤ n) (hk : m + n ≤ k) : Sm k (.string (a ++ b)) := ⟨_, rfl, by rw [ByteArray.size_append]; omega⟩
theorem Raws.up {w : World} {B C : Nat} {a : Option Addr} {n : Nat} (h : Raws w B a n) (hC : B ≤ C) : Raws w C a n := by
  intro i hi
  obtain ⟨b, o, k, x, y, z, h1, h2, h3⟩ := h i hi
  exact ⟨b, o, k, x, y, z, h1, by omega, h3⟩
theorem TabB.up {w : World} {B C : Nat} (h : TabB w B) (hC : B ≤ C) : TabB w C := by
  obtain ⟨g, h1, h2, h3⟩ := h
  exact ⟨g, h1, by omega, h3⟩
theorem add_plain (b o k : Nat) : (⟨b, o, none⟩ : Addr).add k = ⟨b, o + k, none⟩ := by unfold Addr.add; split <;> simp_all
/-- A part of raw things. -/
theorem raws_cut {w : World} {B : Nat} {a : Option Addr} {n : Nat} (h : Raws w B a n) (l k cap : Nat) (h1 : l ≤ k) (h2 : k ≤ n) (h3 : n ≤ cap) :
    Raws w B (if cap = l then a else a.map (·.add (l * 4))) (k - l) := by
  intro i hi
  obtain ⟨b, o, k', x, y, z, ha, hb, c0, c1, c2, c3, hk⟩ := h (l + i) (by omega)
  have hne : ¬ cap = l := by omega
  subst ha
  rw [if_neg hne]
  simp only [Option.map_some, add_plain]
  refine ⟨b, o + l * 4, k', x, y, z, rfl, hb, ?_, ?_, ?_, ?_, hk⟩
  · rw [← c0]; congr 2; omega
  · rw [← c1]; congr 2; omega
  · rw [← c2]; congr 2; omega
  · rw [← c3]; congr 2; omega
theorem raws_pre {w : World} {B : Nat} {a : Option Addr} {n k : Nat} (h : Raws w B a n) (hk : k ≤ n) : Raws w B a k := fun i hi => h i (by omega)
theorem expr_sm (w : World) (ra : Option Addr) (rn rc : Nat) (hR : Raws w w.heap.size ra rn) (h1 : rn ≤ rc) (h2 : rc ≤ maxLen) (hT : TabB w w.heap.size) :
    Calls Tryz.prog 12 #[.slice ra rn rc] w fun e w' => (∃ v, e = .returned v ∧ Sm 250 v) ∧ Below w.heap.size w w' := by
  refine (Expr_any w w.heap.size ra rn rc (Nat.le_refl _) hR h1 h2 hT).mono ?_
  rintro e w' ⟨⟨v, rfl, hv⟩, hb⟩
  have hz := hv
  obtain ⟨l, rfl, _⟩ := hv
  exact ⟨⟨_, rfl, _, rfl, (Bnd.tr 17 250).size hz⟩, hb⟩
/-- Raw things that lie in a world and in what comes behind it. -/
structure RawsOk (w : World) (B : Nat) (v : Value) (n : Nat) : Prop where
  row : ∃ a cap, v = .slice a n cap ∧ n ≤ cap ∧ cap ≤ maxLen ∧ Raws w B a n
/-- One act, in a block of its own. -/
def One5 (S : Nat) (v : Value) (w : World) : Prop := ∃ b cs, v = .slice (some ⟨b, 0, none⟩) 1 1 ∧ S ≤ b ∧ w.heap[b]? = some (.cells cs 44 (0, 0)) ∧ cs.toList.length = 5 ∧ ∀ u ∈ cs.toList, u.oneCell' = true
theorem One5.keep {S : Nat} {v : Value} {w w' : World} (h : One5 S v w) (hk : ∀ k, S ≤ k → k < w.heap.size → w'.heap[k]? = w.heap[k]?) : One5 S v w' := by
  obtain ⟨b, cs, h1, h2, h3, h4⟩ := h
  exact ⟨b, cs, h1, h2, (hk b h2 (Array.getElem?_eq_some_iff.1 h3).1).trans h3, h4⟩
/-- The acts so far. -/
def Out (B m : Nat) (v : Value) (w : World) : Prop := ∃ n cells, w.ownsRow B 44 5 v n cells ∧ n ≤ m
theorem Out.keep {B m : Nat} {v : Value} {w w' : World} (h : Out B m v w) (hb : Below w.heap.size w w') : Out B m v w' := by
  obtain ⟨n, cells, h1, h2⟩ := h
  exact ⟨n, cells, rowS_keep h1 (fun g hg => hb.block g (rowS_lt h1 hg).2), h2⟩
theorem Out.mono {B m k : Nat} {v : Value} {w : World} (h : Out B m v w) (hk : m ≤ k) : Out B k v w := by
  obtain ⟨n, cells, h1, h2⟩ := h
  exact ⟨n, cells, h1, by omega⟩
theorem Out.slice {B m : Nat} {v : Value} {w : World} (h : Out B m v w) : ∃ a n c, v = .slice a n c ∧ n ≤ m := by
  obtain ⟨n, cells, h1, h2⟩ := h
  rcases h1.2 with ⟨rfl, rfl⟩ | ⟨g, cap, cur, rfl, _⟩
  · exact ⟨_, _, _, rfl, h2⟩
  · exact ⟨_, _, _, rfl, h2⟩
def Upk (S : Nat) (w w' : World) : Prop := w.heap.size ≤ w'.heap.size ∧ ∀ k, S ≤ k → k < w.heap.size → w'.heap[k]? = w.heap[k]?
def RA (q S i : Nat) (w w' : World) : Prop := (i = q ∧ Upk S w w') ∨ (i ≠ q ∧ Below w.heap.size w w')
structure SA (row : Option Nat) (W : World) (q : Nat) (dn : Nat → Bool) (w' : World) : Prop where
  old : Kept W.heap.size row W w'
  pre : dn q = false → Below W.heap.size W w'
theorem SA.up {q i : Nat} {row : Option Nat} {W w' w'' : World} {dn : Nat → Bool} (h : SA row W q dn w') (hi : i ≠ q) (hb : Below w'.heap.size w' w'') : SA row W q (upd dn i) w'' :=
  ⟨h.old.trans (row' := none) (Kept.of_below hb (Nat.le_refl _)) (by simp), fun hd => (h.pre (by simpa [upd, Ne.symm hi] using hd)).trans (hb.mono h.old.size)⟩
theorem SA.bel {B q : Nat} {row : Option Nat} {W w' : World} {dn : Nat → Bool} (h : SA row W q dn w') (hB : B ≤ W.heap.size) (hr : ∀ g, row = some g → B ≤ g) : Below B W w' := h.old.below hB hr hB
theorem SA.cell {b o q : Nat} {row : Option Nat} {W w' : World} {dn : Nat → Bool} (h : SA row W q dn w') (hb : b < W.heap.size) (hr : ¬ row = some b) : w'.cell? ⟨b, o, none⟩ = W.cell? ⟨b, o, none⟩ :=
  h.old.cell (p := ⟨b, o, none⟩) hb (by simp only; omega) hr
theorem SA.init {row : Option Nat} {W w' : World} {q : Nat} {dn : Nat → Bool} (h : Below W.heap.size W w') : SA row W q dn w' := ⟨Kept.of_below h (Nat.le_refl _), fun _ => h⟩
theorem RA.of {q S i : Nat} {w w' : World} (hi : i ≠ q) (hb : Below w.heap.size w w') : RA q S i w w' := Or.inr ⟨hi, hb⟩
theorem RA.one5 {q S i : Nat} {v : Value} {w w' : World} (h : RA q S i w w') (hv : One5 S v w) : One5 S v w' := by
  rcases h with ⟨_, h⟩ | ⟨_, h⟩
  · exact hv.keep h.2
  · exact hv.keep fun k _ hk => h.block k hk
theorem infoAct : (Tryz.prog.info? 44).map (fun i => (i.zero, i.size, i.bytes)) = some (some (.agg #[.int .i64 0, .string ⟨#[]⟩, .string ⟨#[]⟩, .slice none 0 0, .int .i64 0]), 5, 72) := by kernel_rfl
/-- One more act: the operation. -/
theorem wp_act {o : Oper} {a : Act} {K : Act → World → Prop} {Q : Exit → Act → World → Prop} {B q m : Nat} {W w' : World} {dn : Nat → Bool} (s x : Nat)
    (ho : o.op = .call { callee := .builtin .append, args := #[.tmp s, .tmp x], argTypes := #[23, 23] })
    (hB : B ≤ W.heap.size) {v v2 : Value} (hS : SA v.ownBlock W q dn w') (hd : dn q = false) (hs : a.tmps[s]? = some v) (hO : Out B m v W) (hm : m ≤ 1000) (hx : a.tmps[x]? = some v2) (h5 : One5 W.heap.size v2 w')
    (hK : ∀ v' w'', SA v.ownBlock W q (upd dn q) w'' → RA q W.heap.size q w' w'' → Out B (m + 1) v' w'' → K (a.put o.dst v') w'') : o.wp Tryz.prog a w' K Q := by
  obtain ⟨n, cells, hr, hn⟩ := hO
  have hlt := fun g (hg : v.ownBlock = some g) => rowS_lt hr hg
  have hpre := hS.pre hd
  have hrow := rowS_keep hr (fun g hg => hpre.block g (hlt g hg).2)
  obtain ⟨b, cs, rfl, h1, h2, h3, h4⟩ := h5
  obtain ⟨i0, hi, hz0, hz1, hz2⟩ := info_parts infoAct
  have hBw := Nat.le_trans hB hS.old.size
  have hsz := hS.old.size
  refine wp_append_lies (P := Tryz.prog) w' (.tmp s) (.tmp x) 23 ho B 44 i0 (.agg #[.int .i64 0, .string ⟨#[]⟩, .string ⟨#[]⟩, .slice none 0 0, .int .i64 0]) 5 72 Tryz.underlying23 hi hz0 hz1 hz2 (by decide) (by decide) v n cells (by simp [Act.eval, hs]) hrow ⟨b, 0, none⟩ 1 1 cs.toList (by simp [Act.eval, hx]) (by omega) (World.news_of_block h2) h4 (by decide) (by unfold maxLen; omega) (by omega) hBw _ rfl ?_
  intro g cap w'' hr' hg ha hl
  have hgk := grown_kept (bb := W.heap.size) hg
  refine hK _ _ ⟨hS.old.trans hgk (fun g hg => Or.inl hg), fun h => by simp [upd] at h⟩ (Or.inl ⟨rfl, hg.size, fun k hk hkk => hg.block k hkk (fun e => by have := (hlt k e.symm).2; omega)⟩) ⟨_, _, hr', by omega⟩
theorem RA.keep {q S i : Nat} {w w' : World} (h : RA q S i w w') : ∀ k, S ≤ k → k < w.heap.size → w'.heap[k]? = w.heap[k]? := by
  rcases h with ⟨_, h⟩ | ⟨_, h⟩
  · exact h.2
  · exact fun k _ hk => h.block k hk
theorem RA.bel {q S i : Nat} {w w' : World} (h : RA q S i w w') (hi : i ≠ q) : Below w.heap.size w w' := by
  rcases h with ⟨h, _⟩ | ⟨_, h⟩
  · exact absurd h hi
  · exact h
/-- A row of texts that was made here; one of its cells. -/
def Strs (S n : Nat) (cs : Array Value) (v : Value) (w : World) : Prop := ∃ b, v = .slice (some ⟨b, 0, none⟩) n n ∧ S ≤ b ∧ w.heap[b]? = some (.cells cs 9 (0, 0))
def Cel (S n : Nat) (cs : Array Value) (v : Value) (w : World) : Prop := ∃ b j, v = .pointer (some ⟨b, j, none⟩) ∧ j < n ∧ S ≤ b ∧ w.heap[b]? = some (.cells cs 9 (0, 0))
theorem Strs.keep {S n : Nat} {cs : Array Value} {v : Value} {w w' : World} (h : Strs S n cs v w) (hk : ∀ k, S ≤ k → k < w.heap.size → w'.heap[k]? = w.heap[k]?) : Strs S n cs v w' := by
  obtain ⟨b, h1, h2, h3⟩ := h
  exact ⟨b, h1, h2, (hk b h2 (Array.getElem?_eq_some_iff.1 h3).1).trans h3⟩
theorem Cel.keep {S n : Nat} {cs : Array Value} {v : Value} {w w' : World} (h : Cel S n cs v w) (hk : ∀ k, S ≤ k → k < w.heap.size → w'.heap[k]? = w.heap[k]?) : Cel S n cs v w' := by
  obtain ⟨b, j, h1, hj, h2, h3⟩ := h
  exact ⟨b, j, h1, hj, h2, (hk b h2 (Array.getElem?_eq_some_iff.1 h3).1).trans h3⟩
theorem pick_ofNat (n : Int) (m : Nat) (hm : 0 < m) : ∃ j : Nat, pick n (m : Int) = (j : Int) ∧ j < m := by
  have h := pick_range n m (by omega)
  exact ⟨(pick n m).toNat, by omega, by omega⟩
/-- One more act, in a plain region. -/
theorem wpList_act {ops : Array Oper} {rest : List Oper} {o : Oper} {a : Act} {Q : Exit → Act → World → Prop} (hgd : o.guard = none) {B m : Nat} {w' : World} (s x : Nat)
    (ho : o.op = .call { callee := .builtin .append, args := #[.tmp s, .tmp x], argTypes := #[23, 23] })
    (hB : B ≤ w'.heap.size) {v v2 : Value} (hs : a.tmps[s]? = some v) (hO : Out B m v w') (hm : m ≤ 1000) (hx : a.tmps[x]? = some v2) (h5 : One5 0 v2 w')
    (hK : ∀ v' w'', Below B w' w'' → Out B (m + 1) v' w'' → wpList Tryz.prog ops Q rest (a.put o.dst v') w'') : wpList Tryz.prog ops Q (o :: rest) a w' := by
  obtain ⟨n, cells, hr, hn⟩ := hO
  have hlt := fun g (hg : v.ownBlock = some g) => rowS_lt hr hg
  obtain ⟨b, cs, rfl, h1, h2, h3, h4⟩ := h5
  obtain ⟨i0, hi, hz0, hz1, hz2⟩ := info_parts infoAct
  refine wpList_append_lies w' hgd (.tmp s) (.tmp x) 23 ho B 44 i0 (.agg #[.int .i64 0, .string ⟨#[]⟩, .string ⟨#[]⟩, .slice none 0 0, .int .i64 0]) 5 72 Tryz.underlying23 hi hz0 hz1 hz2 (by decide) (by decide) v n cells (by simp [Act.eval, hs]) hr ⟨b, 0, none⟩ 1 1 cs.toList (by simp [Act.eval, hx]) (by omega) (World.news_of_block h2) h4 (by decide) (by unfold maxLen; omega) (by omega) hB _ rfl ?_
  intro g cap w'' hr' hg ha hl
  have hgk := grown_kept (bb := w'.heap.size) hg
  exact hK _ _ ⟨hgk.os, hgk.tape, hgk.output, hgk.size, fun k hk => hgk.block k (by omega) (by omega) (fun e => by have := (hlt k e).1; omega)⟩ ⟨_, _, hr', by omega⟩
end Go.Proofs.YtdfmimgjdchafaaGreatDoor

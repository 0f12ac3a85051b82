/- The chart of a heap in memory: its words, its things, its two maps. -/
import Derived.Test.YtfjfobpdlmdddaaHThingAt
import Derived.Maps.OwnSet
import Derived.Maps.OwnOps
import Derived.Carry
import Derived.Deep.AppendLies
import Derived.Deep.RegionLaw
namespace Go.Proofs.Ytfjfobpdlmdddaa
set_option maxRecDepth 100000
open Go.RowKit Go.Maps
/-- A thing: where it begins, where its values do, where it ends. -/
structure Th where
  h : Nat
  f : Nat
  e : Nat
/-- A map filled with pairs, the last one first. -/
def filledI : List (Int × Int) → DataW Unit
  | [] => .map []
  | p :: r => (filledI r).put (.int .i64 p.1) (.lit (.int .i64 p.2))
def hasI : List (Int × Int) → Int → Bool
  | [], _ => false
  | p :: r, k => decide (p.1 = k) || hasI r k
def valI : List (Int × Int) → Int → Int
  | [], _ => 0
  | p :: r, k => if p.1 = k then p.2 else valI r k
theorem filledI_map : ∀ l, IsMap (filledI l)
  | [] => isMap_empty
  | _ :: r => (filledI_map r).put _ _
theorem filledI_has (k : Int) : ∀ l, Maps.has (filledI l) (.int .i64 k) = hasI l k
  | [] => rfl
  | p :: r => by
    unfold filledI hasI
    by_cases h : p.1 = k
    · rw [← h, has_put_same (k := .int .i64 p.1) (filledI_map r) (by trivial)]; simp
    · rw [has_put_other (by intro e; injection e with _ e; exact h e.symm), filledI_has k r]; simp [h]
theorem filledI_at (k : Int) : ∀ l, (filledI l).atKey (.int .i64 k) (.lit (.int .i64 0)) = .lit (.int .i64 (valI l k))
  | [] => rfl
  | p :: r => by
    unfold filledI valI
    by_cases h : p.1 = k
    · rw [if_pos h, ← h]; exact atKey_put_same (k := .int .i64 p.1) (filledI_map r) (by trivial) _ _
    · rw [if_neg h, atKey_put_other (by intro e; injection e with _ e; exact h e.symm)]; exact filledI_at k r
theorem lawI : Keyed Try.prog 3 := int_keyed Try.underlying3
theorem zeroI (w : World) : (zeroValue 3).run Try.prog w = .ok (.int .i64 0) w := by kernel_rfl
abbrev wfI (k : Int) : Prop := (Lit.int .i64 k).wf = true
abbrev OwnsI (w : World) (b : Nat) (l : List (Int × Int)) : Prop := w.ownsMap Try.prog 3 (plainElem (H := Unit) Try.prog 3) b l.length (filledI l)
theorem OwnsI.look2 {w : World} {b : Nat} {l : List (Int × Int)} (h : OwnsI w b l) {k : Int} (hk : wfI k) :
    (Instr.lookup 56 (.map (some b)) (.int .i64 k) true).run Try.prog w = .ok (.tuple #[.int .i64 (valI l k), .bool (hasI l k)]) w := by
  obtain ⟨v, ps, hrun, hv⟩ := h.look_ok lawI Try.underlying56 (zeroI w) (plainElem_int Try.underlying3 (by decide)) (keyOf_int_mk Try.underlying3 hk)
  obtain ⟨c, rfl, hc, _⟩ := plainElem_int_inv Try.underlying3 hv
  simp only [Prod.mk.injEq] at hc
  have e := hc.1
  rw [filledI_at] at e
  injection e with e; injection e with _ e
  rw [hrun, filledI_has, e]
theorem OwnsI.look1 {w : World} {b : Nat} {l : List (Int × Int)} (h : OwnsI w b l) {k : Int} (hk : wfI k) :
    (Instr.lookup 56 (.map (some b)) (.int .i64 k) false).run Try.prog w = .ok (.int .i64 (valI l k)) w := by
  obtain ⟨c, hrun, hat, _⟩ := h.lookup_int lawI Try.underlying56 Try.underlying3 (zeroI w) (keyOf_int_mk Try.underlying3 hk)
  rw [filledI_at] at hat
  injection hat with e; injection e with _ e
  rw [hrun, e]
theorem OwnsI.put {w : World} {b : Nat} {l : List (Int × Int)} (h : OwnsI w b l) (hn : l.length < maxLen) {k c : Int} (hk : wfI k) (hc : wfI c) :
    ∃ w', (Instr.mapUpdate 56 (.map (some b)) (.int .i64 k) (.int .i64 c)).run Try.prog w = .ok () w' ∧ OwnsI w' b ((k, c) :: l) ∧ w.grownBy w' (some b) :=
  World.ownsMap.update h lawI Try.underlying56 hn (keyOf_int_mk Try.underlying3 hk) (plainElem_int Try.underlying3 hc)
theorem OwnsI.keep {w w' : World} {b : Nat} {l : List (Int × Int)} (h : OwnsI w b l) (hb : w'.heap[b]? = w.heap[b]?) : OwnsI w' b l := by
  obtain ⟨es, c, e1, e2⟩ := h
  exact ⟨es, c, hb.trans e1, e2⟩
/-- Things in a row of one's own. -/
def ThL (w : World) (B : Nat) (v : Value) (acc : List Th) : Prop :=
  ∃ cells, w.ownsRow B 81 3 v acc.length cells ∧ ∀ i (h : i < acc.length), cells[i * 3]? = some (.int .i64 acc[i].h) ∧ cells[i * 3 + 1]? = some (.int .i64 acc[i].f) ∧ cells[i * 3 + 2]? = some (.int .i64 acc[i].e)
theorem ThL.nil (w : World) (B : Nat) : ThL w B (.slice none 0 0) [] := ⟨[], ⟨rfl, Or.inl ⟨rfl, rfl⟩⟩, fun i h => absurd h (by simp)⟩
theorem ownsRow_keep {w w' : World} {B k : Nat} {ty : TypeId} {v : Value} {n : Nat} {cells : List Value} (h : w.ownsRow B ty k v n cells) (hk : ∀ b, v.ownBlock = some b → w'.heap[b]? = w.heap[b]?) : w'.ownsRow B ty k v n cells := by
  refine ⟨h.1, ?_⟩
  rcases h.2 with h | ⟨g, cap, cur, hv, hb, hg, hr⟩
  · exact Or.inl h
  · exact Or.inr ⟨g, cap, cur, hv, hb, by rw [hk g (by rw [hv]; rfl)]; exact hg, hr⟩
theorem ownsRow_lt {w : World} {B k : Nat} {ty : TypeId} {v : Value} {n : Nat} {cells : List Value} (h : w.ownsRow B ty k v n cells) {g : Nat} (hg : v.ownBlock = some g) : B ≤ g ∧ g < w.heap.size := by
  rcases h.2 with ⟨rfl, _⟩ | ⟨g', cap, cur, rfl, hb, hc, _⟩
  · simp [Value.ownBlock] at hg
  · simp [Value.ownBlock] at hg
    subst hg
    refine ⟨hb, ?_⟩
    rcases Nat.lt_or_ge g' w.heap.size with h' | h'
    · exact h'
    · rw [Array.getElem?_eq_none h'] at hc; cases hc
theorem ThL.own_lt {w : World} {B : Nat} {v : Value} {l : List Th} (h : ThL w B v l) {g : Nat} (hg : v.ownBlock = some g) : B ≤ g ∧ g < w.heap.size := by
  obtain ⟨cells, ho, _⟩ := h
  exact ownsRow_lt ho hg
theorem ThL.keep {w w' : World} {B : Nat} {v : Value} {l : List Th} (h : ThL w B v l) (hk : ∀ b, v.ownBlock = some b → w'.heap[b]? = w.heap[b]?) : ThL w' B v l := by
  obtain ⟨cells, ho, hi⟩ := h
  exact ⟨cells, ownsRow_keep ho hk, hi⟩
theorem ThL.append {w' : World} {B : Nat} {l : List Th} {cells : List Value} {t : Th} {g cap : Nat}
    (hi : ∀ i (h : i < l.length), cells[i * 3]? = some (.int .i64 l[i].h) ∧ cells[i * 3 + 1]? = some (.int .i64 l[i].f) ∧ cells[i * 3 + 2]? = some (.int .i64 l[i].e)) (hlen : cells.length = l.length * 3)
    (ho : w'.ownsRow B 81 3 (.slice (some ⟨g, 0, none⟩) (l.length + 1) cap) (l.length + 1) (cells ++ [.int .i64 t.h, .int .i64 t.f, .int .i64 t.e])) :
    ThL w' B (.slice (some ⟨g, 0, none⟩) (l.length + 1) cap) (l ++ [t]) := by
  refine ⟨_, by rw [List.length_append]; exact ho, fun i h => ?_⟩
  by_cases hlt : i < l.length
  · rw [List.getElem_append_left hlt]
    obtain ⟨e0, e1, e2⟩ := hi i hlt
    exact ⟨by rw [List.getElem?_append_left (by omega)]; exact e0, by rw [List.getElem?_append_left (by omega)]; exact e1, by rw [List.getElem?_append_left (by omega)]; exact e2⟩
  · have hil : i = l.length := by simp at h; omega
    subst hil
    rw [List.getElem_append_right (Nat.le_refl _)]
    simp only [Nat.sub_self, List.getElem_cons_zero]
    exact ⟨by rw [List.getElem?_append_right (by omega), hlen]; simp, by rw [List.getElem?_append_right (by omega), hlen, show l.length * 3 + 1 - l.length * 3 = 1 from by omega]; rfl, by rw [List.getElem?_append_right (by omega), hlen, show l.length * 3 + 2 - l.length * 3 = 2 from by omega]; rfl⟩
/-- As cells. -/
theorem ThL.cells {w : World} {B : Nat} {v : Value} {l : List Th} (h : ThL w B v l) : ∃ a cap, v = .slice a l.length cap ∧ l.length ≤ cap ∧ ∀ i (h : i < l.length), ∃ g, a = some ⟨g, 0, none⟩ ∧ v.ownBlock = some g ∧ w.cell? ⟨g, i * 3, none⟩ = some (.int .i64 l[i].h) ∧ w.cell? ⟨g, i * 3 + 1, none⟩ = some (.int .i64 l[i].f) ∧ w.cell? ⟨g, i * 3 + 2, none⟩ = some (.int .i64 l[i].e) := by
  obtain ⟨cells, ho, hi⟩ := h
  rcases ho.2 with ⟨rfl, h0⟩ | ⟨g, cap, cur, rfl, hb, hc, hn, hm, hcs, hcut⟩
  · have : l = [] := List.length_eq_zero_iff.1 h0
    subst this
    exact ⟨none, 0, rfl, Nat.le_refl _, fun i h => absurd h (by simp)⟩
  · refine ⟨_, cap, rfl, hn, fun i hlt => ?_⟩
    obtain ⟨e0, e1, e2⟩ := hi i hlt
    have hat : ∀ j u, j < l.length * 3 → cells[j]? = some u → w.cell? ⟨g, j, none⟩ = some u := fun j u hj hu => by
      rw [show w.cell? ⟨g, j, none⟩ = cur[j]? by simp [World.cell?, hc], ← hu, ← hcut, List.getElem?_take_of_lt hj]
      simp
    exact ⟨g, rfl, rfl, hat _ _ (by omega) e0, hat _ _ (by omega) e1, hat _ _ (by omega) e2⟩
def plOf (acc : List Th) : List (Int × Int) := (acc.zipIdx.map fun p => ((p.1.h : Int), (p.2 : Int))).reverse
theorem plOf_snoc (acc : List Th) (t : Th) : plOf (acc ++ [t]) = ((t.h : Int), (acc.length : Int)) :: plOf acc := by
  simp [plOf, List.zipIdx_append]
theorem plOf_length (acc : List Th) : (plOf acc).length = acc.length := by simp [plOf]
/-- The chart lies in block cb; it is the call's own from block B on. -/
structure Chart (w : World) (B cb : Nat) (a : Option Addr) (len cap : Nat) (l : List Wd) (v : Value) (acc : List Th) (pb mb : Nat) (ms : List (Int × Int)) : Prop where
  wds : Wds w B a l
  c0 : w.cell? ⟨cb, 0, none⟩ = some (.slice a len cap)
  c1 : w.cell? ⟨cb, 1, none⟩ = some v
  c2 : w.cell? ⟨cb, 2, none⟩ = some (.map (some pb))
  c3 : w.cell? ⟨cb, 3, none⟩ = some (.map (some mb))
  f1 : w.frozen? ⟨cb, 1, none⟩ = false
  row : ThL w B v acc
  pl : OwnsI w pb (plOf acc)
  mv : OwnsI w mb ms
  hcb : B ≤ cb
  hpb : B ≤ pb
  hmb : B ≤ mb
  n1 : ¬ cb = pb
  n2 : ¬ cb = mb
  n3 : ¬ pb = mb
  n4 : ∀ g, v.ownBlock = some g → ¬ g = cb ∧ ¬ g = pb ∧ ¬ g = mb
theorem Chart.lt {w : World} {B cb : Nat} {a : Option Addr} {len cap : Nat} {l : List Wd} {v : Value} {acc : List Th} {pb mb : Nat} {ms : List (Int × Int)} (h : Chart w B cb a len cap l v acc pb mb ms) : cb < w.heap.size := World.block_lt_of_cell? w _ h.c0
theorem Chart.below {w w' : World} {B cb : Nat} {a : Option Addr} {len cap : Nat} {l : List Wd} {v : Value} {acc : List Th} {pb mb : Nat} {ms : List (Int × Int)} (h : Chart w B cb a len cap l v acc pb mb ms) (hb : Below w.heap.size w w') : Chart w' B cb a len cap l v acc pb mb ms := by
  have hl := h.lt
  exact ⟨h.wds.below (hb.mono (by have := h.hcb; omega)), (hb.cell (p := ⟨cb, _, none⟩) hl).trans h.c0, (hb.cell (p := ⟨cb, _, none⟩) hl).trans h.c1, (hb.cell (p := ⟨cb, _, none⟩) hl).trans h.c2, (hb.cell (p := ⟨cb, _, none⟩) hl).trans h.c3, (hb.frozen (p := ⟨cb, _, none⟩) hl).trans h.f1,
    h.row.keep (fun b hv => hb.block b (h.row.own_lt hv).2), h.pl.keep (hb.block _ h.pl.lt), h.mv.keep (hb.block _ h.mv.lt), h.hcb, h.hpb, h.hmb, h.n1, h.n2, h.n3, h.n4⟩
/-- A pair more in the map of the things' places. -/
theorem Chart.placed {w w' : World} {B cb : Nat} {a : Option Addr} {len cap : Nat} {l : List Wd} {v : Value} {acc : List Th} {pb mb : Nat} {ms : List (Int × Int)} (h : Chart w B cb a len cap l v acc pb mb ms) (hg : w.grownBy w' (some pb)) :
    Wds w' B a l ∧ w'.cell? ⟨cb, 0, none⟩ = some (.slice a len cap) ∧ w'.cell? ⟨cb, 1, none⟩ = some v ∧ w'.cell? ⟨cb, 2, none⟩ = some (.map (some pb)) ∧ w'.cell? ⟨cb, 3, none⟩ = some (.map (some mb)) ∧ w'.frozen? ⟨cb, 1, none⟩ = false ∧ ThL w' B v acc ∧ OwnsI w' mb ms := by
  have hl := h.lt
  have hne : some cb ≠ some pb := fun e => h.n1 (by injection e)
  have hB : Below B w w' := (Below.refl _ _).grown hg (by have := h.hcb; omega) (fun j hj => by cases hj; exact h.hpb)
  exact ⟨h.wds.below hB, (hg.cell_far ⟨cb, _, none⟩ hl hne).trans h.c0, (hg.cell_far ⟨cb, _, none⟩ hl hne).trans h.c1, (hg.cell_far ⟨cb, _, none⟩ hl hne).trans h.c2, (hg.cell_far ⟨cb, _, none⟩ hl hne).trans h.c3, (hg.frozen_far ⟨cb, _, none⟩ hl hne).trans h.f1,
    h.row.keep (fun b hv => hg.block b (h.row.own_lt hv).2 (fun e => (h.n4 b hv).2.1 (by injection e))), h.mv.kept hg (fun e => h.n3 (by injection e with e; exact e.symm))⟩
end Go.Proofs.Ytfjfobpdlmdddaa

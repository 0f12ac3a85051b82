/- What is reached, brought together: P3.7 as plain functions; the bringer in memory. -/
import Derived.Test.YtfjfobpdlmdddaaHPart2
import Derived.Test.YtfjfobpdlmdddaaHWCopy
namespace Go.Proofs.Ytfjfobpdlmdddaa
set_option maxRecDepth 100000
open Go.RowKit Go.Maps
/-- What was brought: the words, and by where a thing began where it begins now, the last one first. -/
structure Br where
  ws : List Wd
  nw : List (Int × Int)
def endI (l : List Wd) (m : Int) : Nat := match tAt l m.toNat with
  | some p => p.2
  | none => m.toNat
/-- A value is brought. -/
def brg (l : List Wd) (ms : List (Int × Int)) (st : Br) (x : Wd) : Br × Wd :=
  if x.k = 5 then
    (if hasI st.nw (fndI ms x.n) = true then (st, ⟨5, valI st.nw (fndI ms x.n), x.s⟩)
     else (⟨st.ws ++ sub l (fndI ms x.n).toNat (endI l (fndI ms x.n)), (fndI ms x.n, (st.ws.length : Int)) :: st.nw⟩, ⟨5, (st.ws.length : Int), x.s⟩))
  else (st, x)
/-- Roots, one after the other. -/
def brgs (l : List Wd) (ms : List (Int × Int)) : Br → List Wd → Br × List Wd
  | st, [] => (st, [])
  | st, x :: r => ((brgs l ms (brg l ms st x).1 r).1, (brg l ms st x).2 :: (brgs l ms (brg l ms st x).1 r).2)
theorem brg_no {l : List Wd} {ms : List (Int × Int)} {st : Br} {x : Wd} (h : ¬ x.k = 5) : brg l ms st x = (st, x) := by unfold brg; rw [if_neg h]
theorem brg_old {l : List Wd} {ms : List (Int × Int)} {st : Br} {x : Wd} (h : x.k = 5) (h2 : hasI st.nw (fndI ms x.n) = true) : brg l ms st x = (st, ⟨5, valI st.nw (fndI ms x.n), x.s⟩) := by unfold brg; rw [if_pos h, if_pos h2]
theorem brg_new {l : List Wd} {ms : List (Int × Int)} {st : Br} {x : Wd} {t : Th} (h : x.k = 5) (h2 : hasI st.nw (fndI ms x.n) = false) (ht : fndI ms x.n = (t.h : Int)) (hta : tAt l t.h = some (t.f, t.e)) :
    brg l ms st x = (⟨st.ws ++ sub l t.h t.e, ((t.h : Int), (st.ws.length : Int)) :: st.nw⟩, ⟨5, (st.ws.length : Int), x.s⟩) := by
  unfold brg endI
  rw [if_pos h, h2, if_neg (by simp), ht, Int.toNat_natCast, hta]
theorem Chain.mem {l : List Wd} {acc : List Th} {a : Nat} (h : Chain l acc a) : ∀ t, t ∈ acc → t.h < l.length ∧ tAt l t.h = some (t.f, t.e) := by
  induction h with
  | nil => intro t ht; cases ht
  | snoc hc hl ht ih =>
    intro t hm
    rcases List.mem_append.1 hm with h | h
    · exact ih t h
    · simp only [List.mem_singleton] at h
      subst h
      exact ⟨hl, ht⟩
/-- The bringer lies in block cb, its chart ahead; all that it owns lies from block B on. -/
structure BrM (w : World) (B cb : Nat) (a : Option Addr) (len cap : Nat) (l : List Wd) (v : Value) (acc : List Th) (pb mb : Nat) (ms : List (Int × Int)) (nb : Nat) (u : Value) (st : Br) : Prop where
  ch : Chart w B cb a len cap l v acc pb mb ms
  c4 : w.cell? ⟨cb, 4, none⟩ = some u
  c5 : w.cell? ⟨cb, 5, none⟩ = some (.map (some nb))
  f4 : w.frozen? ⟨cb, 4, none⟩ = false
  row : WdL w B u st.ws
  nw : OwnsI w nb st.nw
  hnb : B ≤ nb
  n5 : ¬ nb = cb ∧ ¬ nb = pb ∧ ¬ nb = mb
  n6 : ∀ g, v.ownBlock = some g → ¬ g = nb
  n7 : ∀ g, u.ownBlock = some g → ¬ g = cb ∧ ¬ g = pb ∧ ¬ g = mb ∧ ¬ g = nb ∧ ¬ v.ownBlock = some g
theorem BrM.below {w w' : World} {B cb : Nat} {a : Option Addr} {len cap : Nat} {l : List Wd} {v : Value} {acc : List Th} {pb mb : Nat} {ms : List (Int × Int)} {nb : Nat} {u : Value} {st : Br} (h : BrM w B cb a len cap l v acc pb mb ms nb u st) (hb : Below w.heap.size w w') : BrM w' B cb a len cap l v acc pb mb ms nb u st := by
  have hl := h.ch.lt
  exact ⟨h.ch.below hb, (hb.cell (p := ⟨cb, _, none⟩) hl).trans h.c4, (hb.cell (p := ⟨cb, _, none⟩) hl).trans h.c5, (hb.frozen (p := ⟨cb, _, none⟩) hl).trans h.f4, h.row.keep (fun b hv => hb.block b (h.row.own_lt hv).2), h.nw.keep (hb.block _ h.nw.lt), h.hnb, h.n5, h.n6, h.n7⟩
/-- A chart whose blocks are as they were. -/
theorem Chart.kept {w w' : World} {B cb : Nat} {a : Option Addr} {len cap : Nat} {l : List Wd} {v : Value} {acc : List Th} {pb mb : Nat} {ms : List (Int × Int)} (h : Chart w B cb a len cap l v acc pb mb ms) (hB : Below B w w') (hk : ∀ b, b < w.heap.size → (b = cb ∨ b = pb ∨ b = mb ∨ v.ownBlock = some b) → w'.heap[b]? = w.heap[b]?) : Chart w' B cb a len cap l v acc pb mb ms := by
  have hc := hk cb h.lt (Or.inl rfl)
  exact ⟨h.wds.below hB, (World.cell?_of_block (w := w) (a := ⟨cb, _, none⟩) hc).trans h.c0, (World.cell?_of_block (w := w) (a := ⟨cb, _, none⟩) hc).trans h.c1, (World.cell?_of_block (w := w) (a := ⟨cb, _, none⟩) hc).trans h.c2, (World.cell?_of_block (w := w) (a := ⟨cb, _, none⟩) hc).trans h.c3, (World.frozen?_of_block (w := w) (a := ⟨cb, _, none⟩) hc).trans h.f1,
    h.row.keep (fun b hv => hk b (h.row.own_lt hv).2 (by simp [hv])), h.pl.keep (hk pb h.pl.lt (by simp)), h.mv.keep (hk mb h.mv.lt (by simp)), h.hcb, h.hpb, h.hmb, h.n1, h.n2, h.n3, h.n4⟩
/-- The bringer's own list is another one. -/
theorem Chart.set4 {w : World} {B cb : Nat} {a : Option Addr} {len cap : Nat} {l : List Wd} {v : Value} {acc : List Th} {pb mb : Nat} {ms : List (Int × Int)} (h : Chart w B cb a len cap l v acc pb mb ms) (y : Value) : Chart (w.setCell ⟨cb, 4, none⟩ y) B cb a len cap l v acc pb mb ms := by
  have hB : Below B w (w.setCell ⟨cb, 4, none⟩ y) := (Below.refl _ _).setCell (p := ⟨cb, 4, none⟩) h.hcb y
  have c : ∀ o, ¬ o = 4 → (w.setCell ⟨cb, 4, none⟩ y).cell? ⟨cb, o, none⟩ = w.cell? ⟨cb, o, none⟩ := fun o ho => World.cell?_setCell_other _ _ _ _ (by intro e; injection e with _ e; exact ho (by omega))
  have hoth : ∀ b, ¬ b = cb → (w.setCell ⟨cb, 4, none⟩ y).heap[b]? = w.heap[b]? := fun b hb => Below.heap_setCell _ _ _ _ hb
  exact ⟨h.wds.below hB, (c 0 (by decide)).trans h.c0, (c 1 (by decide)).trans h.c1, (c 2 (by decide)).trans h.c2, (c 3 (by decide)).trans h.c3, by simpa using h.f1,
    h.row.keep (fun b hv => hoth b (h.n4 b hv).1), h.pl.keep (hoth pb (fun e => h.n1 e.symm)), h.mv.keep (hoth mb (fun e => h.n2 e.symm)), h.hcb, h.hpb, h.hmb, h.n1, h.n2, h.n3, h.n4⟩
end Go.Proofs.Ytfjfobpdlmdddaa

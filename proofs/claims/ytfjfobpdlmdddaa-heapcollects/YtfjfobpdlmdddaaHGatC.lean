/- The document's CollectedOf tells what heap.Collect tells. -/
import Derived.Test.YtfjfobpdlmdddaaHGat
import Derived.Test.YtfjfobpdlmdddaaHColl
import Derived.Deep.RegionHeld3
namespace Go.Proofs.Ytfjfobpdlmdddaa
set_option maxRecDepth 100000
open Go.RowKit Go.Maps
section
variable {l : List Wd} {acc : List Th} {ms : List (Int × Int)} {lim : Int} {st : Br} {ord : List Th} {j p : Nat}
theorem Inv.nlen (h : Inv l acc st ord j p) : st.nw.length = ord.length := by rw [h.nw]; simp
theorem Inv.keys (h : Inv l acc st ord j p) : (st.nw.map (·.1)).Nodup := by
  have e : st.nw.map (·.1) = (ord.map fun t => (t.h : Int)).reverse := by
    rw [h.nw, List.map_reverse, List.map_map]
    congr 1
    have : (List.map ((fun x : Int × Int => x.1) ∘ fun q : Th × Nat => ((q.1.h : Int), (offT ord q.2 : Int))) ord.zipIdx) = (ord.zipIdx.map Prod.fst).map (fun t => (t.h : Int)) := by rw [List.map_map]; rfl
    rw [this, List.zipIdx_map_fst]
  rw [e]
  unfold List.Nodup
  rw [List.pairwise_reverse]
  exact List.pairwise_map.2 (h.nod.imp (fun hab e => hab (by omega)))
theorem Inv.kys_at (h : Inv l acc st ord j p) (i : Nat) (hi : i < ord.length) : (kys st.nw)[i]? = some (ord[i].h : Int) ∧ (vls st.nw)[i]? = some (offT ord i : Int) := by
  unfold kys vls
  rw [List.getElem?_map, List.getElem?_map, h.at i hi]
  exact ⟨rfl, rfl⟩
/-- The value that stands at a place of a thing, as it was. -/
theorem Inv.vB (h : Inv l acc st ord j p) (hok : OkC lim l acc ms) (hj : j < ord.length) (hf : ord[j].f - ord[j].h ≤ p) (hpz : p < szT ord[j]) : ∃ x, l[ord[j].h + p]? = some x ∧ valB (plOf acc) x.k x.n x.s = true := by
  have hm := h.mem _ (List.getElem_mem hj)
  have hta := (hok.chain.mem _ hm).2
  have hle := tAt_le hta
  unfold szT at hpz
  have hlt : ord[j].h + p < l.length := by omega
  refine ⟨l[ord[j].h + p], List.getElem?_eq_getElem hlt, ?_⟩
  have h1 := (List.all_eq_true.1 hok.vals) _ hm
  unfold thB at h1
  have h2 := h.kin _ (List.getElem_mem hj)
  simp only [Bool.or_eq_true, decide_eq_true_eq] at h1
  rcases h1 with h1 | h1
  · exact absurd h1 h2
  · unfold allB at h1
    have hl2 : p - (ord[j].f - ord[j].h) < (sub l ord[j].f ord[j].e).length := by rw [sub_length hle.2.2]; omega
    obtain ⟨hb, e⟩ := sub_at (l := l) hle.2.2 hl2
    have h3 := (List.all_eq_true.1 h1) _ (List.getElem_mem hl2)
    rw [e] at h3
    have e2 : ord[j].f + (p - (ord[j].f - ord[j].h)) = ord[j].h + p := by omega
    simp only [e2] at h3
    exact h3
end
theorem InS.old {l : List Wd} {acc : List Th} {ms : List (Int × Int)} {lim : Int} {ord : List Th} {j : Nat} {hj : j < ord.length} {V : Br} {k : Nat} {st : Br} (h : InS l acc ms ord j hj V k st) (hok : OkC lim l acc ms) (hf : ord[j].f - ord[j].h ≤ k) (hk : k < szT ord[j]) :
    ∃ x : Wd, l[ord[j].h + k]? = some x ∧ valB (plOf acc) x.k x.n x.s = true ∧ InS l acc ms ord j hj V (k + 1) ⟨(brg l ms st x).1.ws.set (offT ord j + k) (brg l ms st x).2, (brg l ms st x).1.nw⟩ := by
  obtain ⟨r, hI, hV⟩ := h
  have eg : (ord ++ r)[j]'(by simp; omega) = ord[j] := List.getElem_append_left hj
  have eo := offT_apps ord r j (by omega)
  obtain ⟨x, h1, h2⟩ := hI.vB hok (by simp; omega) (by rw [eg]; exact hf) (by rw [eg]; exact hk)
  obtain ⟨e, r2, hI2⟩ := hI.step hok (by simp; omega) (by rw [eg]; exact hf) (by rw [eg]; exact hk) h1 (fun h5 => (val_ref h2 h5).2)
  rw [eg, eo] at e hI2
  rw [eg] at h1
  refine ⟨x, h1, h2, r ++ r2, ?_, ?_⟩
  · rw [← e, ← List.append_assoc]; exact hI2
  · rw [hV, vals_step l ms _ _ st k _ hk, e]
theorem InS.keys {l : List Wd} {acc : List Th} {ms : List (Int × Int)} {ord : List Th} {j : Nat} {hj : j < ord.length} {V : Br} {k : Nat} {st : Br} (h : InS l acc ms ord j hj V k st) : (st.nw.map (·.1)).Nodup ∧ (kys st.nw)[j]? = some (ord[j].h : Int) ∧ (vls st.nw)[j]? = some (offT ord j : Int) ∧ j < st.nw.length := by
  obtain ⟨r, hI, _⟩ := h
  have hj2 : j < (ord ++ r).length := by simp; omega
  have eg : (ord ++ r)[j] = ord[j] := List.getElem_append_left hj
  have eo := offT_apps ord r j (by omega)
  have ha := hI.kys_at j hj2
  rw [eg, eo] at ha
  exact ⟨hI.keys, ha.1, ha.2, by rw [hI.nlen]; exact hj2⟩
/-- A word of what was brought together is another one. -/
theorem GatM.put {w : World} {B gb : Nat} {a : Option Addr} {len cap : Nat} {l : List Wd} {vw vi : Value} {P Q : List Int} {W : List Wd} {g n capu : Nat} (h : GatM w B gb a len cap l vw vi (.slice (some ⟨g, 0, none⟩) n capu) P Q W) {q : Nat} (hq : q < W.length) (x : Wd) (w' : World) (hw' : w' = set3 w g (q * 3) (.int .i64 x.k) (.int .i64 x.n) (.string x.s)) :
    GatM w' B gb a len cap l vw vi (.slice (some ⟨g, 0, none⟩) n capu) P Q (W.set q x) ∧ Below B w w' ∧ ∀ b, ¬ b = g → w'.heap[b]? = w.heap[b]? := by
  subst hw'
  have n3 := h.n3 g rfl
  have hg := h.row.own_lt (g := g) rfl
  have hoth : ∀ b, ¬ b = g → (set3 w g (q * 3) (.int .i64 x.k) (.int .i64 x.n) (.string x.s)).heap[b]? = w.heap[b]? := fun b hb => by
    rw [Below.heap_setCell _ _ _ _ (by dsimp only; omega), Below.heap_setCell _ _ _ _ (by dsimp only; omega), Below.heap_setCell _ _ _ _ (by dsimp only; omega)]
  have hB : Below B w (set3 w g (q * 3) (.int .i64 x.k) (.int .i64 x.n) (.string x.s)) := (((Below.refl _ _).setCell (p := ⟨g, _, none⟩) hg.1 _).setCell (p := ⟨g, _, none⟩) hg.1 _).setCell (p := ⟨g, _, none⟩) hg.1 _
  have hc := hoth gb (fun e => n3 e.symm)
  exact ⟨⟨h.wds.below hB, (World.cell?_of_block (w := w) (a := ⟨gb, _, none⟩) hc).trans h.c0, (World.cell?_of_block (w := w) (a := ⟨gb, _, none⟩) hc).trans h.c1, (World.cell?_of_block (w := w) (a := ⟨gb, _, none⟩) hc).trans h.c2, (World.cell?_of_block (w := w) (a := ⟨gb, _, none⟩) hc).trans h.c3,
    (World.frozen?_of_block (w := w) (a := ⟨gb, _, none⟩) hc).trans h.f1, (World.frozen?_of_block (w := w) (a := ⟨gb, _, none⟩) hc).trans h.f2, (World.frozen?_of_block (w := w) (a := ⟨gb, _, none⟩) hc).trans h.f3,
    h.was.keep (fun b hb => hoth b (fun e => (h.n1 b hb).2.2 (by rw [e]; rfl))), h.is.keep (fun b hb => hoth b (fun e => (h.n2 b hb).2 (by rw [e]; rfl))), h.row.put hq x, h.hgb, h.n1, h.n2, h.n3⟩, hB, hoth⟩
/-- Behind a world w: what has been brought together now, and what is as it was. -/
structure PSg (w : World) (B gb : Nat) (a : Option Addr) (len cap : Nat) (l : List Wd) (vw vi u : Value) (wr : World) (st' : Br) (vw' vi' u' : Value) : Prop where
  M : GatM wr B gb a len cap l vw' vi' u' (kys st'.nw) (vls st'.nw) st'.ws
  bel : Below B w wr
  keep : ∀ b, b < w.heap.size → ¬ b = gb → ¬ vw.ownBlock = some b → ¬ vi.ownBlock = some b → ¬ u.ownBlock = some b → wr.heap[b]? = w.heap[b]?
  ow : ∀ g, vw'.ownBlock = some g → vw.ownBlock = some g ∨ w.heap.size ≤ g
  oi : ∀ g, vi'.ownBlock = some g → vi.ownBlock = some g ∨ w.heap.size ≤ g
  ou : ∀ g, u'.ownBlock = some g → u.ownBlock = some g ∨ w.heap.size ≤ g
section
variable {w : World} {B gb : Nat} {a : Option Addr} {len cap : Nat} {l : List Wd} {vw vi u : Value} {wr : World} {st' : Br} {vw' vi' u' : Value}
theorem PSg.refl (h : GatM w B gb a len cap l vw vi u (kys st'.nw) (vls st'.nw) st'.ws) : PSg w B gb a len cap l vw vi u w st' vw vi u := ⟨h, Below.refl _ _, fun _ _ _ _ _ _ => rfl, fun _ h => Or.inl h, fun _ h => Or.inl h, fun _ h => Or.inl h⟩
theorem PSg.below (h : PSg w B gb a len cap l vw vi u wr st' vw' vi' u') {w2 : World} (hb : Below wr.heap.size wr w2) : PSg w B gb a len cap l vw vi u w2 st' vw' vi' u' := by
  have hz := h.bel.size
  have hB : B ≤ wr.heap.size := by have := h.M.hgb; have := h.M.lt; omega
  exact ⟨h.M.below hb, h.bel.trans (hb.mono hB), fun b h1 h2 h3 h4 h5 => (hb.block b (by omega)).trans (h.keep b h1 h2 h3 h4 h5), h.ow, h.oi, h.ou⟩
theorem PSg.trans {w2 : World} {st2 : Br} {vw2 vi2 u2 : Value} (h : PSg w B gb a len cap l vw vi u wr st' vw' vi' u') (k : PSg wr B gb a len cap l vw' vi' u' w2 st2 vw2 vi2 u2) : PSg w B gb a len cap l vw vi u w2 st2 vw2 vi2 u2 := by
  have hz := h.bel.size
  refine ⟨k.M, h.bel.trans k.bel, fun b h1 h2 h3 h4 h5 => (k.keep b (by omega) h2 (fun e => ?_) (fun e => ?_) (fun e => ?_)).trans (h.keep b h1 h2 h3 h4 h5), fun g hg => ?_, fun g hg => ?_, fun g hg => ?_⟩
  · rcases h.ow b e with h6 | h6
    · exact h3 h6
    · omega
  · rcases h.oi b e with h6 | h6
    · exact h4 h6
    · omega
  · rcases h.ou b e with h6 | h6
    · exact h5 h6
    · omega
  · rcases k.ow g hg with h6 | h6
    · exact h.ow g h6
    · exact Or.inr (by omega)
  · rcases k.oi g hg with h6 | h6
    · exact h.oi g h6
    · exact Or.inr (by omega)
  · rcases k.ou g hg with h6 | h6
    · exact h.ou g h6
    · exact Or.inr (by omega)
end
theorem gat_born {w : World} {B : Nat} {a : Option Addr} {len cap : Nat} {l : List Wd} (h : Wds w B a l) (hB : B ≤ w.heap.size) (W : World) (hW : W = w.alloc (.cells #[.slice a len cap, .slice none 0 0, .slice none 0 0, .slice none 0 0] 67)) :
    GatM W B w.heap.size a len cap l (.slice none 0 0) (.slice none 0 0) (.slice none 0 0) [] [] [] ∧ Below w.heap.size w W ∧ W.heap.size = w.heap.size + 1 := by
  have hb : Below w.heap.size w W := by rw [hW]; exact (Below.refl _ _).alloc (Nat.le_refl _) _
  refine ⟨⟨h.below (hb.mono hB), ?_, ?_, ?_, ?_, ?_, ?_, ?_, IntL.nil _ _, IntL.nil _ _, WdL.nil _ _, hB, (fun g hg => by cases hg), (fun g hg => by cases hg), (fun g hg => by cases hg)⟩, hb, by rw [hW]; simp⟩
  all_goals (rw [hW]; go_simp)
/-- A row that is none of those that are gathered. -/
def SepG (gb : Nat) (vw vi u vr : Value) : Prop := ∀ g, vr.ownBlock = some g → ¬ g = gb ∧ ¬ vw.ownBlock = some g ∧ ¬ vi.ownBlock = some g ∧ ¬ u.ownBlock = some g
theorem GatM.at1 {w : World} {B gb : Nat} {a : Option Addr} {len cap : Nat} {l : List Wd} {vw vi u : Value} {P Q : List Int} {W : List Wd} (h : GatM w B gb a len cap l vw vi u P Q W) {j n : Nat} {x : Int} (hn : P.length = n) (hx : P[j]? = some x) :
    ∃ g c, vw = .slice (some ⟨g, 0, none⟩) n c ∧ n ≤ c ∧ w.cell? ⟨g, j, none⟩ = some (.int .i64 x) ∧ g < w.heap.size ∧ ¬ g = gb ∧ vw.ownBlock = some g ∧ j < n := by
  obtain ⟨hj, hx⟩ := List.getElem?_eq_some_iff.1 hx
  obtain ⟨a, c, e, hc, hr⟩ := h.was.cells
  obtain ⟨g, rfl, ho, hcell⟩ := hr j hj
  exact ⟨g, c, by rw [e, hn], by omega, by rw [hcell, hx], h.lts g (Or.inr (Or.inl ho)), (h.n1 g ho).1, ho, by omega⟩
theorem GatM.at2 {w : World} {B gb : Nat} {a : Option Addr} {len cap : Nat} {l : List Wd} {vw vi u : Value} {P Q : List Int} {W : List Wd} (h : GatM w B gb a len cap l vw vi u P Q W) {j n : Nat} {x : Int} (hn : Q.length = n) (hx : Q[j]? = some x) :
    ∃ g c, vi = .slice (some ⟨g, 0, none⟩) n c ∧ n ≤ c ∧ w.cell? ⟨g, j, none⟩ = some (.int .i64 x) ∧ g < w.heap.size ∧ ¬ g = gb ∧ vi.ownBlock = some g ∧ j < n := by
  obtain ⟨hj, hx⟩ := List.getElem?_eq_some_iff.1 hx
  obtain ⟨a, c, e, hc, hr⟩ := h.is.cells
  obtain ⟨g, rfl, ho, hcell⟩ := hr j hj
  exact ⟨g, c, by rw [e, hn], by omega, by rw [hcell, hx], h.lts g (Or.inr (Or.inr (Or.inl ho))), (h.n2 g ho).1, ho, by omega⟩
/-- A value that was brought lies in a box of its own. -/
structure CutG (wq wx : World) (g : Nat) (x : Wd) (B gb : Nat) (a : Option Addr) (len cap : Nat) (l : List Wd) (vw vi u : Value) (st' : Br) (vw' vi' u' : Value) : Prop where
  P : PSg wq B gb a len cap l vw vi u wx st' vw' vi' u'
  glt : g < wx.heap.size
  gge : wq.heap.size ≤ g
  c0 : wx.cell? ⟨g, 0, none⟩ = some (.int .i64 x.k)
  c1 : wx.cell? ⟨g, 1, none⟩ = some (.int .i64 x.n)
  c2 : wx.cell? ⟨g, 2, none⟩ = some (.string x.s)
  no : ∀ b, (b = gb ∨ vw'.ownBlock = some b ∨ vi'.ownBlock = some b ∨ u'.ownBlock = some b) → ¬ b = g
section
variable {wq w1 w5 : World} {x : Wd} {B gb : Nat} {a : Option Addr} {len cap : Nat} {l : List Wd} {vw vi u : Value} {st' : Br} {vw' vi' u' : Value} {P0 Q0 : List Int} {W0 : List Wd}
theorem cutG_alloc {t : TypeId} (h : PSg wq B gb a len cap l vw vi u w5 st' vw' vi' u') : CutG wq (w5.alloc (.cells #[.int .i64 x.k, .int .i64 x.n, .string x.s] t)) w5.heap.size x B gb a len cap l vw vi u st' vw' vi' u' :=
  ⟨h.below ((Below.refl _ _).alloc (Nat.le_refl _) _), by simp, h.bel.size, by go_simp, by go_simp, by go_simp, fun b hb => by have := h.M.lts b hb; omega⟩
theorem cutG_set {g : Nat} {y0 y1 y2 : Value} (hM : GatM wq B gb a len cap l vw vi u P0 Q0 W0) (hb : Below wq.heap.size wq w1) (hg1 : g < w1.heap.size) (hg : wq.heap.size ≤ g) (h : PSg w1 B gb a len cap l vw vi u w5 st' vw' vi' u') (b0 : w5.cell? ⟨g, 0, none⟩ = some y0) (b1 : w5.cell? ⟨g, 1, none⟩ = some y1) (b2 : w5.cell? ⟨g, 2, none⟩ = some y2) :
    CutG wq (((w5.setCell ⟨g, 0, none⟩ (.int .i64 x.k)).setCell ⟨g, 1, none⟩ (.int .i64 x.n)).setCell ⟨g, 2, none⟩ (.string x.s)) g x B gb a len cap l vw vi u st' vw' vi' u' := by
  have hz := hb.size
  have hz5 := h.bel.size
  have hlt := hM.lt
  have hgb := hM.hgb
  have hl := hM.lts
  have hne : ∀ b, (b = gb ∨ vw'.ownBlock = some b ∨ vi'.ownBlock = some b ∨ u'.ownBlock = some b) → ¬ b = g := fun b hb e => by
    subst e
    rcases hb with rfl | hb | hb | hb
    · omega
    · rcases h.ow _ hb with q | q
      · have := hl _ (Or.inr (Or.inl q)); omega
      · omega
    · rcases h.oi _ hb with q | q
      · have := hl _ (Or.inr (Or.inr (Or.inl q))); omega
      · omega
    · rcases h.ou _ hb with q | q
      · have := hl _ (Or.inr (Or.inr (Or.inr q))); omega
      · omega
  have hoth : ∀ b, ¬ b = g → (((w5.setCell ⟨g, 0, none⟩ (.int .i64 x.k)).setCell ⟨g, 1, none⟩ (.int .i64 x.n)).setCell ⟨g, 2, none⟩ (.string x.s)).heap[b]? = w5.heap[b]? := fun b hb => by
    rw [Below.heap_setCell _ _ _ _ hb, Below.heap_setCell _ _ _ _ hb, Below.heap_setCell _ _ _ _ hb]
  have hB : Below B w5 (((w5.setCell ⟨g, 0, none⟩ (.int .i64 x.k)).setCell ⟨g, 1, none⟩ (.int .i64 x.n)).setCell ⟨g, 2, none⟩ (.string x.s)) := below_set3s (Below.refl _ _) (by omega)
  refine ⟨⟨h.M.kept hB (fun b _ hb => hoth b (hne b hb)), (hb.mono (by omega)).trans (h.bel.trans hB), fun b q1 q2 q3 q4 q5 => (hoth b (by omega)).trans ((h.keep b (by omega) q2 q3 q4 q5).trans (hb.block b q1)), fun g' hg' => (h.ow g' hg').imp id (fun q => by omega), fun g' hg' => (h.oi g' hg').imp id (fun q => by omega), fun g' hg' => (h.ou g' hg').imp id (fun q => by omega)⟩, by simpa using (by omega : g < w5.heap.size), hg, by simp [go_sem, b0], by simp [go_sem, b1], by simp [go_sem, b2], hne⟩
theorem psg_box {g : Nat} {z0 z1 z2 : Value} (hM : GatM wq B gb a len cap l vw vi u P0 Q0 W0) (hg1 : g < w1.heap.size) (hg : wq.heap.size ≤ g) (h : PSg w1 B gb a len cap l vw vi u w5 st' vw' vi' u') (b0 : w1.cell? ⟨g, 0, none⟩ = some z0) (b1 : w1.cell? ⟨g, 1, none⟩ = some z1) (b2 : w1.cell? ⟨g, 2, none⟩ = some z2) (e0 : w1.frozen? ⟨g, 0, none⟩ = false) (e1 : w1.frozen? ⟨g, 1, none⟩ = false) (e2 : w1.frozen? ⟨g, 2, none⟩ = false) :
    (w5.cell? ⟨g, 0, none⟩ = some z0 ∧ w5.cell? ⟨g, 1, none⟩ = some z1 ∧ w5.cell? ⟨g, 2, none⟩ = some z2) ∧ (w5.frozen? ⟨g, 0, none⟩ = false ∧ w5.frozen? ⟨g, 1, none⟩ = false ∧ w5.frozen? ⟨g, 2, none⟩ = false) ∧ g < w5.heap.size := by
  have hl := hM.lts
  have hlt := hM.lt
  have hk := h.keep g hg1 (by omega) (fun e => by have := hl _ (Or.inr (Or.inl e)); omega) (fun e => by have := hl _ (Or.inr (Or.inr (Or.inl e))); omega) (fun e => by have := hl _ (Or.inr (Or.inr (Or.inr e))); omega)
  have hz := h.bel.size
  exact ⟨⟨(World.cell?_of_block (w := w1) (a := ⟨g, _, none⟩) hk).trans b0, (World.cell?_of_block (w := w1) (a := ⟨g, _, none⟩) hk).trans b1, (World.cell?_of_block (w := w1) (a := ⟨g, _, none⟩) hk).trans b2⟩, ⟨(World.frozen?_of_block (w := w1) (a := ⟨g, _, none⟩) hk).trans e0, (World.frozen?_of_block (w := w1) (a := ⟨g, _, none⟩) hk).trans e1, (World.frozen?_of_block (w := w1) (a := ⟨g, _, none⟩) hk).trans e2⟩, by omega⟩
theorem psg_boxA {z0 z1 z2 : Value} {t : TypeId} (hM : GatM wq B gb a len cap l vw vi u P0 Q0 W0) (h : PSg (wq.alloc (.cells #[z0, z1, z2] t)).drew B gb a len cap l vw vi u w5 st' vw' vi' u') :
    (w5.cell? ⟨wq.heap.size, 0, none⟩ = some z0 ∧ w5.cell? ⟨wq.heap.size, 1, none⟩ = some z1 ∧ w5.cell? ⟨wq.heap.size, 2, none⟩ = some z2) ∧ (w5.frozen? ⟨wq.heap.size, 0, none⟩ = false ∧ w5.frozen? ⟨wq.heap.size, 1, none⟩ = false ∧ w5.frozen? ⟨wq.heap.size, 2, none⟩ = false) ∧ wq.heap.size < w5.heap.size :=
  psg_box hM (by simp) (Nat.le_refl _) h (by go_simp) (by go_simp) (by go_simp) (by go_simp) (by go_simp) (by go_simp)
theorem psg_boxB {z0 z1 z2 : Value} {t : TypeId} (hM : GatM wq B gb a len cap l vw vi u P0 Q0 W0) (h : PSg (wq.drew.alloc (.cells #[z0, z1, z2] t)) B gb a len cap l vw vi u w5 st' vw' vi' u') :
    (w5.cell? ⟨wq.heap.size, 0, none⟩ = some z0 ∧ w5.cell? ⟨wq.heap.size, 1, none⟩ = some z1 ∧ w5.cell? ⟨wq.heap.size, 2, none⟩ = some z2) ∧ (w5.frozen? ⟨wq.heap.size, 0, none⟩ = false ∧ w5.frozen? ⟨wq.heap.size, 1, none⟩ = false ∧ w5.frozen? ⟨wq.heap.size, 2, none⟩ = false) ∧ wq.heap.size < w5.heap.size :=
  psg_box hM (by simp) (Nat.le_refl _) h (by show (wq.drew.alloc _).cell? ⟨wq.drew.heap.size, 0, none⟩ = _; go_simp) (by show (wq.drew.alloc _).cell? ⟨wq.drew.heap.size, 1, none⟩ = _; go_simp) (by show (wq.drew.alloc _).cell? ⟨wq.drew.heap.size, 2, none⟩ = _; go_simp) (by go_simp) (by go_simp) (by go_simp)
theorem PSg.nodrew (h : PSg wq.drew B gb a len cap l vw vi u w5 st' vw' vi' u') : PSg wq B gb a len cap l vw vi u w5 st' vw' vi' u' := ⟨h.M, undrew h.bel, h.keep, h.ow, h.oi, h.ou⟩
theorem PSg.put {g n capu : Nat} (h : GatM wq B gb a len cap l vw vi (.slice (some ⟨g, 0, none⟩) n capu) (kys st'.nw) (vls st'.nw) st'.ws) {q : Nat} (hq : q < st'.ws.length) (y : Wd) (w' : World) (hw' : w' = set3 wq g (q * 3) (.int .i64 y.k) (.int .i64 y.n) (.string y.s)) :
    PSg wq B gb a len cap l vw vi (.slice (some ⟨g, 0, none⟩) n capu) w' ⟨st'.ws.set q y, st'.nw⟩ vw vi (.slice (some ⟨g, 0, none⟩) n capu) := by
  obtain ⟨h1, h2, h3⟩ := h.put hq y w' hw'
  exact ⟨h1, h2, fun b _ _ _ _ hu => h3 b (fun e => hu (by rw [e]; rfl)), fun _ h => Or.inl h, fun _ h => Or.inl h, fun _ h => Or.inl h⟩
end
theorem oth3 (w : World) (g b i j k : Nat) (x y z : Value) (hb : ¬ b = g) : (((w.setCell ⟨g, i, none⟩ x).setCell ⟨g, j, none⟩ y).setCell ⟨g, k, none⟩ z).heap[b]? = w.heap[b]? := by
  rw [Below.heap_setCell _ _ _ _ hb, Below.heap_setCell _ _ _ _ hb, Below.heap_setCell _ _ _ _ hb]
set_option maxHeartbeats 4000000 in
/-- The roots and what comes behind them. -/
theorem CollectedOf_any (w : World) (B : Nat) (a : Option Addr) (len cap : Nat) (l : List Wd) (lim : Int) (hW : Wds w B a l) (hB : B ≤ w.heap.size) (hlen : len = l.length) (hcap : len ≤ cap) (hl : len ≤ 9223372036854775807)
    (ra : Option Addr) (rl rc : Nat) (R : List Wd) (hR : Wds w B ra R) (hrl : rl = R.length) (hrb : rl * 32 ≤ 140737488355328) (l' : List Wd) (lim' : Int) (R' : List Wd) (r : Int) (hd : CoI lim l R l' lim' R' r) :
    Calls Try.prog 12 #[.agg #[.slice a len cap, .int .i64 lim], .slice ra rl rc] w fun e w' => ∃ a' cap' ra' rcap', e = .returned (.tuple #[.agg #[.slice a' (List.length l') cap', .int .i64 lim'], .slice ra' (List.length R') rcap', .int .i64 r]) ∧ List.length l' ≤ cap' ∧ List.length R' ≤ rcap' ∧ Wds w' w'.heap.size a' l' ∧ Wds w' w'.heap.size ra' R' ∧ Below w.heap.size w w' := by
  have HL := hid hlen
  have HRl := hid hrl
  clear hlen hrl
  obtain ⟨w2, hw2⟩ : ∃ w2, w2 = (w.alloc (.cells #[.slice a len cap, .int .i64 lim] 24)).alloc (.cells #[.slice none 0 0, .int .i64 0] 24) := ⟨_, rfl⟩
  have hb2 : Below w.heap.size w w2 := by rw [hw2]; exact below_2 _ _ _
  have hz2 : w2.heap.size = w.heap.size + 2 := by rw [hw2]; simp
  have HBx := hid (fun w' (h : Below (w.heap.size + 2) w2 w') => bx22 (v0 := .slice a len cap) (v1 := .int .i64 lim) (r0 := .slice none 0 0) (r1 := .int .i64 0) (t := 24) (t' := 24) (by rw [← hw2]; exact h))
  have HBl := hid (fun w' (h : Below (w.heap.size + 2) w2 w') => (by
    refine ⟨(h.cell (p := ⟨w.heap.size, 1, none⟩) (by dsimp only; omega)).trans ?_, by have := h.size; omega⟩
    rw [hw2]; go_simp : w'.cell? ⟨w.heap.size, 1, none⟩ = some (.int .i64 lim) ∧ w.heap.size + 2 ≤ w'.heap.size))
  have hC := HeapMay_any w2 B a len cap l lim (hW.below (hb2.mono hB)) (by omega) HL.out hl
  rw [hz2, hw2] at hC
  have HC := hid hC
  have H2 := hid hw2
  have HB2 := hid hb2
  have HZ2 := hid hz2
  have HD := hid hd
  clear hC hw2 hb2 hz2 hd
  go_enter Try.func12, Try.ntmps12
  go_wp2_with fail
  have hcall := HC.out
  go_fit hcall
  clear hcall
  rw [← H2.out]
  rintro e w4 ⟨hb4, ⟨rfl, hokR⟩ | ⟨rfl, hbadR⟩⟩
  · obtain ⟨acc, ms, hok, hcs⟩ : ∃ acc ms, OkC lim l acc ms ∧ ((allB (plOf acc) R = false ∧ r = 3 ∧ l' = [] ∧ lim' = 0 ∧ R' = []) ∨ (allB (plOf acc) R = true ∧ r = 0 ∧ l' = (partsV l ms 60001 (brgs l ms ⟨[], []⟩ R).1 0).ws ∧ lim' = lim ∧ R' = (brgs l ms ⟨[], []⟩ R).2)) := by
      rcases HD.out with ⟨_, h, _⟩ | ⟨h1, ⟨acc, ms, h2, h3⟩, h4⟩ | ⟨h1, acc, ms, h2, h3, h4⟩
      · exact (bad_not_ok h hokR).elim
      · exact ⟨acc, ms, h2, Or.inl ⟨h3, h1, h4⟩⟩
      · exact ⟨acc, ms, h2, Or.inr ⟨h3, h1, h4⟩⟩
    have hl6 : len ≤ 60000 := by have := hok.hi; have := hok.room; have := HL.out; omega
    have HOk := hid hok
    have HCs := hid hcs
    have HB4 := hid hb4
    have hz4 := hb4.size
    have hz2 := HZ2.out
    have hbw4 : Below w.heap.size w w4 := HB2.out.trans (hb4.mono (by omega))
    have HBw4 := hid hbw4
    have HRin := hid (fun wr (hb : Below w4.heap.size w4 wr) => hR.below ((hbw4.trans (hb.mono (by omega))).mono hB))
    have HVm := hid (fun wr (hb : Below w4.heap.size w4 wr) q (hq : q < R.length) => (by
      have h := ValueMay_any wr B a len cap l lim R[q].k R[q].n R[q].s (hW.below ((hbw4.trans (hb.mono (by omega))).mono hB)) (by have := hb.size; omega) HL.out hl6 acc hok.chain.ref
      rw [HL.out, ← val_ok hok.chain, ← HL.out] at h
      exact h : Calls Try.prog 29 #[.agg #[.slice a len cap, .int .i64 lim], .agg #[.int .i64 R[q].k, .int .i64 R[q].n, .string R[q].s]] wr fun e w' => e = .returned (.bool (valB (plOf acc) R[q].k R[q].n R[q].s)) ∧ Below wr.heap.size wr w'))
    clear hok hcs hokR hb4 hbw4
    go_wp2_with fail
    go_loopw [7] (fun i wr => ∃ q : Nat, q ≤ rl ∧ i = .int .i64 q ∧ (∀ x (_ : x < q) (hx2 : x < R.length), valB (plOf acc) R[x].k R[x].n R[x].s = true) ∧ Below w4.heap.size w4 wr) (fun i _ => rl - (intOf i).toNat)
    case atStart => exact ⟨0, Nat.zero_le _, rfl, fun x hx => absurd hx (by omega), Below.refl _ _⟩
    case round =>
      obtain ⟨q, hq, rfl, hall, hbr⟩ := hrel
      have HAll := hid hall
      have HBr := hid hbr
      have hzr := hbr.size
      obtain ⟨y0, y1, r0, r1, f0, f1⟩ := HBx.out wr (HB4.out.trans (hbr.mono (by omega)))
      obtain ⟨yl, _⟩ := HBl.out wr (HB4.out.trans (hbr.mono (by omega)))
      by_cases hlt : q < rl
      · have hlt2 : (q : Int) < rl := by omega
        have hqR : q < R.length := by rw [← HRl.out]; exact hlt
        obtain ⟨bb, o, rfl, hbb, c0, c1, c2⟩ := HRin.out wr hbr q hqR
        have HV := hid (fun w' (hb : Below wr.heap.size wr w') => (HVm.out w' (hbr.trans (hb.mono hzr)) q hqR).mono (fun e w'' h => (⟨h.1, hb.trans (h.2.mono hb.size)⟩ : e = .returned (.bool (valB (plOf acc) R[q].k R[q].n R[q].s)) ∧ Below wr.heap.size wr w'')))
        have HStep := hid (fun x (hx : x < q + 1) (hx2 : x < R.length) (h : valB (plOf acc) R[q].k R[q].n R[q].s = true) => (by
          by_cases hxq : x = q
          · subst hxq; exact h
          · exact HAll.out x (by omega) hx2 : valB (plOf acc) R[x].k R[x].n R[x].s = true))
        have HNo := hid (fun (h : valB (plOf acc) R[q].k R[q].n R[q].s = false) => allB_no hqR h)
        have HK := hid (fun w' (hb : Below wr.heap.size wr w') => (⟨(hb.cell (p := ⟨w.heap.size, 0, none⟩) (by dsimp only; omega)).trans y0, (hb.cell (p := ⟨w.heap.size, 1, none⟩) (by dsimp only; omega)).trans yl, (hb.cell (p := ⟨bb, _, none⟩) (by dsimp only; omega)).trans c0, (hb.cell (p := ⟨bb, _, none⟩) (by dsimp only; omega)).trans c1, (hb.cell (p := ⟨bb, _, none⟩) (by dsimp only; omega)).trans c2⟩ : w'.cell? ⟨w.heap.size, 0, none⟩ = some (.slice a len cap) ∧ w'.cell? ⟨w.heap.size, 1, none⟩ = some (.int .i64 lim) ∧ w'.cell? ⟨bb, o + q * 3, none⟩ = some (.int .i64 R[q].k) ∧ w'.cell? ⟨bb, o + q * 3 + 1, none⟩ = some (.int .i64 R[q].n) ∧ w'.cell? ⟨bb, o + q * 3 + 2, none⟩ = some (.string R[q].s)))
        generalize valB (plOf acc) R[q].k R[q].n R[q].s = vb at *
        generalize R[q].k = xk at *
        generalize R[q].n = xn at *
        generalize R[q].s = xs at *
        clear hall hbr r0 r1 f0 f1
        go_wp2_with fail
        go_upto_region 6 with fail
        go_cut [33] (fun z wx => z = .bool (!vb) ∧ Below wr.heap.size wr wx)
        case first =>
          go_region_with (go_at_call 29; refine ((HV.out _ (by first | exact bdrew (Below.refl _ _) 1 | exact Below.refl _ _)).mono ?_); rintro e w5 ⟨rfl, hb5⟩)
          all_goals (go_wp2_with fail; go_meet)
          all_goals exact ⟨rfl, hb5⟩
        case rest =>
          obtain ⟨wa, rfl⟩ : ∃ wa, wa = wc := ⟨_, rfl⟩
          obtain ⟨rfl, hba⟩ := hcut
          have hbra := HBr.out.trans (hba.mono hzr)
          have HBra := hid hbra
          have hza := hba.size
          cases vb
          · obtain ⟨rfl, rfl, rfl, rfl⟩ : r = 3 ∧ l' = [] ∧ lim' = 0 ∧ R' = [] := by
              have hno := HNo.out rfl
              rcases HCs.out with ⟨_, h1, h2⟩ | ⟨h1, _⟩
              · exact ⟨h1, h2⟩
              · rw [h1] at hno; cases hno
            obtain ⟨x0, x1, r0, r1, f0, f1⟩ := HBx.out wa (HB4.out.trans (hbra.mono (by omega)))
            have HBf := hid (HBw4.out.trans (hbra.mono (by omega)))
            have hlx : w.heap.size + 1 < wa.heap.size := by omega
            clear hba hbra y0 y1 yl c0 c1 c2
            go_wp2_with fail
            refine bodyPost_ret (v := .tuple #[.agg #[.slice none 0 0, .int .i64 0], .slice none 0 0, .int .i64 3]) (by simp [results, Try.results12, go_sem, r0, r1]) rfl ?_
            exact ⟨none, 0, none, ⟨0, rfl⟩, fun i hi => absurd hi (by simp), fun i hi => absurd hi (by simp), (HBf.out.setCell (p := ⟨w.heap.size + 1, 0, none⟩) (by dsimp only; omega) _).setCell (p := ⟨w.heap.size + 1, 1, none⟩) (by dsimp only; omega) _⟩
          · have HSt := hid (fun x hx hx2 => HStep.out x hx hx2 rfl)
            clear hba hbra y0 y1 yl c0 c1 c2
            go_wp2_with fail
            go_roundw
            case rel => exact ⟨q + 1, by omega, by go_num, HSt.out, HBra.out⟩
            case measure => simp [intOf]; omega
      · obtain rfl : rl = q := by omega
        have hlt2 : ¬ (rl : Int) < rl := by omega
        have hallT : allB (plOf acc) R = true := by
          unfold allB
          rw [List.all_eq_true]
          intro x hx
          obtain ⟨i, hi, rfl⟩ := List.getElem_of_mem hx
          exact hall i (by have := HRl.out; omega) hi
        obtain ⟨rfl, rfl, hlm, rfl⟩ : r = 0 ∧ l' = (partsV l ms 60001 (brgs l ms ⟨[], []⟩ R).1 0).ws ∧ lim' = lim ∧ R' = (brgs l ms ⟨[], []⟩ R).2 := by
          rcases HCs.out with ⟨h1, _⟩ | ⟨_, h1, h2⟩
          · rw [hallT] at h1; cases h1
          · exact ⟨h1, h2⟩
        obtain rfl := hlm.symm
        have HAllT := hid hallT
        have HV5 := hid (all_refs hallT)
        have HV5s := hid (fun x (hx : x ∈ R) => (List.all_eq_true.1 hallT x hx : valB (plOf acc) x.k x.n x.s = true))
        have hWr : Wds wr (w.heap.size + 2) a l := (hW.below ((HBw4.out.trans (hbr.mono (by omega))).mono hB)).mono (by omega)
        obtain ⟨w5, hw5⟩ : ∃ w5, w5 = wr.alloc (.cells #[.slice a len cap, .slice none 0 0, .slice none 0 0, .slice none 0 0] 67) := ⟨_, rfl⟩
        obtain ⟨hM5, hb5, hz5⟩ := gat_born (len := len) (cap := cap) hWr (by omega) w5 hw5
        have H5 := hid hw5
        have HM5 := hid hM5
        have hb25 : Below (w.heap.size + 2) w2 w5 := (HB4.out.trans (hbr.mono (by omega))).trans (hb5.mono (by omega))
        have hbw5 : Below w.heap.size w w5 := HB2.out.trans (hb25.mono (by omega))
        have HB25 := hid hb25
        have HBw5 := hid hbw5
        have HInv := hid (fun q => Inv.brgs HOk.out (R.take q) ⟨[], []⟩ [] (Inv.empty l acc) (fun x hx => HV5.out x (List.mem_of_mem_take hx)))
        clear hall hbr hallT hW hM5 hw5 hb5 hb25 hbw5 hWr r0 r1 f0 f1
        go_wp2_with fail
        rw [← H5.out]
        have hz5' := hz5
        generalize hgb : wr.heap.size = gb at *
        clear hgb
        go_loopw [9, 10] (fun vr i wq => ∃ q : Nat, q ≤ rl ∧ i = .int .i64 q ∧ WdL wq (w.heap.size + 2) vr (brgs l ms ⟨[], []⟩ (R.take q)).2 ∧ (∃ vw vi u, GatM wq (w.heap.size + 2) gb a len cap l vw vi u (kys (brgs l ms ⟨[], []⟩ (R.take q)).1.nw) (vls (brgs l ms ⟨[], []⟩ (R.take q)).1.nw) (brgs l ms ⟨[], []⟩ (R.take q)).1.ws ∧ SepG gb vw vi u vr) ∧ Below (w.heap.size + 2) w5 wq) (fun _ i _ => rl - (intOf i).toNat)
        case atStart => exact ⟨0, Nat.zero_le _, rfl, WdL.nil _ _, ⟨_, _, _, HM5.out, fun g hg => by cases hg⟩, Below.refl _ _⟩
        case round =>
          obtain ⟨q, hq, rfl, hvr, ⟨vw, vi, u, hMr, hsep⟩, hbr⟩ := hrel
          by_cases hlt : q < rl
          · have hlt2 : (q : Int) < rl := by omega
            have hq2 : q < R.length := by rw [← HRl.out]; exact hlt
            have hzr := hbr.size
            have hbwr : Below w.heap.size w wr := HBw5.out.trans (hbr.mono (by omega))
            obtain ⟨b, o, rfl, hbB, c0, c1, c2⟩ := (hR.below (hbwr.mono hB)) q hq2
            have hvx := HV5s.out R[q] (List.getElem_mem hq2)
            have hsn := brgs_snoc l ms R[q] (R.take q) ⟨[], []⟩
            rw [← List.take_succ_eq_append_getElem hq2] at hsn
            have hln := brgs_len l ms (R.take q) ⟨[], []⟩
            rw [List.length_take, Nat.min_eq_left (by omega)] at hln
            obtain ⟨ord', hI'⟩ := HInv.out q
            obtain ⟨hw6, hn6, _⟩ := hI'.small HOk.out.chain
            have hnd := hI'.keys
            have hr6 := HOk.out.room
            have hh6 := HOk.out.hi
            have HSn := hid hsn
            have HNd := hid hnd
            clear hsn hI' hnd
            generalize R[q] = x at *
            obtain ⟨k, n, s⟩ := x
            generalize brgs l ms ⟨[], []⟩ (R.take q) = S at *
            obtain ⟨st', out⟩ := S
            dsimp only at *
            have hBr : w.heap.size + 2 ≤ wr.heap.size := by have := hMr.hgb; have := hMr.lt; omega
            have HC := hid (gbring_any wr (w.heap.size + 2) gb a len cap l vw vi u st' lim acc ms hMr HOk.out HL.out hcap (by omega) (by omega) HNd.out k n s (fun h5 => val_ref hvx h5))
            have HVr := hid hvr
            have HSep := hid hsep
            have HBr := hid hbr
            have HMr := hid hMr
            clear hvr hMr hsep hbr hvx hbwr
            go_wp2_with fail
            have hcall := HC.out
            go_fit hcall
            clear hcall
            rintro e w6 ⟨rfl, hb6, ⟨vw2, vi2, u2, hM2, how, hoi, hou⟩, hk2⟩
            have hz6 := hb6.size
            have hgl : ∀ g, u9.ownBlock = some g → g < wr.heap.size := fun g hg => (HVr.out.own_lt hg).2
            have hv2 : WdL w6 (w.heap.size + 2) u9 out := HVr.out.keep (fun g hg => hk2 g (hgl g hg) (HSep.out g hg).1 (HSep.out g hg).2.1 (HSep.out g hg).2.2.1)
            have hs2 : SepG gb vw2 vi2 u2 u9 := fun g hg => ⟨(HSep.out g hg).1, fun e => by
              rcases how g e with h | h
              · exact (HSep.out g hg).2.1 h
              · have := hgl g hg; omega, fun e => by
              rcases hoi g e with h | h
              · exact (HSep.out g hg).2.2.1 h
              · have := hgl g hg; omega, fun e => by
              rcases hou g e with h | h
              · exact (HSep.out g hg).2.2.2 h
              · have := hgl g hg; omega⟩
            generalize brg l ms st' ⟨k, n, s⟩ = bg at *
            obtain ⟨st2, ⟨k2, n2, s2⟩⟩ := bg
            dsimp only at *
            obtain ⟨w7, hw7⟩ : ∃ w7, w7 = (w6.alloc (.cells #[.int .i64 k2, .int .i64 n2, .string s2] 37)).alloc (.cells #[.int .i64 k2, .int .i64 n2, .string s2] 37) := ⟨_, rfl⟩
            have hb7 : Below w6.heap.size w6 w7 := by rw [hw7]; exact below_2 _ _ _
            have hz7 : w7.heap.size = w6.heap.size + 2 := by rw [hw7]; simp
            have hnews : ∀ j x, [Value.int .i64 k2, .int .i64 n2, .string s2][j]? = some x → w7.cell? ((⟨w6.heap.size + 1, 0, none⟩ : Addr).add j) = some x := by
              rw [hw7]
              have h := news3v (w6.alloc (.cells #[.int .i64 k2, .int .i64 n2, .string s2] 37)) (.int .i64 k2) (.int .i64 n2) (.string s2) 37
              simpa using h
            have hv3 := hv2.keep (w' := w7) (fun g hg => hb7.block g (hv2.own_lt hg).2)
            have HOwn : Hid (World.ownsRow w7 (w.heap.size + 2) 37 3 u9 q (wcs out)) := hid (by rw [← hln]; exact hv3)
            have HM7 := hid (hM2.below hb7)
            have HBB := hid (HBr.out.trans (hb6.trans (hb7.mono (by omega))))
            have HS2 := hid hs2
            have HLt := hid (fun g (hg : u9.ownBlock = some g) => (hv3.own_lt hg))
            have hq32 : (q + 1) * 32 ≤ 140737488355328 := by omega
            have hB7 : w.heap.size + 2 ≤ w7.heap.size := by omega
            have HLn := hid hln
            have HNews := hid hnews
            have H7 := hid hw7
            have HZ7 := hid hz7
            obtain ⟨i0, hi, iz0, iz1, iz2⟩ := info_parts infoWd
            have HI := hid hi
            have HZ0 := hid iz0
            have HZ1 := hid iz1
            have HZ2 := hid iz2
            clear hi iz0 iz1 iz2 hv2 hs2 hv3 hb7 hM2 how hoi hou hk2 hb6 hgl hln hnews hw7 hz7
            go_wp2_with (at_builtin; rw [← H7.out]; refine wpList_append_lies _ rfl _ _ 22 rfl (w.heap.size + 2) 37 i0 (.agg #[.int .i64 0, .int .i64 0, .string ⟨#[]⟩]) 3 32 Try.underlying22 HI.out HZ0.out HZ1.out HZ2.out rfl (by decide) _ q (wcs out) rfl HOwn.out ⟨w6.heap.size + 1, 0, none⟩ 1 1 [.int .i64 k2, .int .i64 n2, .string s2] rfl rfl HNews.out (by simp [Value.oneCell']) (by decide) (by unfold maxLen; omega) (by omega) hB7 _ rfl ?_; intro g3 cap3 w8 hown8 hgrow8 hat8 hlt8)
            go_wp2_with fail
            go_roundw
            case rel =>
              have hb8 : Below (w.heap.size + 2) w7 w8 := (Below.refl _ _).grown hgrow8 hB7 (fun j hj => (HLt.out j hj).1)
              refine ⟨q + 1, by omega, by go_num, ?_, ⟨vw2, vi2, u2, ?_, ?_⟩, HBB.out.trans hb8⟩
              · rw [HSn.out]
                unfold WdL
                rw [wcs_append, List.length_append, HLn.out]
                exact hown8
              · rw [HSn.out]
                refine HM7.out.kept hb8 (fun b hb hx => hgrow8.block b hb (fun e => ?_))
                have h := HS2.out b e.symm
                rcases hx with hx | hx | hx | hx
                · exact h.1 hx
                · exact h.2.1 hx
                · exact h.2.2.1 hx
                · exact h.2.2.2 hx
              · intro g hg
                simp [Value.ownBlock] at hg
                subst hg
                rcases hat8 with h | h
                · exact HS2.out _ h
                · have hl := HM7.out.lts
                  refine ⟨fun e => ?_, fun e => ?_, fun e => ?_, fun e => ?_⟩
                  · have := hl gb (by simp); omega
                  · have := hl _ (Or.inr (Or.inl e)); omega
                  · have := hl _ (Or.inr (Or.inr (Or.inl e))); omega
                  · have := hl _ (Or.inr (Or.inr (Or.inr e))); omega
            case measure => simp [intOf]; omega
          · have hlt2 : ¬ (q : Int) < rl := by omega
            have hkn : R.take q = R := List.take_of_length_le (by rw [← HRl.out]; omega)
            rw [hkn] at hvr hMr
            obtain ⟨ord1, hI1⟩ := HInv.out q
            rw [hkn] at hI1
            have HI1 := hid hI1
            have HVr := hid hvr
            have HMr := hid hMr
            have HSep := hid hsep
            have HBr := hid hbr
            generalize hst1 : (brgs l ms ⟨[], []⟩ R).1 = st1 at *
            generalize hR1 : (brgs l ms ⟨[], []⟩ R).2 = out1 at *
            generalize hFin : partsV l ms 60001 st1 0 = FIN at *
            have HFin := hid hFin
            have HSt1 := hid hst1
            have HR1 := hid hR1
            clear hvr hMr hsep hbr hkn hst1 hR1 hFin hI1
            go_wp2_with fail
            go_loopw [12] (fun i wq => ∃ (j : Nat) (st' : Br) (ord' : List Th) (vw' vi' u' : Value), i = .int .i64 j ∧ j ≤ ord'.length ∧ Inv l acc st' ord' j 0 ∧ PSg wr (w.heap.size + 2) gb a len cap l vw vi u wq st' vw' vi' u' ∧ FIN = partsV l ms (60001 - j) st' j) (fun i _ => 60001 - (intOf i).toNat)
            case atStart => exact ⟨0, st1, ord1, vw, vi, u, rfl, Nat.zero_le _, HI1.out, PSg.refl HMr.out, HFin.out.symm⟩
            case round =>
              obtain ⟨w8, rfl⟩ : ∃ w8, w8 = wr := ⟨_, rfl⟩
              obtain ⟨j, st', ord', vw', vi', u', rfl, hj, hI', hP, hF⟩ := hrel
              obtain ⟨hw6, hn6, ho6⟩ := hI'.small HOk.out.chain
              have hnl := hI'.nlen
              have HF := hid hF
              have HP := hid hP
              have HI := hid hI'
              have hgl := hP.M.lt
              have HNl := hid hnl
              have hl60 : l.length ≤ 60000 := by have := HOk.out.hi; have := HOk.out.room; omega
              by_cases hlt : j < ord'.length
              · obtain ⟨gw, capw, hvw, hcw, dw, hgw, hgwn, _, hjN⟩ := hP.M.at1 (n := ord'.length) (by rw [kys_length, hnl]) (hI'.kys_at j hlt).1
                obtain ⟨gi, capi, hvi, hci, di, hgi, _, _, _⟩ := hP.M.at2 (n := ord'.length) (by rw [vls_length, hnl]) (hI'.kys_at j hlt).2
                have c0 := hP.M.c0
                have c1 := hP.M.c1
                have c2 := hP.M.c2
                rw [hvw] at c1
                rw [hvi] at c2
                have htr := gat_tref HOk.out (hI'.mem _ (List.getElem_mem hlt))
                have hta := (HOk.out.chain.mem _ (hI'.mem _ (List.getElem_mem hlt))).2
                have hle := tAt_le hta
                have HSt := hid (parts_step (ms := ms) (n := 60000 - j) hI' HOk.out.chain hlt)
                rw [show 60000 - j + 1 = 60001 - j by omega, show 60000 - j = 60001 - (j + 1) by omega] at HSt
                have hs0 : InS l acc ms ord' j hlt (valsV l ms ord'[j].h (offT ord' j) st' (ord'[j].f - ord'[j].h) (szT ord'[j] - (ord'[j].f - ord'[j].h))) (ord'[j].f - ord'[j].h) st' := ⟨[], by rw [List.append_nil]; exact hI'.skip (Nat.zero_le _), rfl⟩
                have HS0 := hid hs0
                have HF2 := hid (HF.out.trans HSt.out)
                have HStp := hid (fun k st'' (h : InS l acc ms ord' j hlt (valsV l ms ord'[j].h (offT ord' j) st' (ord'[j].f - ord'[j].h) (szT ord'[j] - (ord'[j].f - ord'[j].h))) k st'') (h1 : ord'[j].f - ord'[j].h ≤ k) (h2 : k < szT ord'[j]) => h.old HOk.out h1 h2)
                have HSm := hid (fun k st'' (h : InS l acc ms ord' j hlt (valsV l ms ord'[j].h (offT ord' j) st' (ord'[j].f - ord'[j].h) (szT ord'[j] - (ord'[j].f - ord'[j].h))) k st'') => And.intro (h.small HOk.out) h.keys)
                have HDn := hid (fun st'' (h : InS l acc ms ord' j hlt (valsV l ms ord'[j].h (offT ord' j) st' (ord'[j].f - ord'[j].h) (szT ord'[j] - (ord'[j].f - ord'[j].h))) (szT ord'[j]) st'') => h.done)
                have hsz : szT ord'[j] = ord'[j].e - ord'[j].h := rfl
                generalize valsV l ms ord'[j].h (offT ord' j) st' (ord'[j].f - ord'[j].h) (szT ord'[j] - (ord'[j].f - ord'[j].h)) = V at *
                have hfs : ord'[j].f - ord'[j].h ≤ szT ord'[j] := by omega
                have hz1 : 0 < szT ord'[j] := by omega
                have hse : ord'[j].h + szT ord'[j] ≤ l.length := by omega
                have hTe : (ord'[j].e : Int) - (ord'[j].h : Nat) = (szT ord'[j] : Int) := by omega
                have hTf : (ord'[j].f : Int) - (ord'[j].h : Nat) = ((ord'[j].f - ord'[j].h : Nat) : Int) := by omega
                have HTh := hid (fun w' (hb : Below w8.heap.size w8 w') => (by
                  have h := thing_any w' (w.heap.size + 2) a l len cap ord'[j].h HL.out (by have := HL.out; omega) (by have := HL.out; omega) (by have := hb.size; have := hP.M.hgb; omega) (hP.M.below hb).wds
                  rw [htr] at h
                  dsimp only [thV] at h
                  rw [hTe, hTf] at h
                  exact h.mono (fun e w'' h => ⟨h.1, hb.trans (h.2.mono hb.size)⟩) : Calls Try.prog 31 #[.slice a len cap, .int .i64 (ord'[j].h : Int)] w' fun e w'' => e = .returned (.tuple #[.int .i64 (szT ord'[j] : Int), .int .i64 ((ord'[j].f - ord'[j].h : Nat) : Int)]) ∧ Below w8.heap.size w8 w''))
                generalize hth : ord'[j].h = th at *
                generalize ord'[j].f - th = fr at *
                generalize szT ord'[j] = sz at *
                generalize offT ord' j = off at *
                obtain ⟨Nn, hNn⟩ : ∃ Nn, Nn = ord'.length := ⟨_, rfl⟩
                rw [← hNn] at hvw hvi c1 c2 hcw hci hjN ho6 hnl
                have HNn := hid hNn
                have HHth := hid hth
                have hjN2 : (j : Int) < Nn := by omega
                clear hta hle htr hsz HSt hs0 HF hTe hTf hnl hI' hF hth hNn hvw hvi hlt2
                go_wp2_with fail
                go_upto_region 18 with fail
                go_cut [13, 14] (fun z13 z14 wx => z13 = .int .i64 (sz : Int) ∧ z14 = .int .i64 (fr : Int) ∧ Below w8.heap.size w8 wx)
                case first =>
                  go_region_with (go_at_call 31; refine (HTh.out _ (by first | exact bdrew (Below.refl _ _) 1 | exact Below.refl _ _)).mono ?_; rintro e w9 ⟨rfl, hb9⟩)
                  all_goals (go_wp2_with fail; go_meet)
                  all_goals exact ⟨rfl, rfl, hb9⟩
                case rest =>
                  obtain ⟨w9, rfl⟩ : ∃ w9, w9 = wc := ⟨_, rfl⟩
                  obtain ⟨rfl, rfl, hb9⟩ := hcut
                  have HP9 := hid (hP.below hb9)
                  clear hb9 hP c0 c1 c2 dw di
                  go_wp2_with fail
                  go_loopw [15] (fun i wq => ∃ (k : Nat) (st'' : Br) (vw'' vi'' u'' : Value), i = .int .i64 k ∧ fr ≤ k ∧ k ≤ sz ∧ InS l acc ms ord' j hlt V k st'' ∧ PSg w9 (w.heap.size + 2) gb a len cap l vw' vi' u' wq st'' vw'' vi'' u'') (fun i _ => sz - (intOf i).toNat)
                  case atStart => exact ⟨fr, st', vw', vi', u', rfl, Nat.le_refl _, hfs, HS0.out, PSg.refl HP9.out.M⟩
                  case round =>
                    obtain ⟨wq, rfl⟩ : ∃ wq, wq = wr := ⟨_, rfl⟩
                    obtain ⟨k, st'', vw'', vi'', u'', rfl, hk1, hk2, hIS, hPq⟩ := hrel
                    obtain ⟨⟨hs1, hs2, hs3⟩, hnd, hkj, hvj, hjn⟩ := HSm.out k st'' hIS
                    have hzq := hPq.bel.size
                    have HIS := hid hIS
                    have HPq := hid hPq
                    by_cases hks : k < sz
                    · have hks2 : (k : Int) < sz := by omega
                      obtain ⟨x, hx1, hx2, hx3⟩ := HStp.out k st'' hIS hk1 hks
                      obtain ⟨hil, hxe⟩ := List.getElem?_eq_some_iff.1 hx1
                      obtain ⟨ii, hii⟩ : ∃ ii, ii = th + k := ⟨_, rfl⟩
                      obtain ⟨oi, hoi⟩ : ∃ oi, oi = off + k := ⟨_, rfl⟩
                      have HOi := hid hoi
                      have jj1 : (th : Int) + (k : Int) = (ii : Int) := by omega
                      have jj0 : IntKind.i64.wrap (ii : Int) = (ii : Int) := by simp [IntKind.wrap, IntKind.bits, IntKind.signed]; omega
                      have jj2 : (ii : Int) < len := by have := HL.out; omega
                      obtain ⟨gw2, capw2, hvw2, hcw2, dw, hgw2, hgwn2, _, hjN3⟩ := hPq.M.at1 (n := st''.nw.length) (by rw [kys_length]) hkj
                      have c0 := hPq.M.c0
                      have c1 := hPq.M.c1
                      rw [hvw2] at c1
                      have hgl2 := hPq.M.lt
                      obtain ⟨bl, ol, e1, hbl, d0, d1, d2⟩ := hPq.M.wds ii (by omega)
                      subst e1
                      have hblq : bl < wq.heap.size := by have := hPq.M.hgb; omega
                      have hxe2 : l[ii]'(by omega) = x := by subst hii; exact hxe
                      rw [hxe2] at d0 d1 d2
                      obtain ⟨xk, xn, xs⟩ := x
                      dsimp only at d0 d1 d2 hx2
                      have HC := hid (fun w' (hb : Below wq.heap.size wq w') => (by
                        have h := gbring_any w' (w.heap.size + 2) gb (some ⟨bl, ol, none⟩) len cap l vw'' vi'' u'' st'' lim acc ms (hPq.M.below hb) HOk.out HL.out hcap hs1 hs2 hnd xk xn xs (fun h5 => val_ref hx2 h5)
                        refine h.mono (fun e w'' h => ?_)
                        obtain ⟨h1, h2, ⟨vw3, vi3, u3, h3, h4, h5, h6⟩, h7⟩ := h
                        exact ⟨h1, vw3, vi3, u3, h3, h2, fun b q1 q2 q3 q4 _ => h7 b q1 q2 q3 q4, h4, h5, h6⟩ : Calls Try.prog 30 #[.pointer (some ⟨gb, 0, none⟩), .agg #[.int .i64 xk, .int .i64 xn, .string xs]] w' fun e w'' => e = .returned (.agg #[.int .i64 (brg l ms st'' ⟨xk, xn, xs⟩).2.k, .int .i64 (brg l ms st'' ⟨xk, xn, xs⟩).2.n, .string (brg l ms st'' ⟨xk, xn, xs⟩).2.s]) ∧ ∃ vw3 vi3 u3, PSg w' (w.heap.size + 2) gb (some ⟨bl, ol, none⟩) len cap l vw'' vi'' u'' w'' (brg l ms st'' ⟨xk, xn, xs⟩).1 vw3 vi3 u3))
                      have HX3 := hid hx3
                      have HMq := hid hPq.M
                      have hjq : (j : Int) < st''.nw.length := by omega
                      generalize brg l ms st'' ⟨xk, xn, xs⟩ = bg at *
                      obtain ⟨st3, ⟨yk, yn, ys⟩⟩ := bg
                      dsimp only at HC HX3
                      generalize st''.nw.length = n2 at *
                      clear hIS hPq hx1 hx2 hx3 hil hxe hxe2 hii hoi hkj hvj hnd hvw2
                      go_wp2_with fail
                      go_upto_region 22 with fail
                      go_cut [16] (fun z wx => ∃ g vw3 vi3 u3, z = .pointer (some ⟨g, 0, none⟩) ∧ CutG wq wx g ⟨yk, yn, ys⟩ (w.heap.size + 2) gb (some ⟨bl, ol, none⟩) len cap l vw'' vi'' u'' st3 vw3 vi3 u3)
                      case first =>
                        go_region_with (go_at_call 30; refine (HC.out _ (by first | exact bdrew (Below.refl _ _) 1 | exact bdrew ((Below.refl _ _).alloc (Nat.le_refl _) _) 1 | exact (bdrew (Below.refl _ _) 1).alloc (Nat.le_refl _) _)).mono ?_; rintro e w10 ⟨rfl, vw3, vi3, u3, hP10⟩; first | (have bx := psg_boxA HMq.out hP10; obtain ⟨⟨b0, b1, b2⟩, ⟨e0, e1, e2⟩, bl⟩ := bx) | (have bx := psg_boxB HMq.out hP10; obtain ⟨⟨b0, b1, b2⟩, ⟨e0, e1, e2⟩, bl⟩ := bx) | skip)
                        all_goals (go_wp2_with fail; go_meet)
                        all_goals first
                          | exact ⟨_, vw3, vi3, u3, rfl, cutG_alloc (x := ⟨yk, yn, ys⟩) hP10.nodrew⟩
                          | exact ⟨_, vw3, vi3, u3, rfl, cutG_set (x := ⟨yk, yn, ys⟩) HMq.out (by first | exact bdrew ((Below.refl _ _).alloc (Nat.le_refl _) _) 1 | exact (bdrew (Below.refl _ _) 1).alloc (Nat.le_refl _) _) (by simp) (Nat.le_refl _) hP10 b0 b1 b2⟩
                      case rest =>
                        obtain ⟨w11, rfl⟩ : ∃ w11, w11 = wc := ⟨_, rfl⟩
                        obtain ⟨g, vw3, vi3, u3, rfl, hc⟩ := hcut
                        have hsm4 := HSm.out (k + 1) _ HX3.out
                        dsimp only at hsm4
                        rw [List.length_set] at hsm4
                        obtain ⟨⟨hs4, hn4, ho4⟩, _, _, hv4, hj4⟩ := hsm4
                        have hi4 : oi < st3.ws.length := by have := HOi.out; omega
                        obtain ⟨gu, capu, hu4e, hc4, hBu, hgul, hWu, hfu⟩ := hc.P.M.row.open (by omega)
                        subst hu4e
                        obtain ⟨b', o', e', _, p0, p1, p2⟩ := hWu oi hi4
                        injection e' with e'; injection e' with e1 e2
                        subst e1 e2
                        rw [Nat.zero_add] at p0 p1 p2
                        generalize st3.ws[oi].k = z0 at p0
                        generalize st3.ws[oi].n = z1 at p1
                        generalize st3.ws[oi].s = z2 at p2
                        obtain ⟨gi2, capi2, hvi2, hci2, di2, hgi2, hgin2, hgio, hjN4⟩ := hc.P.M.at2 (n := st3.nw.length) (by rw [vls_length]) hv4
                        have b2 := hc.P.M.c2
                        have b3 := hc.P.M.c3
                        rw [hvi2] at b2
                        have f0 := hfu (oi * 3)
                        have f1 := hfu (oi * 3 + 1)
                        have f2 := hfu (oi * 3 + 2)
                        have hgl3 := hc.P.M.lt
                        have x0 := hc.c0
                        have x1 := hc.c1
                        have x2 := hc.c2
                        dsimp only at x0 x1 x2
                        have hne1 : ¬ gu = g := hc.no gu (Or.inr (Or.inr (Or.inr rfl)))
                        have hne2 : ¬ gu = gb := hc.P.M.n3 gu rfl
                        have hnb1 : ¬ g = gu := fun e => hne1 e.symm
                        have hnb2 : ¬ gb = gu := fun e => hne2 e.symm
                        have hnb3 : ¬ gi2 = gu := fun e => (hc.P.M.n2 gi2 hgio).2 (by rw [e]; rfl)
                        have HPut := hid (fun W hW => PSg.put hc.P.M hi4 ⟨yk, yn, ys⟩ W hW)
                        have HCt := hid hc.P
                        have jk1 : (off : Int) + (k : Int) = (oi : Int) := by have := HOi.out; omega
                        have jk0 : IntKind.i64.wrap (oi : Int) = (oi : Int) := by simp [IntKind.wrap, IntKind.bits, IntKind.signed]; omega
                        have jk2 : (oi : Int) < st3.ws.length := by omega
                        have jk3 : (j : Int) < st3.nw.length := by omega
                        have hn46 : (st3.ws.length : Int) ≤ 60000 := by omega
                        clear hWu hfu hc hv4 hvi2 hgio c0 c1 d0 d1 d2 dw jj0 jj1 jj2
                        generalize st3.ws.length = n4 at *
                        generalize st3.nw.length = n5 at *
                        have HS := hid (fun (w' : World) (h1 : w'.heap[gb]? = w11.heap[gb]?) (h2 : w'.heap[gi2]? = w11.heap[gi2]?) (h3 : w'.heap[g]? = w11.heap[g]?) => (⟨(World.cell?_of_block (w := w11) (a := ⟨gb, 3, none⟩) h1).trans b3, (World.cell?_of_block (w := w11) (a := ⟨gb, 2, none⟩) h1).trans b2, (World.cell?_of_block (w := w11) (a := ⟨gi2, j, none⟩) h2).trans di2, (World.cell?_of_block (w := w11) (a := ⟨g, 0, none⟩) h3).trans x0, (World.cell?_of_block (w := w11) (a := ⟨g, 1, none⟩) h3).trans x1, (World.cell?_of_block (w := w11) (a := ⟨g, 2, none⟩) h3).trans x2⟩ : w'.cell? ⟨gb, 3, none⟩ = some (.slice (some ⟨gu, 0, none⟩) n4 capu) ∧ w'.cell? ⟨gb, 2, none⟩ = some (.slice (some ⟨gi2, 0, none⟩) n5 capi2) ∧ w'.cell? ⟨gi2, j, none⟩ = some (.int .i64 (off : Int)) ∧ w'.cell? ⟨g, 0, none⟩ = some (.int .i64 yk) ∧ w'.cell? ⟨g, 1, none⟩ = some (.int .i64 yn) ∧ w'.cell? ⟨g, 2, none⟩ = some (.string ys)))
                        go_wp2_with fail
                        go_upto_region 23 with fail
                        go_region_held3 (fun w' => w'.cell? ⟨gb, 3, none⟩ = some (.slice (some ⟨gu, 0, none⟩) n4 capu) ∧ w'.cell? ⟨gb, 2, none⟩ = some (.slice (some ⟨gi2, 0, none⟩) n5 capi2) ∧ w'.cell? ⟨gi2, j, none⟩ = some (.int .i64 (off : Int)) ∧ w'.cell? ⟨g, 0, none⟩ = some (.int .i64 yk) ∧ w'.cell? ⟨g, 1, none⟩ = some (.int .i64 yn) ∧ w'.cell? ⟨g, 2, none⟩ = some (.string ys))
                          ((refine HS.out _ ?_ ?_ ?_; all_goals first | rfl | exact oth3 _ _ _ _ _ _ _ _ _ (by assumption)))
                          (fail)
                        all_goals
                          go_wp2_with fail
                          go_roundw
                          case rel =>
                            have hP3 := HPq.out.trans (HCt.out.trans ((HPut.out _ rfl).below (bdrew (Below.refl _ _) 1)))
                            exact ⟨k + 1, ⟨st3.ws.set oi ⟨yk, yn, ys⟩, st3.nw⟩, vw3, vi3, .slice (some ⟨gu, 0, none⟩) n4 capu, by go_num, by omega, by omega, by rw [HOi.out]; exact HX3.out, hP3⟩
                          case measure => simp [intOf]; omega
                    · have hks2 : ¬ (k : Int) < sz := by omega
                      obtain rfl : k = sz := by omega
                      have HE := hid (HDn.out st'' hIS)
                      clear hIS hPq hnd hkj hvj
                      go_wp2_with fail
                      go_roundw
                      case rel =>
                        obtain ⟨hV, r, hI2, ho2, hj2⟩ := HE.out
                        exact ⟨j + 1, st'', ord' ++ r, vw'', vi'', u'', by go_num, hj2, hI2, HP9.out.trans HPq.out, by rw [← hV]; exact HF2.out⟩
                      case measure => simp [intOf]; omega
              · have hjl : j = ord'.length := by omega
                subst hjl
                have e1 := parts_end (ms := ms) (n := 60000 - ord'.length) hI' hlt
                rw [show 60000 - ord'.length + 1 = 60001 - ord'.length by omega] at e1
                have hFe : FIN = st' := HF.out.trans e1
                subst hFe
                obtain ⟨ai, capi, hvi, _, _⟩ := hP.M.is.cells
                rw [vls_length, hnl] at hvi
                have c2 := hP.M.c2
                have c3 := hP.M.c3
                rw [hvi] at c2
                have hnlt : ¬ (ord'.length : Int) < ord'.length := by omega
                have hB27 := (HB25.out.trans HBr.out).trans hP.bel
                obtain ⟨x0, x1, r0, r1, f0, f1⟩ := HBx.out _ hB27
                obtain ⟨xl, hzl⟩ := HBl.out _ hB27
                have hv7 := HVr.out.keep (w' := w8) (fun g hg => hP.keep g (HVr.out.own_lt hg).2 (HSep.out g hg).1 (HSep.out g hg).2.1 (HSep.out g hg).2.2.1 (HSep.out g hg).2.2.2)
                obtain ⟨a7, cap7, hu7, hc7, _, _, _⟩ := hP.M.row.cells
                obtain ⟨ra7, rcap7, hvre, hrc7, _, _, _⟩ := hv7.cells
                rw [hu7] at c3
                have HR7 := hid hP.M.row
                have HV7 := hid hv7
                have HB27 := hid hB27
                have hgb2 := hP.M.hgb
                have HU7 := hid hu7
                subst hvre
                clear hP hI' hF hvi hu7 hv7 hB27 e1
                generalize hL7e : FIN.ws = L7 at *
                have HL7e := hid hL7e
                clear hL7e
                generalize hl7 : L7.length = n7 at *
                generalize hr7 : out1.length = m7 at *
                have HL7 := hid hl7
                have HM7 := hid hr7
                clear hl7 hr7
                have hlx7 : w.heap.size + 1 < w8.heap.size := by omega
                have hlx8 : w.heap.size < w8.heap.size := by omega
                have HFn := hid (by
                  have hoth : ∀ b, w.heap.size + 2 ≤ b → ((w8.setCell ⟨w.heap.size + 1, 0, none⟩ (.slice a7 n7 cap7)).setCell ⟨w.heap.size + 1, 1, none⟩ (.int .i64 lim)).heap[b]? = w8.heap[b]? := fun b hb => by
                    rw [Below.heap_setCell _ _ _ _ (by dsimp only; omega), Below.heap_setCell _ _ _ _ (by dsimp only; omega)]
                  have h1 := HR7.out.keep (w' := (w8.setCell ⟨w.heap.size + 1, 0, none⟩ (.slice a7 n7 cap7)).setCell ⟨w.heap.size + 1, 1, none⟩ (.int .i64 lim)) (fun b hb => hoth b (HR7.out.own_lt hb).1)
                  have h2 := HV7.out.keep (w' := (w8.setCell ⟨w.heap.size + 1, 0, none⟩ (.slice a7 n7 cap7)).setCell ⟨w.heap.size + 1, 1, none⟩ (.int .i64 lim)) (fun b hb => hoth b (HV7.out.own_lt hb).1)
                  obtain ⟨a8, c8, e8, _, h3, _, _⟩ := h1.cells
                  obtain ⟨a9, c9, e9, _, h4, _, _⟩ := h2.cells
                  rw [HU7.out] at e8
                  injection e8 with e81 e82 e83
                  injection e9 with e91 e92 e93
                  subst e81 e91
                  exact ⟨h3, h4, ((HB2.out.trans (HB27.out.mono (by omega))).setCell (p := ⟨w.heap.size + 1, 0, none⟩) (by dsimp only; omega) _).setCell (p := ⟨w.heap.size + 1, 1, none⟩) (by dsimp only; omega) _⟩ : Wds ((w8.setCell ⟨w.heap.size + 1, 0, none⟩ (.slice a7 n7 cap7)).setCell ⟨w.heap.size + 1, 1, none⟩ (.int .i64 lim)) ((w8.setCell ⟨w.heap.size + 1, 0, none⟩ (.slice a7 n7 cap7)).setCell ⟨w.heap.size + 1, 1, none⟩ (.int .i64 lim)).heap.size a7 L7 ∧ Wds ((w8.setCell ⟨w.heap.size + 1, 0, none⟩ (.slice a7 n7 cap7)).setCell ⟨w.heap.size + 1, 1, none⟩ (.int .i64 lim)) ((w8.setCell ⟨w.heap.size + 1, 0, none⟩ (.slice a7 n7 cap7)).setCell ⟨w.heap.size + 1, 1, none⟩ (.int .i64 lim)).heap.size ra7 out1 ∧ Below w.heap.size w ((w8.setCell ⟨w.heap.size + 1, 0, none⟩ (.slice a7 n7 cap7)).setCell ⟨w.heap.size + 1, 1, none⟩ (.int .i64 lim)))
                go_wp2_with fail
                go_upto_region 24 with fail
                go_region_with fail
                all_goals
                  go_wp2_with fail
                  refine bodyPost_ret (v := .tuple #[.agg #[.slice a7 n7 cap7, .int .i64 lim], .slice ra7 m7 rcap7, .int .i64 0]) (by simp [results, Try.results12, go_sem, r0, r1]) rfl ?_
                  have hF := HFn.out
                  rw [HSt1.out, HFin.out, HL7e.out, HR1.out]
                  exact ⟨a7, cap7, ra7, rcap7, by rw [HL7.out, HM7.out], by rw [HL7.out]; exact hc7, by rw [HM7.out]; exact hrc7, hF.1, hF.2.1, ⟨hF.2.2.os, hF.2.2.tape, hF.2.2.output, hF.2.2.size, hF.2.2.block⟩⟩
  · obtain ⟨rfl, rfl, rfl, rfl⟩ : r = 9 ∧ l' = [] ∧ lim' = 0 ∧ R' = [] := by
      rcases HD.out with ⟨h1, _, h2⟩ | ⟨_, ⟨acc, ms, h2, _⟩, _⟩ | ⟨_, acc, ms, h2, _⟩
      · exact ⟨h1, h2⟩
      · exact (ok_not_bad h2 hbadR).elim
      · exact (ok_not_bad h2 hbadR).elim
    obtain ⟨x0, x1, r0, r1, f0, f1⟩ := HBx.out _ hb4
    have hz4 := hb4.size
    have HB4 := hid (HB2.out.trans (hb4.mono (by omega)))
    have hz := HZ2.out
    have hlx : w.heap.size + 1 < w4.heap.size := by omega
    clear hb4
    go_wp2_with fail
    refine bodyPost_ret (v := .tuple #[.agg #[.slice none 0 0, .int .i64 0], .slice none 0 0, .int .i64 9]) (by simp [results, Try.results12, go_sem, r0, r1]) rfl ?_
    exact ⟨none, 0, none, 0, rfl, Nat.le_refl _, Nat.le_refl _, fun i hi => absurd hi (by simp), fun i hi => absurd hi (by simp), (HB4.out.setCell (p := ⟨w.heap.size + 1, 0, none⟩) (by dsimp only; omega) _).setCell (p := ⟨w.heap.size + 1, 1, none⟩) (by dsimp only; omega) _⟩
end Go.Proofs.Ytfjfobpdlmdddaa

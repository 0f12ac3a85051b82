/- The document's collection in memory: where things were and are, and the words. -/
import Derived.Test.YtfjfobpdlmdddaaHCollP
import Derived.Test.YtfjfobpdlmdddaaHOne
namespace Go.Proofs.Ytfjfobpdlmdddaa
set_option maxRecDepth 100000
open Go.RowKit Go.Maps
def ics (l : List Int) : List Value := l.map fun x => .int .i64 x
theorem infoInt : (Try.prog.info? 3).map (fun i => (i.zero, i.size, i.bytes)) = some (some (.int .i64 0), 1, 8) := by kernel_rfl
theorem ics_length (l : List Int) : (ics l).length = l.length := by simp [ics]
theorem ics_snoc (l : List Int) (x : Int) : ics (l ++ [x]) = ics l ++ [.int .i64 x] := by simp [ics]
/-- Ints in a row of one's own. -/
def IntL (w : World) (B : Nat) (v : Value) (l : List Int) : Prop := w.ownsRow B 3 1 v l.length (ics l)
theorem IntL.nil (w : World) (B : Nat) : IntL w B (.slice none 0 0) [] := ⟨rfl, Or.inl ⟨rfl, rfl⟩⟩
theorem IntL.keep {w w' : World} {B : Nat} {v : Value} {l : List Int} (h : IntL w B v l) (hk : ∀ b, v.ownBlock = some b → w'.heap[b]? = w.heap[b]?) : IntL w' B v l := ownsRow_keep h hk
theorem IntL.own_lt {w : World} {B : Nat} {v : Value} {l : List Int} (h : IntL w B v l) {g : Nat} (hg : v.ownBlock = some g) : B ≤ g ∧ g < w.heap.size := ownsRow_lt h hg
theorem IntL.cells {w : World} {B : Nat} {v : Value} {l : List Int} (h : IntL w B v l) : ∃ a cap, v = .slice a l.length cap ∧ l.length ≤ cap ∧ ∀ i (_ : i < l.length), ∃ g, a = some ⟨g, 0, none⟩ ∧ v.ownBlock = some g ∧ w.cell? ⟨g, i, none⟩ = some (.int .i64 l[i]) := by
  rcases h.2 with ⟨rfl, h0⟩ | ⟨g, cap, cur, rfl, hb, hc, hn, hm, hcs, hcut⟩
  · have : l = [] := List.length_eq_zero_iff.1 h0
    subst this
    exact ⟨none, 0, rfl, Nat.le_refl _, fun i hi => absurd hi (by simp)⟩
  · refine ⟨_, cap, rfl, hn, fun i hi => ⟨g, rfl, rfl, ?_⟩⟩
    have e : (ics l)[i]? = some (.int .i64 l[i]) := by simp [ics, hi]
    rw [show w.cell? ⟨g, i, none⟩ = cur[i]? by simp [World.cell?, hc], ← e, ← hcut, List.getElem?_take_of_lt (by omega)]
    simp
/-- What a collection has brought together lies in block gb; the rows are its own. -/
structure GatM (w : World) (B gb : Nat) (a : Option Addr) (len cap : Nat) (l : List Wd) (vw vi u : Value) (P Q : List Int) (W : List Wd) : Prop where
  wds : Wds w B a l
  c0 : w.cell? ⟨gb, 0, none⟩ = some (.slice a len cap)
  c1 : w.cell? ⟨gb, 1, none⟩ = some vw
  c2 : w.cell? ⟨gb, 2, none⟩ = some vi
  c3 : w.cell? ⟨gb, 3, none⟩ = some u
  f1 : w.frozen? ⟨gb, 1, none⟩ = false
  f2 : w.frozen? ⟨gb, 2, none⟩ = false
  f3 : w.frozen? ⟨gb, 3, none⟩ = false
  was : IntL w B vw P
  is : IntL w B vi Q
  row : WdL w B u W
  hgb : B ≤ gb
  n1 : ∀ g, vw.ownBlock = some g → ¬ g = gb ∧ ¬ vi.ownBlock = some g ∧ ¬ u.ownBlock = some g
  n2 : ∀ g, vi.ownBlock = some g → ¬ g = gb ∧ ¬ u.ownBlock = some g
  n3 : ∀ g, u.ownBlock = some g → ¬ g = gb
section
variable {w w' : World} {B gb : Nat} {a : Option Addr} {len cap : Nat} {l : List Wd} {vw vi u : Value} {P Q : List Int} {W : List Wd}
theorem GatM.lt (h : GatM w B gb a len cap l vw vi u P Q W) : gb < w.heap.size := World.block_lt_of_cell? w _ h.c0
theorem GatM.lts (h : GatM w B gb a len cap l vw vi u P Q W) : ∀ b, (b = gb ∨ vw.ownBlock = some b ∨ vi.ownBlock = some b ∨ u.ownBlock = some b) → b < w.heap.size := by
  intro b hb
  rcases hb with rfl | hb | hb | hb
  · exact h.lt
  · exact (h.was.own_lt hb).2
  · exact (h.is.own_lt hb).2
  · exact (h.row.own_lt hb).2
theorem GatM.kept (h : GatM w B gb a len cap l vw vi u P Q W) (hB : Below B w w') (hk : ∀ b, b < w.heap.size → (b = gb ∨ vw.ownBlock = some b ∨ vi.ownBlock = some b ∨ u.ownBlock = some b) → w'.heap[b]? = w.heap[b]?) : GatM w' B gb a len cap l vw vi u P Q W := by
  have hc := hk gb h.lt (Or.inl rfl)
  exact ⟨h.wds.below hB, (World.cell?_of_block (w := w) (a := ⟨gb, _, none⟩) hc).trans h.c0, (World.cell?_of_block (w := w) (a := ⟨gb, _, none⟩) hc).trans h.c1, (World.cell?_of_block (w := w) (a := ⟨gb, _, none⟩) hc).trans h.c2, (World.cell?_of_block (w := w) (a := ⟨gb, _, none⟩) hc).trans h.c3,
    (World.frozen?_of_block (w := w) (a := ⟨gb, _, none⟩) hc).trans h.f1, (World.frozen?_of_block (w := w) (a := ⟨gb, _, none⟩) hc).trans h.f2, (World.frozen?_of_block (w := w) (a := ⟨gb, _, none⟩) hc).trans h.f3,
    h.was.keep (fun b hv => hk b (h.was.own_lt hv).2 (by simp [hv])), h.is.keep (fun b hv => hk b (h.is.own_lt hv).2 (by simp [hv])), h.row.keep (fun b hv => hk b (h.row.own_lt hv).2 (by simp [hv])), h.hgb, h.n1, h.n2, h.n3⟩
theorem GatM.below (h : GatM w B gb a len cap l vw vi u P Q W) (hb : Below w.heap.size w w') : GatM w' B gb a len cap l vw vi u P Q W :=
  h.kept (hb.mono (by have := h.hgb; have := h.lt; omega)) (fun b hlt _ => hb.block b hlt)
end
section
variable {wa w3 : World} {B gb : Nat} {a : Option Addr} {len cap : Nat} {l : List Wd} {vw vi u : Value} {P Q : List Int} {W : List Wd}
/-- One more place where a thing was. -/
theorem GatM.grow1 (h : GatM wa B gb a len cap l vw vi u P Q W) {x : Int} {g cap3 n : Nat}
    (hown : IntL w3 B (.slice (some ⟨g, 0, none⟩) n cap3) (P ++ [x])) (hg : wa.grownBy w3 vw.ownBlock) (hat : vw.ownBlock = some g ∨ g = wa.heap.size) :
    GatM (w3.setCell ⟨gb, 1, none⟩ (.slice (some ⟨g, 0, none⟩) n cap3)) B gb a len cap l (.slice (some ⟨g, 0, none⟩) n cap3) vi u (P ++ [x]) Q W ∧ Below B wa (w3.setCell ⟨gb, 1, none⟩ (.slice (some ⟨g, 0, none⟩) n cap3)) ∧ ∀ b, b < wa.heap.size → ¬ b = gb → ¬ vw.ownBlock = some b → (w3.setCell ⟨gb, 1, none⟩ (.slice (some ⟨g, 0, none⟩) n cap3)).heap[b]? = wa.heap[b]? := by
  have hl := h.lt
  have hblk : ∀ b, b < wa.heap.size → ¬ vw.ownBlock = some b → w3.heap[b]? = wa.heap[b]? := fun b h1 h2 => hg.block b h1 (fun e => h2 e.symm)
  have hB3 : Below B wa w3 := (Below.refl _ _).grown hg (by have := h.hgb; omega) (fun k hk => (h.was.own_lt hk).1)
  have ng : ¬ g = gb ∧ ¬ vi.ownBlock = some g ∧ ¬ u.ownBlock = some g := by
    rcases hat with h' | h'
    · exact h.n1 g h'
    · refine ⟨by omega, fun e => ?_, fun e => ?_⟩
      · have := (h.is.own_lt e).2; omega
      · have := (h.row.own_lt e).2; omega
  have hoth : ∀ b, ¬ b = gb → (w3.setCell ⟨gb, 1, none⟩ (.slice (some ⟨g, 0, none⟩) n cap3)).heap[b]? = w3.heap[b]? := fun b hb => Below.heap_setCell _ _ _ _ hb
  have hc := hblk gb hl (fun e => (h.n1 gb e).1 rfl)
  have e0 := (World.cell?_of_block (w := wa) (a := ⟨gb, 0, none⟩) hc).trans h.c0
  have e1 := (World.cell?_of_block (w := wa) (a := ⟨gb, 1, none⟩) hc).trans h.c1
  have e2 := (World.cell?_of_block (w := wa) (a := ⟨gb, 2, none⟩) hc).trans h.c2
  have e3 := (World.cell?_of_block (w := wa) (a := ⟨gb, 3, none⟩) hc).trans h.c3
  have g1 := (World.frozen?_of_block (w := wa) (a := ⟨gb, 1, none⟩) hc).trans h.f1
  have g2 := (World.frozen?_of_block (w := wa) (a := ⟨gb, 2, none⟩) hc).trans h.f2
  have g3 := (World.frozen?_of_block (w := wa) (a := ⟨gb, 3, none⟩) hc).trans h.f3
  have hB := hB3.setCell (p := ⟨gb, 1, none⟩) h.hgb (.slice (some ⟨g, 0, none⟩) n cap3)
  refine ⟨⟨h.wds.below hB, (World.cell?_setCell_other _ _ _ _ (by intro e; injection e with _ e; omega)).trans e0, World.cell?_setCell_same _ _ _ e1, (World.cell?_setCell_other _ _ _ _ (by intro e; injection e with _ e; omega)).trans e2, (World.cell?_setCell_other _ _ _ _ (by intro e; injection e with _ e; omega)).trans e3, by simpa using g1, by simpa using g2, by simpa using g3,
    hown.keep (fun b hb => hoth b (by simp [Value.ownBlock] at hb; rw [← hb]; exact ng.1)), h.is.keep (fun b hb => (hoth b (h.n2 b hb).1).trans (hblk b (h.is.own_lt hb).2 (fun e => (h.n1 b e).2.1 hb))), h.row.keep (fun b hb => (hoth b (h.n3 b hb)).trans (hblk b (h.row.own_lt hb).2 (fun e => (h.n1 b e).2.2 hb))), h.hgb, fun g' hg' => by simp [Value.ownBlock] at hg'; rw [← hg']; exact ng, h.n2, h.n3⟩, hB, fun b hb h1 h2 => (hoth b h1).trans (hblk b hb h2)⟩
/-- One more place where a thing is. -/
theorem GatM.grow2 (h : GatM wa B gb a len cap l vw vi u P Q W) {x : Int} {g cap3 n : Nat}
    (hown : IntL w3 B (.slice (some ⟨g, 0, none⟩) n cap3) (Q ++ [x])) (hg : wa.grownBy w3 vi.ownBlock) (hat : vi.ownBlock = some g ∨ g = wa.heap.size) :
    GatM (w3.setCell ⟨gb, 2, none⟩ (.slice (some ⟨g, 0, none⟩) n cap3)) B gb a len cap l vw (.slice (some ⟨g, 0, none⟩) n cap3) u P (Q ++ [x]) W ∧ Below B wa (w3.setCell ⟨gb, 2, none⟩ (.slice (some ⟨g, 0, none⟩) n cap3)) ∧ ∀ b, b < wa.heap.size → ¬ b = gb → ¬ vi.ownBlock = some b → (w3.setCell ⟨gb, 2, none⟩ (.slice (some ⟨g, 0, none⟩) n cap3)).heap[b]? = wa.heap[b]? := by
  have hl := h.lt
  have hblk : ∀ b, b < wa.heap.size → ¬ vi.ownBlock = some b → w3.heap[b]? = wa.heap[b]? := fun b h1 h2 => hg.block b h1 (fun e => h2 e.symm)
  have hB3 : Below B wa w3 := (Below.refl _ _).grown hg (by have := h.hgb; omega) (fun k hk => (h.is.own_lt hk).1)
  have ng : ¬ g = gb ∧ ¬ vw.ownBlock = some g ∧ ¬ u.ownBlock = some g := by
    rcases hat with h' | h'
    · exact ⟨(h.n2 g h').1, fun e => (h.n1 g e).2.1 h', (h.n2 g h').2⟩
    · refine ⟨by omega, fun e => ?_, fun e => ?_⟩
      · have := (h.was.own_lt e).2; omega
      · have := (h.row.own_lt e).2; omega
  have hoth : ∀ b, ¬ b = gb → (w3.setCell ⟨gb, 2, none⟩ (.slice (some ⟨g, 0, none⟩) n cap3)).heap[b]? = w3.heap[b]? := fun b hb => Below.heap_setCell _ _ _ _ hb
  have hc := hblk gb hl (fun e => (h.n2 gb e).1 rfl)
  have e0 := (World.cell?_of_block (w := wa) (a := ⟨gb, 0, none⟩) hc).trans h.c0
  have e1 := (World.cell?_of_block (w := wa) (a := ⟨gb, 1, none⟩) hc).trans h.c1
  have e2 := (World.cell?_of_block (w := wa) (a := ⟨gb, 2, none⟩) hc).trans h.c2
  have e3 := (World.cell?_of_block (w := wa) (a := ⟨gb, 3, none⟩) hc).trans h.c3
  have g1 := (World.frozen?_of_block (w := wa) (a := ⟨gb, 1, none⟩) hc).trans h.f1
  have g2 := (World.frozen?_of_block (w := wa) (a := ⟨gb, 2, none⟩) hc).trans h.f2
  have g3 := (World.frozen?_of_block (w := wa) (a := ⟨gb, 3, none⟩) hc).trans h.f3
  have hB := hB3.setCell (p := ⟨gb, 2, none⟩) h.hgb (.slice (some ⟨g, 0, none⟩) n cap3)
  refine ⟨⟨h.wds.below hB, (World.cell?_setCell_other _ _ _ _ (by intro e; injection e with _ e; omega)).trans e0, (World.cell?_setCell_other _ _ _ _ (by intro e; injection e with _ e; omega)).trans e1, World.cell?_setCell_same _ _ _ e2, (World.cell?_setCell_other _ _ _ _ (by intro e; injection e with _ e; omega)).trans e3, by simpa using g1, by simpa using g2, by simpa using g3,
    h.was.keep (fun b hb => (hoth b (h.n1 b hb).1).trans (hblk b (h.was.own_lt hb).2 (fun e => (h.n1 b hb).2.1 e))), hown.keep (fun b hb => hoth b (by simp [Value.ownBlock] at hb; rw [← hb]; exact ng.1)), h.row.keep (fun b hb => (hoth b (h.n3 b hb)).trans (hblk b (h.row.own_lt hb).2 (fun e => (h.n2 b e).2 hb))), h.hgb, fun g' hg' => ⟨(h.n1 g' hg').1, fun e => ?_, (h.n1 g' hg').2.2⟩, fun g' hg' => by simp [Value.ownBlock] at hg'; rw [← hg']; exact ⟨ng.1, ng.2.2⟩, h.n3⟩, hB, fun b hb h1 h2 => (hoth b h1).trans (hblk b hb h2)⟩
  simp [Value.ownBlock] at e
  subst e
  exact ng.2.1 hg'
/-- Other words, newly made. -/
theorem GatM.words (h : GatM wa B gb a len cap l vw vi u P Q W) {u' : Value} {W' : List Wd} (hb : Below wa.heap.size wa w3) (hown : WdL w3 wa.heap.size u' W') :
    GatM (w3.setCell ⟨gb, 3, none⟩ u') B gb a len cap l vw vi u' P Q W' ∧ Below B wa (w3.setCell ⟨gb, 3, none⟩ u') ∧ (∀ b, b < wa.heap.size → ¬ b = gb → (w3.setCell ⟨gb, 3, none⟩ u').heap[b]? = wa.heap[b]?) := by
  have hl := h.lt
  have hgb := h.hgb
  have h3 := h.below hb
  have hoth : ∀ b, ¬ b = gb → (w3.setCell ⟨gb, 3, none⟩ u').heap[b]? = w3.heap[b]? := fun b hb => Below.heap_setCell _ _ _ _ hb
  have hB : Below B wa (w3.setCell ⟨gb, 3, none⟩ u') := (hb.mono (by omega)).setCell (p := ⟨gb, 3, none⟩) hgb u'
  have hnew : ∀ g, u'.ownBlock = some g → wa.heap.size ≤ g := fun g hg => (hown.own_lt hg).1
  have hrow : WdL w3 B u' W' := by
    rcases hown with ⟨e0, he⟩
    rcases he with ⟨e1, e2⟩ | ⟨g, cap, cur, e1, hb, hc⟩
    · exact ⟨e0, Or.inl ⟨e1, e2⟩⟩
    · exact ⟨e0, Or.inr ⟨g, cap, cur, e1, by omega, hc⟩⟩
  refine ⟨⟨h.wds.below hB, (World.cell?_setCell_other _ _ _ _ (by intro e; injection e with _ e; omega)).trans h3.c0, (World.cell?_setCell_other _ _ _ _ (by intro e; injection e with _ e; omega)).trans h3.c1, (World.cell?_setCell_other _ _ _ _ (by intro e; injection e with _ e; omega)).trans h3.c2, World.cell?_setCell_same _ _ _ h3.c3, by simpa using h3.f1, by simpa using h3.f2, by simpa using h3.f3,
    h3.was.keep (fun b hb => hoth b (h.n1 b hb).1), h3.is.keep (fun b hb => hoth b (h.n2 b hb).1), hrow.keep (fun b hb => hoth b (by have := hnew b hb; omega)), h.hgb, fun g hg => ⟨(h.n1 g hg).1, (h.n1 g hg).2.1, fun e => ?_⟩, fun g hg => ⟨(h.n2 g hg).1, fun e => ?_⟩, fun g hg => ?_⟩, hB, fun b hb' h1 => (hoth b h1).trans (hb.block b hb')⟩
  · have := hnew g e; have := (h.was.own_lt hg).2; omega
  · have := hnew g e; have := (h.is.own_lt hg).2; omega
  · have := hnew g hg; omega
end
/-- Where things were, and are, in the order in which they were brought. -/
def kys (nw : List (Int × Int)) : List Int := nw.reverse.map (·.1)
def vls (nw : List (Int × Int)) : List Int := nw.reverse.map (·.2)
theorem kys_cons (p : Int × Int) (nw : List (Int × Int)) : kys (p :: nw) = kys nw ++ [p.1] := by simp [kys]
theorem vls_cons (p : Int × Int) (nw : List (Int × Int)) : vls (p :: nw) = vls nw ++ [p.2] := by simp [vls]
theorem kys_length (nw : List (Int × Int)) : (kys nw).length = nw.length := by simp [kys]
theorem vls_length (nw : List (Int × Int)) : (vls nw).length = nw.length := by simp [vls]
theorem has_mem {nw : List (Int × Int)} {m : Int} : hasI nw m = true ↔ m ∈ nw.map (·.1) := by
  rw [hasI_rev]; simp
theorem has_kys {nw : List (Int × Int)} {m : Int} : hasI nw m = true ↔ m ∈ kys nw := by
  rw [has_mem]; simp [kys]
theorem val_at : ∀ {nw : List (Int × Int)} {p : Int × Int}, (nw.map (·.1)).Nodup → p ∈ nw → valI nw p.1 = p.2
  | [], p, _, hp => by cases hp
  | q :: r, p, hn, hp => by
    rw [List.map_cons, List.nodup_cons] at hn
    rcases List.mem_cons.1 hp with rfl | hp
    · simp [valI]
    · have hne : ¬ q.1 = p.1 := fun e => hn.1 (by rw [e]; exact List.mem_map.2 ⟨p, hp, rfl⟩)
      unfold valI
      rw [if_neg hne]
      exact val_at hn.2 hp
theorem vls_at {nw : List (Int × Int)} (hn : (nw.map (·.1)).Nodup) {q : Nat} (hq : q < nw.length) : (kys nw)[q]'(by rw [kys_length]; exact hq) ∈ kys nw ∧ valI nw ((kys nw)[q]'(by rw [kys_length]; exact hq)) = (vls nw)[q]'(by rw [vls_length]; exact hq) := by
  refine ⟨List.getElem_mem _, ?_⟩
  have hq2 : q < nw.reverse.length := by simpa using hq
  have hm : nw.reverse[q] ∈ nw := by rw [← List.mem_reverse]; exact List.getElem_mem hq2
  have := val_at hn hm
  simpa [kys, vls] using this
/-- The places stay apart. -/
theorem brg_nodup {l : List Wd} {ms : List (Int × Int)} {st : Br} {x : Wd} (h : (st.nw.map (·.1)).Nodup) : ((brg l ms st x).1.nw.map (·.1)).Nodup := by
  unfold brg
  split
  · split
    · exact h
    · rename_i hno
      rw [List.map_cons, List.nodup_cons]
      exact ⟨fun hm => hno (has_mem.2 hm), h⟩
  · exact h
theorem wcopy2 (w : World) (g : Nat) (a1 a2 : Option Addr) (n1 n2 c1 c2 : Nat) (l1 l2 : List Wd) (h1 : Wds w w.heap.size a1 l1) (h2 : Wds w w.heap.size a2 l2) (hn1 : n1 = l1.length) (hn2 : n2 = l2.length) (hl : n1 + n2 ≤ 4000000) (hg : g < w.heap.size) (k1 : w.cell? ⟨g, 0, none⟩ = some (.slice a1 n1 c1)) (k2 : w.cell? ⟨g, 1, none⟩ = some (.slice a2 n2 c2)) :
    Calls Try.prog 47 #[.slice (some ⟨g, 0, none⟩) 2 2] w fun e w' => ∃ a' cap', e = .returned (.slice a' (n1 + n2) cap') ∧ WdL w' w.heap.size (.slice a' (n1 + n2) cap') (l1 ++ l2) ∧ Below w.heap.size w w' := by
  subst hn1 hn2
  have hf : flat [⟨a1, c1, l1⟩, ⟨a2, c2, l2⟩] = l1 ++ l2 := by simp [flat]
  refine (wordsCopy_any w w.heap.size (some ⟨g, 0, none⟩) 2 2 [⟨a1, c1, l1⟩, ⟨a2, c2, l2⟩] (fun i hi => ?_) (Nat.le_refl _) rfl (by rw [hf, List.length_append]; omega) (by omega)).mono (fun e w' h => ?_)
  · have h01 : i = 0 ∨ i = 1 := by simp at hi; omega
    rcases h01 with rfl | rfl
    · exact ⟨⟨g, 0, rfl, hg, by simpa using k1⟩, h1⟩
    · exact ⟨⟨g, 0, rfl, hg, by simpa using k2⟩, h2⟩
  · obtain ⟨v, q1, q2, q3⟩ := h
    rw [hf] at q2
    obtain ⟨a', cap', hv, _⟩ := q2.cells
    rw [List.length_append] at hv
    subst hv
    exact ⟨a', cap', q1, q2, q3⟩
end Go.Proofs.Ytfjfobpdlmdddaa

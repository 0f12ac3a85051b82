/- A view of a world, and whether it may be: vm's newView, Check. (Written by wip/tools/mknew.py.) · vm.Check. · Where a name stands: the document's globAt, recAt. · May a function be of a move: the document's pureMay. · A world that may be: the document's way as a plain function, and that it is the program's. -/
import Derived.Test.YtldmanfgmadbfaaGreatDoorQ17
import Derived.Test.YtldmanfgmadbfaaGreatDoorQ08
import Derived.Test.YtldmanfgmadbfaaGreatDoorQ13
namespace Go.Proofs.YtldmanfgmadbfaaGreatDoor
set_option maxRecDepth 100000
open HH UU VV
open Go.RowKit Go.Maps Go.WideMaps
section
variable (P : Program) (w : World) (a : Addr) (m : Mode)
theorem st_nilF : (store a .nilFunc m).run P w = stored P w a .nilFunc m := run_store P w a _ m rfl
theorem st_func (f : Go.Fn) (x y : Array Value) : (store a (.func f x y) m).run P w = stored P w a (.func f x y) m := run_store P w a _ m rfl
end
attribute [local go_sem] st_nilF st_func
def FinP (f : Nat → Value) (l : List ByteArray) (v : Value) (w : World) : Prop := ∃ q m, v = f q ∧ q < w.heap.size ∧ w.cell? ⟨q, 0, none⟩ = some (.map (some m)) ∧ OwnsN w m l
def ValP (th : List Th) (n : Nat) (v : Value) (w : World) : Prop := ∃ q b, v = valF q ∧ q < w.heap.size ∧ b < w.heap.size ∧ w.cell? ⟨q, 0, none⟩ = some (.slice (some ⟨b, 0, none⟩) n n) ∧ Beg w b n th
def PrmP (v : Value) (w : World) : Prop := ∃ p, v = .map (some p) ∧ OwnsP w p primL
def VwP (x : Wv) (lim : Int) (th : List Th) (v : Value) (w : World) : Prop :=
  ∃ u : Vw, u.x = x ∧ u.lim = lim ∧ v = viewV u ∧ u.gq < w.heap.size ∧ w.cell? ⟨u.gq, 0, none⟩ = some (.map (some u.gm)) ∧ OwnsN w u.gm (x.gs.map Gl.name) ∧ u.rq < w.heap.size ∧ w.cell? ⟨u.rq, 0, none⟩ = some (.map (some u.rm)) ∧ OwnsN w u.rm (x.rs.map Rc.name) ∧
    u.vq < w.heap.size ∧ u.vb < w.heap.size ∧ w.cell? ⟨u.vq, 0, none⟩ = some (.slice (some ⟨u.vb, 0, none⟩) x.hs.length x.hs.length) ∧ Beg w u.vb x.hs.length th ∧ OwnsP w u.pm primL
def NewP (N : Nat) (v : Value) (w : World) : Prop :=
  ∃ b, v = .pointer (some ⟨b, 0, none⟩) ∧ N ≤ b ∧ w.heap[b]? = some (.cells #[.slice none 0 0, .slice none 0 0, .slice none 0 0, .slice none 0 0, .int .i64 0, .nilFunc, .nilFunc, .nilFunc, .map none] 45)
theorem heap_alloc_new (w : World) (o : Obj) : (w.alloc o).heap[w.heap.size]? = some o := World.alloc_heap_new w o
theorem FinP.below {f : Nat → Value} {l : List ByteArray} {v : Value} {w w' : World} (h : FinP f l v w) (hb : Below w.heap.size w w') : FinP f l v w' := by
  obtain ⟨q, m, h1, h2, h3, h4⟩ := h
  exact ⟨q, m, h1, Nat.lt_of_lt_of_le h2 hb.size, (hb.cell (p := ⟨q, 0, none⟩) h2).trans h3, owns_below h4 hb⟩
theorem ValP.below {th : List Th} {n : Nat} {v : Value} {w w' : World} (h : ValP th n v w) (hb : Below w.heap.size w w') : ValP th n v w' := by
  obtain ⟨q, b, h1, h2, h3, h4, h5⟩ := h
  exact ⟨q, b, h1, Nat.lt_of_lt_of_le h2 hb.size, Nat.lt_of_lt_of_le h3 hb.size, (hb.cell (p := ⟨q, 0, none⟩) h2).trans h4, h5.below hb h3⟩
theorem PrmP.below {v : Value} {w w' : World} (h : PrmP v w) (hb : Below w.heap.size w w') : PrmP v w' := by
  obtain ⟨p, h1, h2⟩ := h
  exact ⟨p, h1, owns_below h2 hb⟩
theorem VwP.below {x : Wv} {lim : Int} {th : List Th} {v : Value} {w w' : World} (h : VwP x lim th v w) (hb : Below w.heap.size w w') : VwP x lim th v w' := by
  obtain ⟨u, h1, h2, h3, a1, a2, a3, b1, b2, b3, c1, c2, c3, c4, d⟩ := h
  exact ⟨u, h1, h2, h3, Nat.lt_of_lt_of_le a1 hb.size, (hb.cell (p := ⟨u.gq, 0, none⟩) a1).trans a2, owns_below a3 hb, Nat.lt_of_lt_of_le b1 hb.size, (hb.cell (p := ⟨u.rq, 0, none⟩) b1).trans b2, owns_below b3 hb,
    Nat.lt_of_lt_of_le c1 hb.size, Nat.lt_of_lt_of_le c2 hb.size, (hb.cell (p := ⟨u.vq, 0, none⟩) c1).trans c3, c4.below hb c2, owns_below d hb⟩
theorem NewP.below {N : Nat} {v : Value} {w w' : World} (h : NewP N v w) (hb : Below w.heap.size w w') : NewP N v w' := by
  obtain ⟨b, h1, h2, h3⟩ := h
  exact ⟨b, h1, h2, (hb.block b (Array.getElem?_eq_some_iff.1 h3).1).trans h3⟩
/-- The nine cells of a view are laid into a block. -/
theorem set9_keep (w : World) (b k : Nat) (h : k ≠ b) {v0 v1 v2 v3 v4 v5 v6 v7 v8 : Value} : (((((((((w.setCell ⟨b, 0, none⟩ v0).setCell ⟨b, 1, none⟩ v1).setCell ⟨b, 2, none⟩ v2).setCell ⟨b, 3, none⟩ v3).setCell ⟨b, 4, none⟩ v4).setCell ⟨b, 5, none⟩ v5).setCell ⟨b, 6, none⟩ v6).setCell ⟨b, 7, none⟩ v7).setCell ⟨b, 8, none⟩ v8).heap[k]? = w.heap[k]? := by
  iterate 8 rw [Below.heap_setCell _ ⟨b, _, none⟩ _ k h]
  exact Below.heap_setCell _ ⟨b, 0, none⟩ _ k h
theorem cell_of_block {w w' : World} {k : Nat} (h : w'.heap[k]? = w.heap[k]?) (o : Nat) : w'.cell? ⟨k, o, none⟩ = w.cell? ⟨k, o, none⟩ := by simp [World.cell?, h]
theorem frozen_of_block {w w' : World} {k : Nat} (h : w'.heap[k]? = w.heap[k]?) (o : Nat) : w'.frozen? ⟨k, o, none⟩ = w.frozen? ⟨k, o, none⟩ := by simp [World.frozen?, h]
theorem owns_of_block {w w' : World} {k : TypeId} {R : Value → Option (DataW Unit × List MemPlace)} {b n : Nat} {D : DataW Unit} (h : w.ownsMap Tryz.prog k R b n D) (hb : w'.heap[b]? = w.heap[b]?) : w'.ownsMap Tryz.prog k R b n D := by
  obtain ⟨es, c, e1, e2⟩ := h
  exact ⟨es, c, hb.trans e1, e2⟩
theorem owns_ne {w : World} {k : TypeId} {R : Value → Option (DataW Unit × List MemPlace)} {b n g : Nat} {D : DataW Unit} {cs : Array Value} {t : TypeId} {z : Nat × Nat} (h : w.ownsMap Tryz.prog k R b n D) (hg : w.heap[g]? = some (.cells cs t z)) : b ≠ g := by
  rintro rfl
  obtain ⟨es, c, e1, e2⟩ := h
  rw [hg] at e1
  exact absurd e1 (by simp)
/-- What a view stands on, when its nine cells were laid into a block of its own. -/
theorem viewAt_put {w : World} {x : Wv} {th : List Th} {u : Vw} {w5 w6 : World} {b : Nat} (hx : u.x = x) (hS : subW w (fun b => b < w.heap.size) x) (hB : bigW x) (hW : wfW x) (hE : EffAt w) (hroom : x.hs.length ≤ 60000) (hb6 : Below w.heap.size w w6) (hsz : w5.heap.size = w6.heap.size)
    (hbk : w5.heap[b]? = some (.cells #[.slice none 0 0, .slice none 0 0, .slice none 0 0, .slice none 0 0, .int .i64 0, .nilFunc, .nilFunc, .nilFunc, .map none] 45)) (hk : ∀ k, k ≠ b → w6.heap[k]? = w5.heap[k]?)
    (uq1 : u.gq < w5.heap.size) (uq2 : w5.cell? ⟨u.gq, 0, none⟩ = some (.map (some u.gm))) (uq3 : OwnsN w5 u.gm (x.gs.map Gl.name)) (ur1 : u.rq < w5.heap.size) (ur2 : w5.cell? ⟨u.rq, 0, none⟩ = some (.map (some u.rm))) (ur3 : OwnsN w5 u.rm (x.rs.map Rc.name))
    (uv1 : u.vq < w5.heap.size) (uv2 : u.vb < w5.heap.size) (uv3 : w5.cell? ⟨u.vq, 0, none⟩ = some (.slice (some ⟨u.vb, 0, none⟩) x.hs.length x.hs.length)) (uv4 : Beg w5 u.vb x.hs.length th) (up : OwnsP w5 u.pm primL) : ViewAt w6 u th := by
  subst hx
  have hc0 : w5.cell? ⟨b, 0, none⟩ = some (.slice none 0 0) := by simp [World.cell?, hbk]
  have ng : u.gq ≠ b := by intro h; rw [h, hc0] at uq2; cases uq2
  have nr : u.rq ≠ b := by intro h; rw [h, hc0] at ur2; cases ur2
  have nv : u.vq ≠ b := by intro h; rw [h, hc0] at uv3; cases uv3
  refine ⟨subW_keep hS (fun k hk' => hb6.block k hk') (fun _ hk' => Nat.lt_of_lt_of_le hk' hb6.size), hB, hW, hsz ▸ uq1, (cell_of_block (hk _ ng) 0).trans uq2, owns_of_block uq3 (hk _ (owns_ne uq3 hbk)),
    hsz ▸ ur1, (cell_of_block (hk _ nr) 0).trans ur2, owns_of_block ur3 (hk _ (owns_ne ur3 hbk)), hsz ▸ uv1, (cell_of_block (hk _ nv) 0).trans uv3, hsz ▸ uv2, ?_, owns_of_block up (hk _ (owns_ne up hbk)), hE.below hb6 hE.lt, hroom⟩
  intro j hj
  have nb : u.vb ≠ b := by
    intro h
    have h0 := (uv4 0 (by omega)).1
    rw [h, hc0] at h0
    cases h0
  exact ⟨(cell_of_block (hk _ nb) j).trans (uv4 j hj).1, (frozen_of_block (hk _ nb) j).trans (uv4 j hj).2⟩
/-- A world may be, as the program has it; it may not. -/
theorem below_set9 {B g : Nat} {a w : World} (h : Below B a w) (hg : B ≤ g) {v0 v1 v2 v3 v4 v5 v6 v7 v8 : Value} : Below B a (((((((((w.setCell ⟨g, 0, none⟩ v0).setCell ⟨g, 1, none⟩ v1).setCell ⟨g, 2, none⟩ v2).setCell ⟨g, 3, none⟩ v3).setCell ⟨g, 4, none⟩ v4).setCell ⟨g, 5, none⟩ v5).setCell ⟨g, 6, none⟩ v6).setCell ⟨g, 7, none⟩ v7).setCell ⟨g, 8, none⟩ v8) :=
  ((((((((h.setCell (p := ⟨g, 0, none⟩) hg _).setCell (p := ⟨g, 1, none⟩) hg _).setCell (p := ⟨g, 2, none⟩) hg _).setCell (p := ⟨g, 3, none⟩) hg _).setCell (p := ⟨g, 4, none⟩) hg _).setCell (p := ⟨g, 5, none⟩) hg _).setCell (p := ⟨g, 6, none⟩) hg _).setCell (p := ⟨g, 7, none⟩) hg _).setCell (p := ⟨g, 8, none⟩) hg _
def OkP (x : Wv) (lim : Int) (th : List Th) : Prop := (∃ ms, OkC lim x.hs th ms) ∧ x.fs.length ≤ 2000 ∧ x.gs.length ≤ 40 ∧ x.rs.length ≤ 8 ∧ mayB x th = true
def NoP (x : Wv) (lim : Int) : Prop := BadC lim x.hs ∨ (∃ th ms, OkC lim x.hs th ms) ∧ ¬ (x.fs.length ≤ 2000 ∧ x.gs.length ≤ 40 ∧ x.rs.length ≤ 8) ∨ (∃ th ms, OkC lim x.hs th ms ∧ mayB x th = false)
def NewR (x : Wv) (lim : Int) (w : World) (e : Ending) (w' : World) : Prop :=
  (∃ u th, e = .returned (.tuple #[viewV u, .int .i64 0]) ∧ u.x = x ∧ u.lim = lim ∧ OkP x lim th ∧ ViewAt w' u th ∧ Below w.heap.size w w') ∨
  (e = .returned (.tuple #[.agg #[.slice none 0 0, .slice none 0 0, .slice none 0 0, .slice none 0 0, .int .i64 0, .nilFunc, .nilFunc, .nilFunc, .map none], .int .i64 9]) ∧ NoP x lim ∧ Below w.heap.size w w')
set_option maxRecDepth 1000000 in
set_option maxHeartbeats 8000000 in
theorem newView_any (x : Wv) (lim : Int) (w : World) (hS : subW w (fun b => b < w.heap.size) x) (hb : bigW x) (hw : wfW x) (hE : EffAt w) :
    Calls Tryz.prog 11 #[.agg #[.slice x.fa x.fs.length x.fcap, .slice x.ga x.gs.length x.gcap, .slice x.ra x.rs.length x.rcap, .slice x.ha x.hs.length x.hcap, .int .i64 lim]] w fun e w' => NewR x lim w e w' := by
  obtain ⟨w2, hw2⟩ : ∃ w2, w2 = (w.alloc (.cells #[.slice x.fa x.fs.length x.fcap, .slice x.ga x.gs.length x.gcap, .slice x.ra x.rs.length x.rcap, .slice x.ha x.hs.length x.hcap, .int .i64 lim] 29)).alloc (.cells #[.slice none 0 0, .slice none 0 0, .slice none 0 0, .slice none 0 0, .int .i64 0, .nilFunc, .nilFunc, .nilFunc, .map none] 45) := ⟨_, rfl⟩
  have HB2 := hid (show Below w.heap.size w w2 by rw [hw2]; exact below_2 _ _ _)
  have hz2 : w2.heap.size = w.heap.size + 2 := by rw [hw2]; simp
  have wb : w2.cell? ⟨w.heap.size, 0, none⟩ = some (.slice x.fa x.fs.length x.fcap) ∧ w2.cell? ⟨w.heap.size, 1, none⟩ = some (.slice x.ga x.gs.length x.gcap) ∧ w2.cell? ⟨w.heap.size, 2, none⟩ = some (.slice x.ra x.rs.length x.rcap) ∧ w2.cell? ⟨w.heap.size, 3, none⟩ = some (.slice x.ha x.hs.length x.hcap) ∧ w2.cell? ⟨w.heap.size, 4, none⟩ = some (.int .i64 lim) := by
    rw [hw2]; refine ⟨?_, ?_, ?_, ?_, ?_⟩ <;> go_simp
  have rbk : w2.heap[w.heap.size + 1]? = some (.cells #[.slice none 0 0, .slice none 0 0, .slice none 0 0, .slice none 0 0, .int .i64 0, .nilFunc, .nilFunc, .nilFunc, .map none] 45) := by
    rw [hw2]
    have := World.alloc_heap_new (w.alloc (.cells #[.slice x.fa x.fs.length x.fcap, .slice x.ga x.gs.length x.gcap, .slice x.ra x.rs.length x.rcap, .slice x.ha x.hs.length x.hcap, .int .i64 lim] 29)) (.cells #[.slice none 0 0, .slice none 0 0, .slice none 0 0, .slice none 0 0, .int .i64 0, .nilFunc, .nilFunc, .nilFunc, .map none] 45)
    simpa using this
  have WB := hid wb
  have RB := hid rbk
  have H2 := hid hw2
  have HS := hid hS
  have HBg := hid hb
  have HWf := hid hw
  have HE := hid hE
  have hfl : x.fs.length ≤ 9223372036854775807 := by have := hb.f; omega
  have hgl : x.gs.length ≤ 9223372036854775807 := by have := hb.g; omega
  have hrl : x.rs.length ≤ 9223372036854775807 := by have := hb.r; omega
  have hhl : x.hs.length ≤ 9223372036854775807 := by have := hb.h; omega
  clear hw2 wb rbk hS hb hw hE
  go_enter Tryz.func11, Tryz.ntmps11
  go_wp2_with fail
  rw [← H2.out]
  have hcall := HH.Check_any w2 w.heap.size x.ha x.hs.length x.hcap x.hs lim (wds_row (Cs.below HS.out.h HB2.out (Nat.le_refl _))) HB2.out.size rfl HWf.out.hcap hhl (wfL_of HWf.out.hs)
  go_fit hcall
  clear hcall
  rintro e wk ⟨r, rfl, hr, hbk⟩
  have HWk := hid (HB2.out.trans (hbk.mono HB2.out.size))
  have hzk := hbk.size
  obtain ⟨k0', k1', k2', k3', k4'⟩ := WB.out
  have k0 := (hbk.cell (p := ⟨w.heap.size, 0, none⟩) (by dsimp only; omega)).trans k0'
  have k1 := (hbk.cell (p := ⟨w.heap.size, 1, none⟩) (by dsimp only; omega)).trans k1'
  have k2 := (hbk.cell (p := ⟨w.heap.size, 2, none⟩) (by dsimp only; omega)).trans k2'
  have k3 := (hbk.cell (p := ⟨w.heap.size, 3, none⟩) (by dsimp only; omega)).trans k3'
  have k4 := (hbk.cell (p := ⟨w.heap.size, 4, none⟩) (by dsimp only; omega)).trans k4'
  have RBk := hid ((hbk.block (w.heap.size + 1) (by omega)).trans RB.out)
  clear hbk k0' k1' k2' k3' k4'
  have rc : ∀ j : Nat, wk.cell? ⟨w.heap.size + 1, j, none⟩ = #[(.slice none 0 0 : Value), .slice none 0 0, .slice none 0 0, .slice none 0 0, .int .i64 0, .nilFunc, .nilFunc, .nilFunc, .map none][j]? := fun j => by simp [World.cell?, RBk.out]
  have rf : ∀ j : Nat, wk.frozen? ⟨w.heap.size + 1, j, none⟩ = false := fun j => by simp [World.frozen?, RBk.out]
  have r0 := rc 0
  have r1 := rc 1
  have r2 := rc 2
  have r3 := rc 3
  have r4 := rc 4
  have r5 := rc 5
  have r6 := rc 6
  have r7 := rc 7
  have r8 := rc 8
  have s0 := rf 0
  have s1 := rf 1
  have s2 := rf 2
  have s3 := rf 3
  have s4 := rf 4
  have s5 := rf 5
  have s6 := rf 6
  have s7 := rf 7
  have s8 := rf 8
  simp only [List.getElem?_toArray, List.getElem?_cons_zero, List.getElem?_cons_succ] at r0 r1 r2 r3 r4 r5 r6 r7 r8
  clear rc rf
  rcases hr with ⟨rfl, th, ms, hok⟩ | ⟨rfl, hbad⟩
  case inr =>
    have HR := hid (show NoP x lim from Or.inl hbad)
    clear hbad
    go_wp2_with fail
    refine bodyPost_ret (v := .tuple #[.agg #[.slice none 0 0, .slice none 0 0, .slice none 0 0, .slice none 0 0, .int .i64 0, .nilFunc, .nilFunc, .nilFunc, .map none], .int .i64 9]) (by simp [results, Tryz.results11, go_sem, r0, r1, r2, r3, r4, r5, r6, r7, r8]) rfl ?_
    exact Or.inr ⟨rfl, HR.out, below_set9 (g := w.heap.size + 1) HWk.out (by omega)⟩
  have HOk := hid hok
  by_cases hln : x.fs.length ≤ 2000 ∧ x.gs.length ≤ 40 ∧ x.rs.length ≤ 8
  case neg =>
    have HR := hid (show NoP x lim from Or.inr (Or.inl ⟨⟨th, ms, HOk.out⟩, hln⟩))
    clear hok
    by_cases l1 : x.fs.length ≤ 2000
    case neg =>
      have l1b : (2000 : Int) < x.fs.length := by omega
      clear l1 hln
      go_wp2_with fail
      refine bodyPost_ret (v := .tuple #[.agg #[.slice none 0 0, .slice none 0 0, .slice none 0 0, .slice none 0 0, .int .i64 0, .nilFunc, .nilFunc, .nilFunc, .map none], .int .i64 9]) (by simp [results, Tryz.results11, go_sem, r0, r1, r2, r3, r4, r5, r6, r7, r8]) rfl ?_
      exact Or.inr ⟨rfl, HR.out, below_set9 (g := w.heap.size + 1) HWk.out (by omega)⟩
    have l1b : ¬ (2000 : Int) < x.fs.length := by omega
    by_cases l2 : x.gs.length ≤ 40
    case neg =>
      have l2b : (40 : Int) < x.gs.length := by omega
      clear l1 l2 hln
      go_wp2_with fail
      refine bodyPost_ret (v := .tuple #[.agg #[.slice none 0 0, .slice none 0 0, .slice none 0 0, .slice none 0 0, .int .i64 0, .nilFunc, .nilFunc, .nilFunc, .map none], .int .i64 9]) (by simp [results, Tryz.results11, go_sem, r0, r1, r2, r3, r4, r5, r6, r7, r8]) rfl ?_
      exact Or.inr ⟨rfl, HR.out, below_set9 (g := w.heap.size + 1) HWk.out (by omega)⟩
    have l2b : ¬ (40 : Int) < x.gs.length := by omega
    have l3b : (8 : Int) < x.rs.length := by omega
    clear l1 l2 hln
    go_wp2_with fail
    refine bodyPost_ret (v := .tuple #[.agg #[.slice none 0 0, .slice none 0 0, .slice none 0 0, .slice none 0 0, .int .i64 0, .nilFunc, .nilFunc, .nilFunc, .map none], .int .i64 9]) (by simp [results, Tryz.results11, go_sem, r0, r1, r2, r3, r4, r5, r6, r7, r8]) rfl ?_
    exact Or.inr ⟨rfl, HR.out, below_set9 (g := w.heap.size + 1) HWk.out (by omega)⟩
  obtain ⟨l1, l2, l3⟩ := hln
  have l1b : ¬ (2000 : Int) < x.fs.length := by omega
  have l2b : ¬ (40 : Int) < x.gs.length := by omega
  have l3b : ¬ (8 : Int) < x.rs.length := by omega
  have hch := hok.chain
  have hroom : x.hs.length ≤ 60000 := by have h1 := hok.room; have h2 := hok.hi; omega
  have hgm : x.gs.length ≤ 1000000 := by omega
  have hrm : x.rs.length ≤ 1000000 := by omega
  clear hok
  go_wp2_with fail
  refine wp_region_invL 14 (fun _ w' => Below wk.heap.size wk w') (fun _ w' w'' => Below w'.heap.size w' w'') (fun i vv w' => match i with
    | 0 => vv = .agg #[.slice x.fa x.fs.length x.fcap, .slice x.ga x.gs.length x.gcap, .slice x.ra x.rs.length x.rcap, .slice x.ha x.hs.length x.hcap, .int .i64 lim]
    | 1 => vv = .pointer (some ⟨w.heap.size, 1, none⟩)
    | 2 => vv = .slice x.ga x.gs.length x.gcap
    | 3 => FinP finG (x.gs.map Gl.name) vv w'
    | 4 => vv = .pointer (some ⟨w.heap.size, 2, none⟩)
    | 5 => vv = .slice x.ra x.rs.length x.rcap
    | 6 => FinP finR (x.rs.map Rc.name) vv w'
    | 7 => vv = .pointer (some ⟨w.heap.size, 3, none⟩)
    | 8 => vv = .pointer (some ⟨w.heap.size, 3, none⟩)
    | 9 => vv = .slice x.ha x.hs.length x.hcap
    | 10 => ValP th x.hs.length vv w'
    | 11 => PrmP vv w'
    | 12 => VwP x lim th vv w'
    | 13 => NewP wk.heap.size vv w'
    | _ => True) (by kernel_rfl) (by kernel_rfl) (by kernel_rfl) (Below.refl _ _).drew ?hmono ⟨?o0, ?o1, ?o2, ?o3, ?o4, ?o5, ?o6, ?o7, ?o8, ?o9, ?o10, ?o11, ?o12, ?o13, trivial⟩ ?hend
  case o0 =>
    intro dn a w' _ hS hF K hK
    have h1 := hF.out 1 (by kernel_rfl) rfl
    have k0' := (hS.cell (by dsimp only; omega)).trans k0
    have k1' := (hS.cell (by dsimp only; omega)).trans k1
    have k2' := (hS.cell (by dsimp only; omega)).trans k2
    have k3' := (hS.cell (by dsimp only; omega)).trans k3
    have k4' := (hS.cell (by dsimp only; omega)).trans k4
    rw [if_pos (by kernel_rfl)]
    go_simp
    exact hK _ _ _ rfl hS (Below.refl _ _) rfl
  case o1 =>
    intro dn a w' _ hS hF K hK
    have h1 := hF.out 1 (by kernel_rfl) rfl
    rw [if_pos (by kernel_rfl)]
    go_simp
    exact hK _ _ _ rfl hS (Below.refl _ _) rfl
  case o2 =>
    intro dn a w' _ hS hF K hK
    obtain ⟨v29, h29, rfl⟩ := hF.val 1 29 (by kernel_rfl) (by kernel_rfl)
    have k0' := (hS.cell (by dsimp only; omega)).trans k0
    have k1' := (hS.cell (by dsimp only; omega)).trans k1
    have k2' := (hS.cell (by dsimp only; omega)).trans k2
    have k3' := (hS.cell (by dsimp only; omega)).trans k3
    have k4' := (hS.cell (by dsimp only; omega)).trans k4
    rw [if_pos (by kernel_rfl)]
    go_simp
    exact hK _ _ _ rfl hS (Below.refl _ _) rfl
  case o3 =>
    intro dn a w' _ hS hF K hK
    obtain ⟨v30, h30, rfl⟩ := hF.val 2 30 (by kernel_rfl) (by kernel_rfl)
    rw [if_pos (by kernel_rfl)]
    go_simp
    refine (finderG_any w' w.heap.size x.ga x.gs.length x.gcap x.gs (Cs.below HS.out.g (HWk.out.trans (hS.mono HWk.out.size)) (Nat.le_refl _)) (Nat.le_trans HWk.out.size hS.size) rfl hgm (fun y hy => (HWf.out.gs y hy).name)).mono ?_
    rintro e w'' ⟨q, m, rfl, h1, h2, h3, h4, h5⟩
    exact hK _ _ _ rfl (hS.trans (h5.mono hS.size)) h5 ⟨q, m, rfl, h2, h3, h4⟩
  case o4 =>
    intro dn a w' _ hS hF K hK
    have h1 := hF.out 1 (by kernel_rfl) rfl
    rw [if_pos (by kernel_rfl)]
    go_simp
    exact hK _ _ _ rfl hS (Below.refl _ _) rfl
  case o5 =>
    intro dn a w' _ hS hF K hK
    obtain ⟨v32, h32, rfl⟩ := hF.val 4 32 (by kernel_rfl) (by kernel_rfl)
    have k0' := (hS.cell (by dsimp only; omega)).trans k0
    have k1' := (hS.cell (by dsimp only; omega)).trans k1
    have k2' := (hS.cell (by dsimp only; omega)).trans k2
    have k3' := (hS.cell (by dsimp only; omega)).trans k3
    have k4' := (hS.cell (by dsimp only; omega)).trans k4
    rw [if_pos (by kernel_rfl)]
    go_simp
    exact hK _ _ _ rfl hS (Below.refl _ _) rfl
  case o6 =>
    intro dn a w' _ hS hF K hK
    obtain ⟨v33, h33, rfl⟩ := hF.val 5 33 (by kernel_rfl) (by kernel_rfl)
    rw [if_pos (by kernel_rfl)]
    go_simp
    refine (finderR_any w' w.heap.size x.ra x.rs.length x.rcap x.rs (Cs.below HS.out.r (HWk.out.trans (hS.mono HWk.out.size)) (Nat.le_refl _)) (Nat.le_trans HWk.out.size hS.size) rfl hrm (fun y hy => (HWf.out.rs y hy).name)).mono ?_
    rintro e w'' ⟨q, m, rfl, h1, h2, h3, h4, h5⟩
    exact hK _ _ _ rfl (hS.trans (h5.mono hS.size)) h5 ⟨q, m, rfl, h2, h3, h4⟩
  case o7 =>
    intro dn a w' _ hS hF K hK
    have h1 := hF.out 1 (by kernel_rfl) rfl
    rw [if_pos (by kernel_rfl)]
    go_simp
    exact hK _ _ _ rfl hS (Below.refl _ _) rfl
  case o8 =>
    intro dn a w' _ hS hF K hK
    obtain ⟨v35, h35, rfl⟩ := hF.val 7 35 (by kernel_rfl) (by kernel_rfl)
    rw [if_pos (by kernel_rfl)]
    go_simp
    exact hK _ _ _ rfl hS (Below.refl _ _) rfl
  case o9 =>
    intro dn a w' _ hS hF K hK
    obtain ⟨v36, h36, rfl⟩ := hF.val 8 36 (by kernel_rfl) (by kernel_rfl)
    have k0' := (hS.cell (by dsimp only; omega)).trans k0
    have k1' := (hS.cell (by dsimp only; omega)).trans k1
    have k2' := (hS.cell (by dsimp only; omega)).trans k2
    have k3' := (hS.cell (by dsimp only; omega)).trans k3
    have k4' := (hS.cell (by dsimp only; omega)).trans k4
    rw [if_pos (by kernel_rfl)]
    go_simp
    exact hK _ _ _ rfl hS (Below.refl _ _) rfl
  case o10 =>
    intro dn a w' _ hS hF K hK
    obtain ⟨v37, h37, rfl⟩ := hF.val 9 37 (by kernel_rfl) (by kernel_rfl)
    rw [if_pos (by kernel_rfl)]
    go_simp
    refine (valuesOn_any w' w.heap.size x.ha x.hcap x.hs th (wds_row (Cs.below HS.out.h (HWk.out.trans (hS.mono HWk.out.size)) (Nat.le_refl _))) (Nat.le_trans HWk.out.size hS.size) hch hroom).mono ?_
    rintro e w'' ⟨q, b, rfl, h1, h2, h3, h4, h5, h6⟩
    exact hK _ _ _ rfl (hS.trans (h6.mono hS.size)) h6 ⟨q, b, rfl, h2, h3, h4, h5⟩
  case o11 =>
    intro dn a w' _ hS hF K hK
    rw [if_pos (by kernel_rfl)]
    go_simp
    refine (newPrimitives_any w').mono ?_
    rintro e w'' ⟨p, rfl, h1, h2⟩
    exact hK _ _ _ rfl (hS.trans (h2.mono hS.size)) h2 ⟨p, rfl, h1⟩
  case o12 =>
    intro dn a w' _ hS hF K hK
    obtain ⟨v28, h28, rfl⟩ := hF.val 0 28 (by kernel_rfl) (by kernel_rfl)
    obtain ⟨v31, h31, ⟨q3, m3, rfl, f3, g3, o3⟩⟩ := hF.val 3 31 (by kernel_rfl) (by kernel_rfl)
    obtain ⟨v34, h34, ⟨q6, m6, rfl, f6, g6, o6⟩⟩ := hF.val 6 34 (by kernel_rfl) (by kernel_rfl)
    obtain ⟨v38, h38, ⟨q10, b10, rfl, f10, b10l, g10, e10⟩⟩ := hF.val 10 38 (by kernel_rfl) (by kernel_rfl)
    obtain ⟨v39, h39, ⟨p11, rfl, o11⟩⟩ := hF.val 11 39 (by kernel_rfl) (by kernel_rfl)
    rw [if_pos (by kernel_rfl)]
    go_simp
    exact hK _ _ _ rfl hS (Below.refl _ _) ⟨⟨x, lim, q3, m3, q6, m6, q10, b10, p11⟩, rfl, rfl, rfl, f3, g3, o3, f6, g6, o6, f10, b10l, g10, e10, o11⟩
  case o13 =>
    intro dn a w' _ hS hF K hK
    rw [if_pos (by kernel_rfl)]
    go_simp
    exact hK _ _ _ rfl (hS.alloc hS.size _) ((Below.refl _ _).alloc (Nat.le_refl _) _) ⟨_, rfl, hS.size, heap_alloc_new w' _⟩
  case hmono =>
    intro i j v w1 w2 _ _ hne hwt _ hv hR
    rcases i with _ | _ | _ | _ | _ | _ | _ | _ | _ | _ | _ | _ | _ | _ | i
    all_goals first | exact hv | exact FinP.below hv hR | exact ValP.below hv hR | exact PrmP.below hv hR | exact VwP.below hv hR | exact NewP.below hv hR
  case hend =>
    intro dn w5 vs _ hS hv
    have hP12 : VwP x lim th (vs 12) w5 := hv 12 (by decide)
    have hP13 : NewP wk.heap.size (vs 13) w5 := hv 13 (by decide)
    clear hv
    simp only [putsL, List.take_succ_cons, List.take_zero, Nat.reduceAdd, Act.put, List.setIfInBounds_toArray, List.set_cons_zero, List.set_cons_succ]
    generalize vs 12 = vC at hP12 ⊢
    generalize vs 13 = vD at hP13 ⊢
    change wpOps _ _ _ [14] _ _
    obtain ⟨u, rfl, rfl, hvu, uq1, uq2, uq3, ur1, ur2, ur3, uv1, uv2, uv3, uv4, up⟩ := hP12
    obtain ⟨b, hvb, hbk, hb5⟩ := hP13
    subst hvu hvb
    have bc : ∀ j : Nat, w5.cell? ⟨b, j, none⟩ = #[(.slice none 0 0 : Value), .slice none 0 0, .slice none 0 0, .slice none 0 0, .int .i64 0, .nilFunc, .nilFunc, .nilFunc, .map none][j]? := fun j => by simp [World.cell?, hb5]
    have bf : ∀ j : Nat, w5.frozen? ⟨b, j, none⟩ = false := fun j => by simp [World.frozen?, hb5]
    have b0 := bc 0
    have b1 := bc 1
    have b2 := bc 2
    have b3 := bc 3
    have b4 := bc 4
    have b5 := bc 5
    have b6 := bc 6
    have b7 := bc 7
    have b8 := bc 8
    have f0 := bf 0
    have f1 := bf 1
    have f2 := bf 2
    have f3 := bf 3
    have f4 := bf 4
    have f5 := bf 5
    have f6 := bf 6
    have f7 := bf 7
    have f8 := bf 8
    simp only [List.getElem?_toArray, List.getElem?_cons_zero, List.getElem?_cons_succ] at b0 b1 b2 b3 b4 b5 b6 b7 b8
    clear bc bf
    refine wpOps_step rfl rfl (fun K hK => ?_)
    go_simp
    refine hK _ _ ?_
    clear hK
    simp only [wpOps]
    obtain ⟨w6, hw6⟩ : ∃ w6, w6 = (((((((((w5.setCell ⟨b, 0, none⟩ (.slice u.x.fa u.x.fs.length u.x.fcap)).setCell ⟨b, 1, none⟩ (.slice u.x.ga u.x.gs.length u.x.gcap)).setCell ⟨b, 2, none⟩ (.slice u.x.ra u.x.rs.length u.x.rcap)).setCell ⟨b, 3, none⟩ (.slice u.x.ha u.x.hs.length u.x.hcap)).setCell ⟨b, 4, none⟩ (.int .i64 u.lim)).setCell ⟨b, 5, none⟩ (finG u.gq)).setCell ⟨b, 6, none⟩ (finR u.rq)).setCell ⟨b, 7, none⟩ (valF u.vq)).setCell ⟨b, 8, none⟩ (.map (some u.pm))) := ⟨_, rfl⟩
    rw [← hw6]
    have d0 : w6.cell? ⟨b, 0, none⟩ = some (.slice u.x.fa u.x.fs.length u.x.fcap) := by rw [hw6]; go_simp
    have d1 : w6.cell? ⟨b, 1, none⟩ = some (.slice u.x.ga u.x.gs.length u.x.gcap) := by rw [hw6]; go_simp
    have d2 : w6.cell? ⟨b, 2, none⟩ = some (.slice u.x.ra u.x.rs.length u.x.rcap) := by rw [hw6]; go_simp
    have d3 : w6.cell? ⟨b, 3, none⟩ = some (.slice u.x.ha u.x.hs.length u.x.hcap) := by rw [hw6]; go_simp
    have d4 : w6.cell? ⟨b, 4, none⟩ = some (.int .i64 u.lim) := by rw [hw6]; go_simp
    have d5 : w6.cell? ⟨b, 5, none⟩ = some (finG u.gq) := by rw [hw6]; go_simp
    have d6 : w6.cell? ⟨b, 6, none⟩ = some (finR u.rq) := by rw [hw6]; go_simp
    have d7 : w6.cell? ⟨b, 7, none⟩ = some (valF u.vq) := by rw [hw6]; go_simp
    have d8 : w6.cell? ⟨b, 8, none⟩ = some (.map (some u.pm)) := by rw [hw6]; go_simp
    have hb6s : b < w6.heap.size := by
      have h1 : w5.heap.size = w6.heap.size := by rw [hw6]; simp
      rw [← h1]; exact (Array.getElem?_eq_some_iff.1 hb5).1
    have hB6 : Below wk.heap.size wk w6 := by rw [hw6]; exact below_set9 hS hbk
    have hz6 : w5.heap.size = w6.heap.size := by rw [hw6]; simp
    have HV6 := hid (viewAt_put rfl HS.out HBg.out HWf.out HE.out hroom (HWk.out.trans (hB6.mono HWk.out.size)) hz6 hb5 (fun k hk => by rw [hw6]; exact set9_keep _ _ _ hk) uq1 uq2 uq3 ur1 ur2 ur3 uv1 uv2 uv3 uv4 up)
    have hcall2 := mayBe_any u th w6 HV6.out (by omega) (by omega) hch
    clear hw6 b0 b1 b2 b3 b4 b5 b6 b7 b8 f0 f1 f2 f3 f4 f5 f6 f7 f8 k0 k1 k2 k3 k4 hz6 hb5 uq1 uq2 uq3 ur1 ur2 ur3 uv1 uv2 uv3 uv4 up hS
    go_wp2_with fail
    go_fit hcall2
    clear hcall2
    rintro e w7 ⟨rfl, hb7⟩
    have HB7 := hid (hB6.trans (hb7.mono hB6.size))
    have HV7 := hid (HV6.out.below hb7)
    have RB7 := hid ((HB7.out.block (w.heap.size + 1) (by omega)).trans RBk.out)
    have q0 := (HB7.out.cell (p := ⟨w.heap.size + 1, 0, none⟩) (by dsimp only; omega)).trans r0
    have q1 := (HB7.out.cell (p := ⟨w.heap.size + 1, 1, none⟩) (by dsimp only; omega)).trans r1
    have q2 := (HB7.out.cell (p := ⟨w.heap.size + 1, 2, none⟩) (by dsimp only; omega)).trans r2
    have q3 := (HB7.out.cell (p := ⟨w.heap.size + 1, 3, none⟩) (by dsimp only; omega)).trans r3
    have q4 := (HB7.out.cell (p := ⟨w.heap.size + 1, 4, none⟩) (by dsimp only; omega)).trans r4
    have q5 := (HB7.out.cell (p := ⟨w.heap.size + 1, 5, none⟩) (by dsimp only; omega)).trans r5
    have q6 := (HB7.out.cell (p := ⟨w.heap.size + 1, 6, none⟩) (by dsimp only; omega)).trans r6
    have q7 := (HB7.out.cell (p := ⟨w.heap.size + 1, 7, none⟩) (by dsimp only; omega)).trans r7
    have q8 := (HB7.out.cell (p := ⟨w.heap.size + 1, 8, none⟩) (by dsimp only; omega)).trans r8
    have z0 := (HB7.out.frozen (p := ⟨w.heap.size + 1, 0, none⟩) (by dsimp only; omega)).trans s0
    have z1 := (HB7.out.frozen (p := ⟨w.heap.size + 1, 1, none⟩) (by dsimp only; omega)).trans s1
    have z2 := (HB7.out.frozen (p := ⟨w.heap.size + 1, 2, none⟩) (by dsimp only; omega)).trans s2
    have z3 := (HB7.out.frozen (p := ⟨w.heap.size + 1, 3, none⟩) (by dsimp only; omega)).trans s3
    have z4 := (HB7.out.frozen (p := ⟨w.heap.size + 1, 4, none⟩) (by dsimp only; omega)).trans s4
    have z5 := (HB7.out.frozen (p := ⟨w.heap.size + 1, 5, none⟩) (by dsimp only; omega)).trans s5
    have z6 := (HB7.out.frozen (p := ⟨w.heap.size + 1, 6, none⟩) (by dsimp only; omega)).trans s6
    have z7 := (HB7.out.frozen (p := ⟨w.heap.size + 1, 7, none⟩) (by dsimp only; omega)).trans s7
    have z8 := (HB7.out.frozen (p := ⟨w.heap.size + 1, 8, none⟩) (by dsimp only; omega)).trans s8
    have d0' := (hb7.cell (p := ⟨b, 0, none⟩) (by dsimp only; have := hb6s; omega)).trans d0
    have d1' := (hb7.cell (p := ⟨b, 1, none⟩) (by dsimp only; have := hb6s; omega)).trans d1
    have d2' := (hb7.cell (p := ⟨b, 2, none⟩) (by dsimp only; have := hb6s; omega)).trans d2
    have d3' := (hb7.cell (p := ⟨b, 3, none⟩) (by dsimp only; have := hb6s; omega)).trans d3
    have d4' := (hb7.cell (p := ⟨b, 4, none⟩) (by dsimp only; have := hb6s; omega)).trans d4
    have d5' := (hb7.cell (p := ⟨b, 5, none⟩) (by dsimp only; have := hb6s; omega)).trans d5
    have d6' := (hb7.cell (p := ⟨b, 6, none⟩) (by dsimp only; have := hb6s; omega)).trans d6
    have d7' := (hb7.cell (p := ⟨b, 7, none⟩) (by dsimp only; have := hb6s; omega)).trans d7
    have d8' := (hb7.cell (p := ⟨b, 8, none⟩) (by dsimp only; have := hb6s; omega)).trans d8
    clear d0 d1 d2 d3 d4 d5 d6 d7 d8 r0 r1 r2 r3 r4 r5 r6 r7 r8 s0 s1 s2 s3 s4 s5 s6 s7 s8 hB6 hb7
    have h7 := HB7.out.size
    cases hmb : mayB u.x th with
    | false =>
      have HR := hid (show NoP u.x u.lim from Or.inr (Or.inr ⟨th, ms, HOk.out, hmb⟩))
      go_wp2_with fail
      refine bodyPost_ret (v := .tuple #[.agg #[.slice none 0 0, .slice none 0 0, .slice none 0 0, .slice none 0 0, .int .i64 0, .nilFunc, .nilFunc, .nilFunc, .map none], .int .i64 9]) (by simp [results, Tryz.results11, go_sem, q0, q1, q2, q3, q4, q5, q6, q7, q8]) rfl ?_
      exact Or.inr ⟨rfl, HR.out, below_set9 (g := w.heap.size + 1) (HWk.out.trans (HB7.out.mono HWk.out.size)) (by omega)⟩
    | true =>
      have HR := hid (show OkP u.x u.lim th from ⟨⟨ms, HOk.out⟩, l1, l2, l3, hmb⟩)
      go_wp2_with fail
      refine bodyPost_ret (v := .tuple #[viewV u, .int .i64 0]) (by simp [results, Tryz.results11, go_sem, q0, q1, q2, q3, q4, q5, q6, q7, q8]) rfl ?_
      have hb9 := fun v0 v1 v2 v3 v4 v5 v6 v7 v8 => below_set9 (g := w.heap.size + 1) (v0 := v0) (v1 := v1) (v2 := v2) (v3 := v3) (v4 := v4) (v5 := v5) (v6 := v6) (v7 := v7) (v8 := v8) (HWk.out.trans (HB7.out.mono HWk.out.size)) (by omega)
      have hv := HV7.out
      exact Or.inl ⟨u, th, rfl, rfl, rfl, HR.out, viewAt_put rfl HS.out HBg.out HWf.out HE.out hroom (hb9 ..) (by simp) RB7.out (fun k hk => set9_keep _ _ _ hk) hv.gq hv.gc hv.gm hv.rq hv.rc hv.rm hv.vq hv.vb hv.vc hv.beg hv.pm, hb9 ..⟩
end Go.Proofs.YtldmanfgmadbfaaGreatDoor
namespace Go.Proofs.YtldmanfgmadbfaaGreatDoor
set_option maxRecDepth 100000
open HH UU VV
open Go.RowKit Go.Maps Go.WideMaps
section
variable (P : Program) (w : World) (a : Addr) (m : Mode)
theorem st_nilF2 : (store a .nilFunc m).run P w = stored P w a .nilFunc m := run_store P w a _ m rfl
theorem st_func2 (f : Go.Fn) (x y : Array Value) : (store a (.func f x y) m).run P w = stored P w a (.func f x y) m := run_store P w a _ m rfl
end
attribute [local go_sem] st_nilF2 st_func2
def ChkR (x : Wv) (lim : Int) (e : Ending) : Prop := (∃ th, e = .returned (.int .i64 0) ∧ OkP x lim th) ∨ (e = .returned (.int .i64 9) ∧ NoP x lim)
set_option maxRecDepth 1000000 in
set_option maxHeartbeats 1000000 in
theorem vmCheck_any (x : Wv) (lim : Int) (w : World) (hS : subW w (fun b => b < w.heap.size) x) (hb : bigW x) (hw : wfW x) (hE : EffAt w) :
    Calls Tryz.prog 5 #[.agg #[.slice x.fa x.fs.length x.fcap, .slice x.ga x.gs.length x.gcap, .slice x.ra x.rs.length x.rcap, .slice x.ha x.hs.length x.hcap, .int .i64 lim]] w fun e w' => ChkR x lim e ∧ Below w.heap.size w w' := by
  obtain ⟨w2, hw2⟩ : ∃ w2, w2 = w.alloc (.cells #[.slice x.fa x.fs.length x.fcap, .slice x.ga x.gs.length x.gcap, .slice x.ra x.rs.length x.rcap, .slice x.ha x.hs.length x.hcap, .int .i64 lim] 29) := ⟨_, rfl⟩
  have HB2 := hid (show Below w.heap.size w w2 by rw [hw2]; exact (Below.refl _ _).alloc (Nat.le_refl _) _)
  have hcall := newView_any x lim w2 (subW_keep hS (fun b hb' => HB2.out.block b hb') (fun _ hb' => Nat.lt_of_lt_of_le hb' HB2.out.size)) hb hw (hE.below HB2.out hE.lt)
  have H2 := hid hw2
  clear hw2 hS hb hw hE
  go_enter Tryz.func5, Tryz.ntmps5
  go_wp2_with fail
  rw [← H2.out]
  go_fit hcall
  clear hcall
  rintro e wk hr
  rcases hr with ⟨u, th, rfl, -, -, hok, -, hbk⟩ | ⟨rfl, hno, hbk⟩
  · have HR := hid (show ChkR x lim (.returned (.int .i64 0)) from Or.inl ⟨th, rfl, hok⟩)
    have HB := hid (HB2.out.trans (hbk.mono HB2.out.size))
    have hz := HB.out.size
    clear hok hbk
    go_wp2_with fail
    go_ret
    exact ⟨HR.out, HB.out.alloc hz _⟩
  · have HR := hid (show ChkR x lim (.returned (.int .i64 9)) from Or.inr ⟨rfl, hno⟩)
    have HB := hid (HB2.out.trans (hbk.mono HB2.out.size))
    have hz := HB.out.size
    clear hno hbk
    go_wp2_with fail
    go_ret
    exact ⟨HR.out, HB.out.alloc hz _⟩
end Go.Proofs.YtldmanfgmadbfaaGreatDoor
namespace Go.Proofs.YtldmanfgmadbfaaGreatDoor
set_option maxRecDepth 100000
open HH UU VV
open Go.RowKit Go.Maps Go.WideMaps
/-- The first place of a name, from a number on; -1: there is none. -/
def idxF (s : ByteArray) : Nat → List ByteArray → Int
  | _, [] => -1
  | k, a :: r => if a = s then (k : Int) else idxF s (k + 1) r
theorem idxF_cons (s : ByteArray) (k : Nat) (a : ByteArray) (r : List ByteArray) : idxF s k (a :: r) = if a = s then (k : Int) else idxF s (k + 1) r := rfl
theorem idxF_ge (s : ByteArray) (l : List ByteArray) : ∀ k, decide (0 ≤ idxF s k l) = hasS l s := by
  induction l with
  | nil => intro k; rfl
  | cons a r ih =>
    intro k
    rw [idxF_cons]
    by_cases h : a = s
    · rw [if_pos h, Bool.eq_iff_iff, Lib.containsS_iff]; simp [h]
    · rw [if_neg h, ih, Bool.eq_iff_iff, Lib.containsS_iff, Lib.containsS_iff]; simp [Ne.symm h]
set_option maxHeartbeats 2000000 in
theorem globAt_any (v0 v1 v3 v4 : Value) (ga : Option Addr) (gs : List Gl) (gcap : Nat) (s : ByteArray) (w : World) (hS : Cs w (fun b => b < w.heap.size) ga (flatC glC gs)) (hl : gs.length ≤ 9223372036854775807) :
    Calls Tryz.prog 14 #[.agg #[v0, .slice ga gs.length gcap, v1, v3, v4], .string s] w fun e w' => e = .returned (.int .i64 (idxF s 0 (gs.map Gl.name))) ∧ Below w.heap.size w w' := by
  obtain ⟨w2, hw2⟩ : ∃ w2, w2 = w.alloc (.cells #[v0, .slice ga gs.length gcap, v1, v3, v4] 29) := ⟨_, rfl⟩
  have HB2 := hid (show Below w.heap.size w w2 by rw [hw2]; exact (Below.refl _ _).alloc (Nat.le_refl _) _)
  have hc : w2.cell? ⟨w.heap.size, 1, none⟩ = some (.slice ga gs.length gcap) := by rw [hw2]; go_simp
  have HS := hid hS
  have H2 := hid hw2
  clear hw2 hS
  go_enter Tryz.func14, Tryz.ntmps14
  go_wp2_with fail
  rw [← H2.out]
  go_loopw [5] (fun i wr => ∃ k : Nat, k ≤ gs.length ∧ i = .int .i64 k ∧ idxF s 0 (gs.map Gl.name) = idxF s k ((gs.map Gl.name).drop k) ∧ Below (w.heap.size + 1) w2 wr) (fun i _ => gs.length - (intOf i).toNat)
  case atStart => exact ⟨0, Nat.zero_le _, rfl, rfl, Below.refl _ _⟩
  case round =>
    obtain ⟨k, hk, rfl, hx, hwr⟩ := hrel
    have HR := hid hwr
    have HW := hid (HB2.out.trans (hwr.mono (by omega)))
    have hc' := (hwr.cell (p := ⟨w.heap.size, 1, none⟩) (by dsimp only; omega)).trans hc
    clear hwr hc
    by_cases hlt : k < gs.length
    · have hlt2 : (k : Int) < gs.length := by omega
      obtain ⟨b, o, rfl, _, i0, _⟩ := gl_at (Cs.below HS.out HW.out (Nat.le_refl _)) (i := k) hlt
      have hd : (gs.map Gl.name).drop k = (gs[k]'hlt).name :: (gs.map Gl.name).drop (k + 1) := by rw [List.drop_eq_getElem_cons (by simpa using hlt)]; simp
      rw [hd, idxF_cons] at hx
      clear hd
      generalize (gs[k]'hlt).name = nm at i0 hx
      by_cases he : nm = s
      · rw [if_pos he] at hx
        subst he
        have HX := hid hx
        clear hx
        go_wp2
        go_ret
        exact ⟨by rw [HX.out]; rfl, HW.out⟩
      · rw [if_neg he] at hx
        have HX := hid hx
        have hne : (nm.toList == s.toList) = false := by
          rw [beq_eq_false_iff_ne]
          intro q
          exact he (by rw [ByteArray.toList_eq, ByteArray.toList_eq] at q; cases nm; cases s; simp only [ByteArray.mk.injEq]; exact Array.toList_inj.1 q)
        clear hx
        go_wp2
        go_roundw
        case rel => exact ⟨k + 1, by omega, by go_num, HX.out, HR.out⟩
        case measure => simp [intOf]; omega
    · have hke : k = gs.length := by omega
      subst hke
      rw [show (gs.map Gl.name).drop gs.length = [] by simp] at hx
      have HX := hid hx
      clear hx
      go_wp2
      go_ret
      exact ⟨by rw [HX.out]; rfl, HW.out⟩
set_option maxHeartbeats 2000000 in
theorem recAt_any (v0 v1 v3 v4 : Value) (ga : Option Addr) (gs : List Rc) (gcap : Nat) (s : ByteArray) (w : World) (hS : Cs w (fun b => b < w.heap.size) ga (flatC rcC gs)) (hl : gs.length ≤ 9223372036854775807) :
    Calls Tryz.prog 16 #[.agg #[v0, v1, .slice ga gs.length gcap, v3, v4], .string s] w fun e w' => e = .returned (.int .i64 (idxF s 0 (gs.map Rc.name))) ∧ Below w.heap.size w w' := by
  obtain ⟨w2, hw2⟩ : ∃ w2, w2 = w.alloc (.cells #[v0, v1, .slice ga gs.length gcap, v3, v4] 29) := ⟨_, rfl⟩
  have HB2 := hid (show Below w.heap.size w w2 by rw [hw2]; exact (Below.refl _ _).alloc (Nat.le_refl _) _)
  have hc : w2.cell? ⟨w.heap.size, 2, none⟩ = some (.slice ga gs.length gcap) := by rw [hw2]; go_simp
  have HS := hid hS
  have H2 := hid hw2
  clear hw2 hS
  go_enter Tryz.func16, Tryz.ntmps16
  go_wp2_with fail
  rw [← H2.out]
  go_loopw [5] (fun i wr => ∃ k : Nat, k ≤ gs.length ∧ i = .int .i64 k ∧ idxF s 0 (gs.map Rc.name) = idxF s k ((gs.map Rc.name).drop k) ∧ Below (w.heap.size + 1) w2 wr) (fun i _ => gs.length - (intOf i).toNat)
  case atStart => exact ⟨0, Nat.zero_le _, rfl, rfl, Below.refl _ _⟩
  case round =>
    obtain ⟨k, hk, rfl, hx, hwr⟩ := hrel
    have HR := hid hwr
    have HW := hid (HB2.out.trans (hwr.mono (by omega)))
    have hc' := (hwr.cell (p := ⟨w.heap.size, 2, none⟩) (by dsimp only; omega)).trans hc
    clear hwr hc
    by_cases hlt : k < gs.length
    · have hlt2 : (k : Int) < gs.length := by omega
      obtain ⟨b, o, rfl, _, i0, _⟩ := rc_at (Cs.below HS.out HW.out (Nat.le_refl _)) (i := k) hlt
      have hd : (gs.map Rc.name).drop k = (gs[k]'hlt).name :: (gs.map Rc.name).drop (k + 1) := by rw [List.drop_eq_getElem_cons (by simpa using hlt)]; simp
      rw [hd, idxF_cons] at hx
      clear hd
      generalize (gs[k]'hlt).name = nm at i0 hx
      by_cases he : nm = s
      · rw [if_pos he] at hx
        subst he
        have HX := hid hx
        clear hx
        go_wp2
        go_ret
        exact ⟨by rw [HX.out]; rfl, HW.out⟩
      · rw [if_neg he] at hx
        have HX := hid hx
        have hne : (nm.toList == s.toList) = false := by
          rw [beq_eq_false_iff_ne]
          intro q
          exact he (by rw [ByteArray.toList_eq, ByteArray.toList_eq] at q; cases nm; cases s; simp only [ByteArray.mk.injEq]; exact Array.toList_inj.1 q)
        clear hx
        go_wp2
        go_roundw
        case rel => exact ⟨k + 1, by omega, by go_num, HX.out, HR.out⟩
        case measure => simp [intOf]; omega
    · have hke : k = gs.length := by omega
      subst hke
      rw [show (gs.map Rc.name).drop gs.length = [] by simp] at hx
      have HX := hid hx
      clear hx
      go_wp2
      go_ret
      exact ⟨by rw [HX.out]; rfl, HW.out⟩
end Go.Proofs.YtldmanfgmadbfaaGreatDoor
namespace Go.Proofs.YtldmanfgmadbfaaGreatDoor
set_option maxRecDepth 100000
open HH UU VV
open Go.RowKit Go.Maps Go.WideMaps
/-- The document's operators of a move. -/
def pureO (op : Int) : Bool := decide (op = 1 ∨ op = 2 ∨ op = 3 ∨ op = 14 ∨ op = 15 ∨ op = 16 ∨ op = 17 ∨ op = 18)
theorem pure_out (i : Ins) (h : 1 ≤ i.op ∧ i.op ≤ 22) : pureO i.op = !outM i := by
  obtain ⟨op, a, b, s, t, w⟩ := i
  dsimp only at h ⊢
  have hcase : op = 1 ∨ op = 2 ∨ op = 3 ∨ op = 4 ∨ op = 5 ∨ op = 6 ∨ op = 7 ∨ op = 8 ∨ op = 9 ∨ op = 10 ∨ op = 11 ∨ op = 12 ∨ op = 13 ∨ op = 14 ∨ op = 15 ∨ op = 16 ∨ op = 17 ∨ op = 18 ∨ op = 19 ∨ op = 20 ∨ op = 21 ∨ op = 22 := by omega
  rcases hcase with rfl | rfl | rfl | rfl | rfl | rfl | rfl | rfl | rfl | rfl | rfl | rfl | rfl | rfl | rfl | rfl | rfl | rfl | rfl | rfl | rfl | rfl <;> rfl
set_option maxHeartbeats 4000000 in
theorem pureMay_any (p l c : Int) (a : Option Addr) (code : List Ins) (cap : Nat) (w : World) (hC : Cs w (fun b => b < w.heap.size) a (flatC insC code)) (hn : code.length ≤ 9223372036854775807) :
    Calls Tryz.prog 40 #[.agg #[.int .i64 p, .int .i64 l, .int .i64 c, .slice a code.length cap]] w fun e w' => e = .returned (.bool (code.all fun i => pureO i.op)) ∧ Below w.heap.size w w' := by
  obtain ⟨w2, hw2⟩ : ∃ w2, w2 = w.alloc (.cells #[.int .i64 p, .int .i64 l, .int .i64 c, .slice a code.length cap] 63) := ⟨_, rfl⟩
  have HB2 := hid (show Below w.heap.size w w2 by rw [hw2]; exact (Below.refl _ _).alloc (Nat.le_refl _) _)
  have hc : w2.cell? ⟨w.heap.size, 3, none⟩ = some (.slice a code.length cap) := by rw [hw2]; go_simp
  have HS := hid hC
  have H2 := hid hw2
  clear hw2 hC
  go_enter Tryz.func40, Tryz.ntmps40
  go_wp2_with fail
  rw [← H2.out]
  go_loopw [3] (fun i wr => ∃ k : Nat, k ≤ code.length ∧ i = .int .i64 k ∧ (code.take k).all (fun i => pureO i.op) = true ∧ Below (w.heap.size + 1) w2 wr) (fun i _ => code.length - (intOf i).toNat)
  case atStart => exact ⟨0, Nat.zero_le _, rfl, rfl, Below.refl _ _⟩
  case round =>
    obtain ⟨k, hk, rfl, hx, hwr⟩ := hrel
    have HR := hid hwr
    have HAl := hid hx
    have HW := hid (HB2.out.trans (hwr.mono (by omega)))
    have hc' := (hwr.cell (p := ⟨w.heap.size, 3, none⟩) (by dsimp only; omega)).trans hc
    clear hwr hc hx
    by_cases hlt : k < code.length
    · have hlt2 : (k : Int) < code.length := by omega
      obtain ⟨b, o, rfl, _, i0, _⟩ := ins_at (Cs.below HS.out HW.out (Nat.le_refl _)) (i := k) hlt
      have HYes := hid (fun h => take_all (f := fun i : Ins => pureO i.op) HAl.out hlt h)
      have HNo := hid (fun h => all_no (f := fun i : Ins => pureO i.op) hlt h)
      generalize (code[k]'hlt).op = op at i0 HYes HNo
      by_cases he : pureO op = true
      · have HX := hid (HYes.out he)
        have hcase : op = 1 ∨ op = 2 ∨ op = 3 ∨ op = 14 ∨ op = 15 ∨ op = 16 ∨ op = 17 ∨ op = 18 := by simpa [pureO] using he
        clear he HYes HNo
        rcases hcase with rfl | rfl | rfl | rfl | rfl | rfl | rfl | rfl
        all_goals
          go_wp2
          go_roundw
          case rel => exact ⟨k + 1, by omega, by go_num, HX.out, HR.out⟩
          case measure => simp [intOf]; omega
      · have HX := hid (HNo.out (by simpa using he))
        have hno : op ≠ 1 ∧ op ≠ 2 ∧ op ≠ 3 ∧ op ≠ 14 ∧ op ≠ 15 ∧ op ≠ 16 ∧ op ≠ 17 ∧ op ≠ 18 := by
          have : ¬ (op = 1 ∨ op = 2 ∨ op = 3 ∨ op = 14 ∨ op = 15 ∨ op = 16 ∨ op = 17 ∨ op = 18) := by simpa [pureO] using he
          omega
        obtain ⟨n1, n2, n3, n14, n15, n16, n17, n18⟩ := hno
        have e1 : (op == 1) = false := by simp [n1]
        have e2 : (op == 2) = false := by simp [n2]
        have e3 : (op == 3) = false := by simp [n3]
        have e14 : (op == 14) = false := by simp [n14]
        have e15 : (op == 15) = false := by simp [n15]
        have e16 : (op == 16) = false := by simp [n16]
        have e17 : (op == 17) = false := by simp [n17]
        have e18 : (op == 18) = false := by simp [n18]
        clear he HYes HNo n1 n2 n3 n14 n15 n16 n17 n18
        go_wp2
        go_ret
        exact ⟨ret_bool HX.out.symm, HW.out⟩
    · have hke : k = code.length := by omega
      have HX := hid (show code.all (fun i => pureO i.op) = true from by have := HAl.out; rw [hke, List.take_length] at this; exact this)
      have hlt2 : ¬ (k : Int) < code.length := by omega
      go_wp2
      go_ret
      exact ⟨ret_bool HX.out.symm, HW.out⟩
end Go.Proofs.YtldmanfgmadbfaaGreatDoor
namespace Go.Proofs.YtldmanfgmadbfaaGreatDoor
set_option maxRecDepth 100000
open HH UU VV
theorem idx_first (l : List ByteArray) : ∀ (k i : Nat) (h : i < l.length), decide (idxF l[i] k l = ((k + i : Nat) : Int)) = !hasS (l.take i) l[i] := by
  induction l with
  | nil => intro k i h; simp at h
  | cons a r ih =>
    intro k i h
    rw [Bool.eq_iff_iff, decide_eq_true_eq, Bool.not_eq_true', ← Bool.not_eq_true, Lib.containsS_iff]
    cases i with
    | zero => simp [idxF_cons]
    | succ i =>
      have h2 : i < r.length := by simpa using h
      have h3 := ih (k + 1) i h2
      rw [Bool.eq_iff_iff, decide_eq_true_eq, Bool.not_eq_true', ← Bool.not_eq_true, Lib.containsS_iff] at h3
      simp only [List.getElem_cons_succ, List.take_succ_cons, List.mem_cons, not_or]
      rw [idxF_cons]
      by_cases he : a = r[i]
      · rw [if_pos he]
        constructor
        · intro q; omega
        · intro q; exact absurd he.symm q.1
      · rw [if_neg he, show k + (i + 1) = k + 1 + i by omega, h3]
        exact ⟨fun q => ⟨fun e => he e.symm, q⟩, fun q => q.2⟩
theorem first_zero (f : Nat → Int) : ∀ (m i : Nat), firstI f i m = 0 ↔ ∀ j, i ≤ j → j < i + m → f j = 0 := by
  intro m
  induction m with
  | zero => intro i; exact ⟨fun _ j h1 h2 => by omega, fun _ => rfl⟩
  | succ m ih =>
    intro i
    unfold firstI
    by_cases h : f i = 0
    · rw [if_pos h, ih]
      constructor
      · intro q j h1 h2
        by_cases e : j = i
        · rw [e]; exact h
        · exact q j (by omega) (by omega)
      · intro q j h1 h2; exact q j (by omega) (by omega)
    · rw [if_neg h]
      exact ⟨fun q => absurd q h, fun q => absurd (q i (Nat.le_refl _) (by omega)) h⟩
/-- The document's pureMay is the program's, whatever the operators are. -/
theorem pure_out' (i : Ins) : pureO i.op = !outM i := by
  by_cases h : 1 ≤ i.op ∧ i.op ≤ 22
  · exact pure_out i h
  · have hf : outM i = true := by
      unfold outM effAt
      rw [Bool.not_eq_true']
      by_cases h2 : i.op < 1
      · rw [show i.op.toNat = 0 by omega]; rfl
      · rw [List.getD_eq_getElem?_getD, List.getElem?_eq_none (by simp [effs]; omega)]; rfl
    rw [hf]
    unfold pureO
    simp; omega
/-- A field's move, as the document has it. -/
def moveD (fs : List VV.Fn) (n : Nat) (i : Int) : Bool := belB i fs.length && (match fs[i.toNat]? with
  | none => false
  | some f => decide (f.p = n) && (decide (f.c = 0) && f.code.all (fun i => pureO i.op)))
theorem move_same (fs : List VV.Fn) (n : Nat) (i : Int) : moveD fs n i = moveB fs n i := by
  unfold moveD moveB
  cases fs[i.toNat]? with
  | none => rfl
  | some f =>
    have e : (f.code.all fun i => pureO i.op) = !(f.code.any outM) := by
      rw [List.not_any_eq_all_not]
      simp only [pure_out']
    simp only [e]
def mvD (fs : List VV.Fn) (r : Rc) (i : Nat) : Bool := match r.ms[i]?, r.vs[i]?, r.vs[i + 1]? with
  | some m, some o, some s => decide (m.l.length = s.fs.length) && m.l.all (moveD fs o.fs.length)
  | _, _, _ => true
def recD (fs : List VV.Fn) (r : Rc) : Bool :=
  inB r.vs.length 1 20 && (decide ((r.ms.length : Int) = (r.vs.length : Int) - 1) && (r.vs.all (fun s => decide (s.name = r.name) && decide (shapeI s.name s.fs = 0)) && (List.range r.ms.length).all (mvD fs r)))
theorem rec_same (fs : List VV.Fn) (r : Rc) : recD fs r = recB fs r := by
  unfold recD recB
  have h1 : inB (r.vs.length : Int) 1 20 = belB ((r.vs.length : Int) - 1) 20 := by
    unfold inB belB
    rw [Bool.eq_iff_iff]
    simp only [Bool.and_eq_true, decide_eq_true_eq]
    omega
  rw [h1]
  congr 1
  by_cases hm : (r.ms.length : Int) = (r.vs.length : Int) - 1
  · rw [decide_eq_true hm, Bool.true_and, Bool.true_and, Bool.eq_iff_iff, Bool.and_eq_true, List.all_eq_true, List.all_eq_true, List.all_eq_true]
    have hle : r.vs.length = r.ms.length + 1 := by omega
    constructor
    · rintro ⟨q1, q2⟩ i hi
      have hi : i < r.vs.length := List.mem_range.1 hi
      have h3 := q1 _ (List.getElem_mem hi)
      rw [Bool.and_eq_true] at h3
      rw [verB_at hi, h3.1, h3.2]
      cases i with
      | zero => rfl
      | succ j =>
        have hj : j < r.ms.length := by omega
        have h4 := q2 j (List.mem_range.2 hj)
        unfold mvD at h4
        rw [List.getElem?_eq_getElem hj, List.getElem?_eq_getElem (show j < r.vs.length by omega), List.getElem?_eq_getElem hi] at h4
        simp only [Nat.add_sub_cancel]
        rw [List.getElem?_eq_getElem hj, List.getElem?_eq_getElem (show j < r.vs.length by omega)]
        simp only [Bool.true_and]
        rw [Bool.or_eq_true]
        refine Or.inr ?_
        simp only [funext (move_same fs _)] at h4
        exact h4
    · intro q
      refine ⟨fun s hs => ?_, fun j hj => ?_⟩
      · obtain ⟨i, hi, rfl⟩ := List.mem_iff_getElem.1 hs
        have h3 := q i (List.mem_range.2 hi)
        rw [verB_at hi, Bool.and_eq_true, Bool.and_eq_true] at h3
        rw [h3.1, h3.2.1]; rfl
      · have hj : j < r.ms.length := List.mem_range.1 hj
        have hi : j + 1 < r.vs.length := by omega
        have h3 := q (j + 1) (List.mem_range.2 hi)
        rw [verB_at hi, Bool.and_eq_true, Bool.and_eq_true, Bool.or_eq_true] at h3
        have h4 := h3.2.2
        unfold mvD
        rw [List.getElem?_eq_getElem hj, List.getElem?_eq_getElem (show j < r.vs.length by omega), List.getElem?_eq_getElem hi]
        simp only [Nat.add_sub_cancel] at h4
        rw [List.getElem?_eq_getElem hj, List.getElem?_eq_getElem (show j < r.vs.length by omega)] at h4
        simp only [funext (move_same fs _)]
        rcases h4 with h4 | h4
        · simp at h4
        · exact h4
  · rw [decide_eq_false hm, Bool.false_and, Bool.false_and]
/-- A global's name, a record's. -/
def nameD (l : List ByteArray) (i : Nat) : Bool := match l[i]? with
  | none => true
  | some s => freeB s.data.toList && decide (idxF s 0 l = i)
theorem nameD_at {l : List ByteArray} {i : Nat} (h : i < l.length) : nameD l i = (freeB l[i].data.toList && !hasS (l.take i) l[i]) := by
  unfold nameD
  rw [List.getElem?_eq_getElem h]
  have := idx_first l 0 i h
  rw [Nat.zero_add] at this
  simp only [this]
theorem glob_zero {l : List ByteArray} {i : Nat} (h : i < l.length) : globI l i = 0 ↔ nameD l i = true := by
  rw [globI_at l i h, nameD_at h]
  cases freeB l[i].data.toList <;> cases hasS (l.take i) l[i] <;> simp
theorem rec_zero {l : List UU.Sh} {i : Nat} (h : i < l.length) (hs : shapeI l[i].name l[i].fs = 0) : recI l i = 0 ↔ nameD (namesOf l) i = true := by
  have hn : i < (namesOf l).length := by simpa [namesOf] using h
  have hf : freeB (l[i].name).data.toList = true := by
    cases hf : freeB (l[i].name).data.toList with
    | true => rfl
    | false => rw [shapeI_free hf] at hs; cases hs
  rw [recI_at l i h, nameD_at hn, namesOf_get, if_neg (by simp [hs]), hf, Bool.true_and]
  have e : hasS ((namesOf l).take i) l[i].name = decide (0 ≤ posI l i l[i].name) := rfl
  rw [e]
  by_cases hp : 0 ≤ posI l i l[i].name
  · rw [if_pos hp]; simp [hp]
  · rw [if_neg hp]; simp [hp]
/-- Names, where all records may be. -/
theorem names_same (x : Wv) (hg : x.gs.length ≤ 40) (hr : x.rs.length ≤ 8) (hR : x.rs.all (recB x.fs) = true) :
    namesB x = ((List.range x.gs.length).all (nameD (x.gs.map Gl.name)) && (List.range x.rs.length).all (nameD (x.rs.map Rc.name))) := by
  have hver : ∀ r, r ∈ x.rs → (r.vs.getD 0 shZ).name = r.name ∧ shapeI (r.vs.getD 0 shZ).name (r.vs.getD 0 shZ).fs = 0 := by
    intro r hr
    have h := List.all_eq_true.1 hR r hr
    unfold recB at h
    rw [Bool.and_eq_true, Bool.and_eq_true, List.all_eq_true] at h
    have h0 : 0 < r.vs.length := by
      have := h.1
      unfold belB at this
      simp only [Bool.and_eq_true, decide_eq_true_eq] at this
      omega
    have h1 := h.2.2 0 (List.mem_range.2 h0)
    rw [verB_at h0, Bool.and_eq_true, Bool.and_eq_true, decide_eq_true_eq, decide_eq_true_eq] at h1
    rw [List.getD_eq_getElem?_getD, List.getElem?_eq_getElem h0]
    exact ⟨h1.1, h1.2.1⟩
  have hnm : namesOf ((firsts x.rs).map toU) = x.rs.map Rc.name := by
    unfold namesOf firsts
    rw [List.map_map, List.map_map]
    refine List.map_congr_left fun r hr => ?_
    exact (hver r hr).1
  have hln : ((firsts x.rs).map toU).length = x.rs.length := by simp [firsts]
  have hsh : ∀ i (h : i < ((firsts x.rs).map toU).length), shapeI (((firsts x.rs).map toU)[i]).name (((firsts x.rs).map toU)[i]).fs = 0 := by
    intro i h
    have h2 : i < x.rs.length := by omega
    have := (hver _ (List.getElem_mem h2)).2
    simpa [firsts, toU] using this
  unfold namesB
  rw [Bool.eq_iff_iff, decide_eq_true_eq, Bool.and_eq_true, List.all_eq_true, List.all_eq_true]
  have hmany : ¬ (40 < (x.gs.map Gl.name).length ∨ 8 < ((firsts x.rs).map toU).length) := by rw [hln, List.length_map]; omega
  have hG : firstI (globI (x.gs.map Gl.name)) 0 (x.gs.map Gl.name).length = 0 ↔ ∀ i ∈ List.range x.gs.length, nameD (x.gs.map Gl.name) i = true := by
    rw [first_zero]
    constructor
    · intro q i hi
      have hi := List.mem_range.1 hi
      exact (glob_zero (by simpa using hi)).1 (q i (Nat.zero_le _) (by simpa using hi))
    · intro q i _ hi
      have hi : i < x.gs.length := by simpa using hi
      exact (glob_zero (by simpa using hi)).2 (q i (List.mem_range.2 hi))
  have hRR : firstI (recI ((firsts x.rs).map toU)) 0 ((firsts x.rs).map toU).length = 0 ↔ ∀ i ∈ List.range x.rs.length, nameD (x.rs.map Rc.name) i = true := by
    rw [first_zero]
    constructor
    · intro q i hi
      have hi := List.mem_range.1 hi
      have hi2 : i < ((firsts x.rs).map toU).length := by omega
      have := (rec_zero hi2 (hsh i hi2)).1 (q i (Nat.zero_le _) (by omega))
      rwa [hnm] at this
    · intro q i _ hi
      have hi2 : i < ((firsts x.rs).map toU).length := by omega
      refine (rec_zero hi2 (hsh i hi2)).2 ?_
      rw [hnm]
      exact q i (List.mem_range.2 (by omega))
  by_cases h0 : firstI (globI (x.gs.map Gl.name)) 0 (x.gs.map Gl.name).length = 0
  · rw [envI_rec hmany h0, hRR]
    exact ⟨fun q => ⟨hG.1 h0, q⟩, fun q => q.2⟩
  · rw [envI_glob hmany h0]
    exact ⟨fun q => absurd q h0, fun q => absurd (hG.2 q.1) h0⟩
/-- At a place, if there is one. -/
def atD {α : Type} (l : List α) (f : α → Bool) (i : Nat) : Bool := match l[i]? with
  | none => true
  | some y => f y
/-- May a world be, as the document has it. -/
def docB (x : Wv) (th : List Th) : Bool :=
  (List.range x.gs.length).all (fun i => nameD (x.gs.map Gl.name) i && atD x.gs (fun y => okV x.hs.length th y.w) i) &&
  ((List.range x.rs.length).all (fun i => nameD (x.rs.map Rc.name) i && atD x.rs (recD x.fs) i) &&
  (x.fs.all (funcD (ctxOf x)) && th.all (standB x x.hs)))
theorem range_all {α : Type} (l : List α) (f : α → Bool) : (List.range l.length).all (atD l f) = l.all f := by
  rw [Bool.eq_iff_iff, List.all_eq_true, List.all_eq_true]
  constructor
  · intro q y hy
    obtain ⟨i, hi, rfl⟩ := List.mem_iff_getElem.1 hy
    have := q i (List.mem_range.2 hi)
    unfold atD at this
    rw [List.getElem?_eq_getElem hi] at this
    exact this
  · intro q i hi
    have hi := List.mem_range.1 hi
    unfold atD
    rw [List.getElem?_eq_getElem hi]
    exact q _ (List.getElem_mem hi)
theorem all_both {α : Type} (l : List α) (f g : α → Bool) : (l.all fun i => f i && g i) = (l.all f && l.all g) := by
  induction l with
  | nil => rfl
  | cons a r ih =>
    simp only [List.all_cons, ih]
    cases f a <;> cases g a <;> cases r.all f <;> simp
theorem doc_same (x : Wv) (th : List Th) (hg : x.gs.length ≤ 40) (hr : x.rs.length ≤ 8) : docB x th = mayB x th := by
  unfold docB mayB
  rw [all_both, all_both, range_all, range_all, show recD x.fs = recB x.fs from funext (rec_same x.fs), ← funcs_same (ctxOf x) x.fs rfl]
  cases hR : x.rs.all (recB x.fs) with
  | false => simp
  | true =>
    have hn := names_same x hg hr hR
    unfold namesB at hn
    rw [hn]
    cases x.fs.all (funcB (ctxOf x)) <;> cases (List.range x.gs.length).all (nameD (x.gs.map Gl.name)) <;> cases (List.range x.rs.length).all (nameD (x.rs.map Rc.name)) <;> cases x.gs.all (fun y => okV x.hs.length th y.w) <;> cases th.all (standB x x.hs) <;> rfl
end Go.Proofs.YtldmanfgmadbfaaGreatDoor

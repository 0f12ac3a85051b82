/- A record of what was made: MoveFinds's rec; the heap in its box. -/
import Derived.Test.YtghaididbhjpaaaHMvQ
import Derived.Test.YtghaididbhjpaaaHMove2
import Derived.BigQuiet
namespace Go.Proofs.Ytghaididbhjpaaa
set_option maxRecDepth 100000
open Go.RowKit Go.Maps
theorem wds_four (w : World) (k : Int) (v : Wd) (t : TypeId) : Wds (w.alloc (.cells #[.int .i64 9, .int .i64 0, .string ⟨#[]⟩, .int .i64 1, .int .i64 k, .string ⟨#[]⟩, .int .i64 1, .int .i64 1, .string ⟨#[]⟩, .int .i64 v.k, .int .i64 v.n, .string v.s] t)) (w.heap.size + 1) (some ⟨w.heap.size, 0, none⟩) (recw k v) := by
  intro i hi
  match i, hi with
  | 0, _ => refine ⟨w.heap.size, 0, rfl, by omega, ?_, ?_, ?_⟩ <;> (simp only [recw, Nat.zero_mul, Nat.zero_add, List.getElem_cons_zero]; go_simp)
  | 1, _ => refine ⟨w.heap.size, 0, rfl, by omega, ?_, ?_, ?_⟩ <;> (simp only [recw, Nat.one_mul, Nat.zero_add, List.getElem_cons_zero, List.getElem_cons_succ]; go_simp)
  | 2, _ => refine ⟨w.heap.size, 0, rfl, by omega, ?_, ?_, ?_⟩ <;> (simp only [recw, Nat.zero_add, List.getElem_cons_zero, List.getElem_cons_succ]; go_simp)
  | 3, _ => refine ⟨w.heap.size, 0, rfl, by omega, ?_, ?_, ?_⟩ <;> (simp only [recw, Nat.zero_add, List.getElem_cons_zero, List.getElem_cons_succ]; go_simp)
theorem wds_two (w : World) (x y : Int) (t : TypeId) : Wds (w.alloc (.cells #[.int .i64 5, .int .i64 x, .string ⟨#[]⟩, .int .i64 5, .int .i64 y, .string ⟨#[]⟩] t)) (w.heap.size + 1) (some ⟨w.heap.size, 0, none⟩) [⟨5, x, ⟨#[]⟩⟩, ⟨5, y, ⟨#[]⟩⟩] := by
  intro i hi
  match i, hi with
  | 0, _ => refine ⟨w.heap.size, 0, rfl, by omega, ?_, ?_, ?_⟩ <;> (simp only [Nat.zero_mul, Nat.zero_add, List.getElem_cons_zero]; go_simp)
  | 1, _ => refine ⟨w.heap.size, 0, rfl, by omega, ?_, ?_, ?_⟩ <;> (simp only [Nat.one_mul, Nat.zero_add, List.getElem_cons_zero, List.getElem_cons_succ]; go_simp)
theorem wf_rec {k : Int} {v : Wd} (hk : wfI k) (hv : wfI v.n ∧ v.s.size ≤ 9223372036854775807) : wfL (recw k v) := by
  intro i hi
  match i, hi with
  | 0, _ => exact (⟨by decide, by decide⟩ : wfI 0 ∧ (⟨#[]⟩ : ByteArray).size ≤ 9223372036854775807)
  | 1, _ => exact (⟨hk, by decide⟩ : wfI k ∧ (⟨#[]⟩ : ByteArray).size ≤ 9223372036854775807)
  | 2, _ => exact (⟨by decide, by decide⟩ : wfI 1 ∧ (⟨#[]⟩ : ByteArray).size ≤ 9223372036854775807)
  | 3, _ => exact hv
set_option maxHeartbeats 2000000 in
theorem rec_any (w : World) (g : Nat) (am : Option Addr) (mL capm : Nat) (M : List Wd) (k : Int) (_hg : g < w.heap.size) (hc : w.cell? ⟨g, 0, none⟩ = some (.slice am mL capm)) (hM : Wds w w.heap.size am M) (hmL : mL = M.length) (h2 : 2 ≤ mL) (h40 : mL ≤ 40) (hk0 : 0 ≤ k) (hk1 : k ≤ 10) :
    Calls Try.prog 8 #[.int .i64 k, .pointer (some ⟨g, 0, none⟩)] w fun e w' => ∃ v g6, e = .returned (.slice (some ⟨g6, 0, none⟩) 4 4) ∧ v ∈ M ∧ Below w.heap.size w w' ∧ Wds w' w'.heap.size (some ⟨g6, 0, none⟩) (recw k v) := by
  obtain ⟨hp0, hp1⟩ := pick_range k mL (by omega)
  have HP := hid (fun w' => picked_any k mL w' (by omega) (by omega) (by omega) (by omega))
  obtain ⟨j, hj⟩ := Int.eq_ofNat_of_zero_le hp0
  rw [hj] at HP hp1
  have hjl : j < M.length := by omega
  have hjm : (j : Int) < mL := hp1
  obtain ⟨b, o, rfl, hb, c0, c1, c2⟩ := hM j hjl
  have HMem := hid (List.getElem_mem hjl)
  have HF := hid (fun w' => wds_four w' k M[j] 29)
  generalize M[j] = v at *
  obtain ⟨vk, vn, vs⟩ := v
  dsimp only at c0 c1 c2 HF
  clear hM hmL hp0 hj hjl
  go_enter Try.func8, Try.ntmps8
  go_wp2_with fail
  go_region_with (go_at_call 9; refine (HP.out _).mono ?_; rintro e w' ⟨rfl, rfl⟩)
  all_goals
    go_wp2_with fail
    go_ret
    refine ⟨⟨vk, vn, vs⟩, w.heap.size, rfl, HMem.out, ?_, ?_⟩
    · exact (bdrew (Below.refl _ _) 1).alloc (Nat.le_refl _) _
    · have h := HF.out w
      exact (h.kept (w' := (w.drew.alloc (.cells #[.int .i64 9, .int .i64 0, .string ⟨#[]⟩, .int .i64 1, .int .i64 k, .string ⟨#[]⟩, .int .i64 1, .int .i64 1, .string ⟨#[]⟩, .int .i64 vk, .int .i64 vn, .string vs] 29))) (by simp) (fun _ _ => rfl))
/-- The heap in its box, and what was made in the one behind it. -/
structure MvW (w5 wx : World) (hb : Nat) (l : List Wd) : Prop where
  bel : Below hb w5 wx
  made : wx.heap[hb + 1]? = w5.heap[hb + 1]?
  c0 : ∃ a cap, wx.cell? ⟨hb, 0, none⟩ = some (.slice a l.length cap) ∧ l.length ≤ cap ∧ Wds wx wx.heap.size a l ∧ ∀ A, a = some A → 0 < l.length → ¬ A.block = hb
  c1 : wx.cell? ⟨hb, 1, none⟩ = some (.int .i64 600)
  f0 : wx.frozen? ⟨hb, 0, none⟩ = false
  f1 : wx.frozen? ⟨hb, 1, none⟩ = false
  sz : hb + 2 ≤ wx.heap.size
theorem MvW.below {w5 wx wy : World} {hb : Nat} {l : List Wd} (h : MvW w5 wx hb l) (hb' : Below wx.heap.size wx wy) : MvW w5 wy hb l := by
  have hz := hb'.size
  have hs := h.sz
  obtain ⟨a, cap, h1, h2, h3, h4⟩ := h.c0
  exact ⟨h.bel.trans (hb'.mono (by omega)), (hb'.block _ (by omega)).trans h.made, ⟨a, cap, (hb'.cell (p := ⟨hb, 0, none⟩) (by dsimp only; omega)).trans h1, h2, (h3.below hb').mono hz, h4⟩, (hb'.cell (p := ⟨hb, 1, none⟩) (by dsimp only; omega)).trans h.c1, (hb'.frozen (p := ⟨hb, 0, none⟩) (by dsimp only; omega)).trans h.f0, (hb'.frozen (p := ⟨hb, 1, none⟩) (by dsimp only; omega)).trans h.f1, by omega⟩
/-- Another heap is laid into the box. -/
theorem MvW.set {w5 wx : World} {hb : Nat} {l l' : List Wd} (h : MvW w5 wx hb l) {a : Option Addr} {cap n : Nat} (hW : Wds wx wx.heap.size a l') (hc : n ≤ cap) (hn : n = l'.length) (hf : ∀ A, a = some A → ¬ A.block = hb) : MvW w5 ((wx.setCell ⟨hb, 0, none⟩ (.slice a n cap)).setCell ⟨hb, 1, none⟩ (.int .i64 600)) hb l' := by
  subst hn
  obtain ⟨_, _, h1, _⟩ := h.c0
  have hoth : ∀ b, ¬ b = hb → ((wx.setCell ⟨hb, 0, none⟩ (.slice a l'.length cap)).setCell ⟨hb, 1, none⟩ (.int .i64 600)).heap[b]? = wx.heap[b]? := fun b hb' => by
    rw [Below.heap_setCell _ _ _ _ hb', Below.heap_setCell _ _ _ _ hb']
  refine ⟨(h.bel.setCell (p := ⟨hb, 0, none⟩) (Nat.le_refl _) _).setCell (p := ⟨hb, 1, none⟩) (Nat.le_refl _) _, (hoth _ (by omega)).trans h.made, ⟨a, cap, ?_, hc, hW.kept (by simp) (fun A hA => hoth _ (hf A hA)), fun A hA _ => hf A hA⟩, ?_, by simpa using h.f0, by simpa using h.f1, by simpa using h.sz⟩
  · rw [World.cell?_setCell_other _ _ _ _ (by intro e; injection e with _ e; omega)]; exact World.cell?_setCell_same _ _ _ h1
  · exact World.cell?_setCell_same _ _ _ ((World.cell?_setCell_other _ _ _ _ (by intro e; injection e with _ e; omega)).trans h.c1)
/-- Another heap is laid into the box, and into one of its own ahead. -/
theorem MvW.set2 {w5 wx : World} {hb : Nat} {l l' : List Wd} (h : MvW w5 wx hb l) {a : Option Addr} {cap n g : Nat} (hg : hb + 2 ≤ g) (hW : Wds wx wx.heap.size a l') (hc : n ≤ cap) (hn : n = l'.length) (hf : ∀ A, a = some A → ¬ A.block = hb ∧ ¬ A.block = g) : MvW w5 ((((wx.setCell ⟨g, 0, none⟩ (.slice a n cap)).setCell ⟨g, 1, none⟩ (.int .i64 600)).setCell ⟨hb, 0, none⟩ (.slice a n cap)).setCell ⟨hb, 1, none⟩ (.int .i64 600)) hb l' := by
  subst hn
  obtain ⟨_, _, h1, _⟩ := h.c0
  have hgh : ¬ g = hb := by omega
  have hothg : ∀ b, ¬ b = g → ((wx.setCell ⟨g, 0, none⟩ (.slice a l'.length cap)).setCell ⟨g, 1, none⟩ (.int .i64 600)).heap[b]? = wx.heap[b]? := fun b hb' => by
    rw [Below.heap_setCell _ _ _ _ hb', Below.heap_setCell _ _ _ _ hb']
  have hk : hb < wx.heap.size := by have := h.sz; omega
  have hhb := hothg hb (fun e => hgh e.symm)
  have hB : Below hb wx ((wx.setCell ⟨g, 0, none⟩ (.slice a l'.length cap)).setCell ⟨g, 1, none⟩ (.int .i64 600)) := below_set2s (Below.refl _ _) (by omega)
  have hWy : Wds ((wx.setCell ⟨g, 0, none⟩ (.slice a l'.length cap)).setCell ⟨g, 1, none⟩ (.int .i64 600)) ((wx.setCell ⟨g, 0, none⟩ (.slice a l'.length cap)).setCell ⟨g, 1, none⟩ (.int .i64 600)).heap.size a l' := hW.kept (by simp) (fun A hA => hothg _ (hf A hA).2)
  generalize (wx.setCell ⟨g, 0, none⟩ (.slice a l'.length cap)).setCell ⟨g, 1, none⟩ (.int .i64 600) = wy at *
  have hoth : ∀ b, ¬ b = hb → ((wy.setCell ⟨hb, 0, none⟩ (.slice a l'.length cap)).setCell ⟨hb, 1, none⟩ (.int .i64 600)).heap[b]? = wy.heap[b]? := fun b hb' => by
    rw [Below.heap_setCell _ _ _ _ hb', Below.heap_setCell _ _ _ _ hb']
  have q0 := (World.cell?_of_block (w := wx) (a := ⟨hb, 0, none⟩) hhb).trans h1
  have q1 := (World.cell?_of_block (w := wx) (a := ⟨hb, 1, none⟩) hhb).trans h.c1
  have e0 := (World.frozen?_of_block (w := wx) (a := ⟨hb, 0, none⟩) hhb).trans h.f0
  have e1 := (World.frozen?_of_block (w := wx) (a := ⟨hb, 1, none⟩) hhb).trans h.f1
  have hs := hB.size
  have hsz := h.sz
  refine ⟨((h.bel.trans hB).setCell (p := ⟨hb, 0, none⟩) (Nat.le_refl _) _).setCell (p := ⟨hb, 1, none⟩) (Nat.le_refl _) _, (hoth _ (by omega)).trans ((hothg _ (by omega)).trans h.made), ⟨a, cap, ?_, hc, hWy.kept (by simp) (fun A hA => hoth _ (hf A hA).1), fun A hA _ => (hf A hA).1⟩, ?_, by simpa using e0, by simpa using e1, ?_⟩
  · rw [World.cell?_setCell_other _ _ _ _ (by intro e; injection e with _ e; omega)]; exact World.cell?_setCell_same _ _ _ q0
  · exact World.cell?_setCell_same _ _ _ ((World.cell?_setCell_other _ _ _ _ (by intro e; injection e with _ e; omega)).trans q1)
  · have : hb + 2 ≤ wy.heap.size := by omega
    simpa using this
/-- A new box with what Put told. -/
structure PutG (w4 wx : World) (g : Nat) (a1 : Option Addr) (cap1 n : Nat) (l : List Wd) : Prop where
  bel : Below w4.heap.size w4 wx
  glt : g < wx.heap.size
  gge : w4.heap.size ≤ g
  c0 : wx.cell? ⟨g, 0, none⟩ = some (.slice a1 n cap1)
  c1 : wx.cell? ⟨g, 1, none⟩ = some (.int .i64 600)
  f0 : wx.frozen? ⟨g, 0, none⟩ = false
  f1 : wx.frozen? ⟨g, 1, none⟩ = false
  wds : Wds wx wx.heap.size a1 l
theorem putG_alloc {w4 w7 : World} {a1 : Option Addr} {cap1 n : Nat} {l : List Wd} {t : TypeId} (hb : Below w4.heap.size w4 w7) (hW : Wds w7 w7.heap.size a1 l) :
    PutG w4 (w7.alloc (.cells #[.slice a1 n cap1, .int .i64 600] t)) w7.heap.size a1 cap1 n l := by
  refine ⟨hb.alloc hb.size _, by simp, hb.size, by go_simp, by go_simp, by go_simp, by go_simp, (hW.below ((Below.refl _ _).alloc (Nat.le_refl _) _)).mono (by simp)⟩
theorem putG_set {w4 w7 : World} {a1 : Option Addr} {cap1 n N g : Nat} {l : List Wd} {y0 y1 : Value} (hb : Below w4.heap.size w4 w7) (hW : Wds w7 w7.heap.size a1 l) (hN : NewAt N a1) (hgN : g < N) (hgl : g < w7.heap.size) (hg4 : w4.heap.size ≤ g) (b0 : w7.cell? ⟨g, 0, none⟩ = some y0) (b1 : w7.cell? ⟨g, 1, none⟩ = some y1) (e0 : w7.frozen? ⟨g, 0, none⟩ = false) (e1 : w7.frozen? ⟨g, 1, none⟩ = false) :
    PutG w4 ((w7.setCell ⟨g, 0, none⟩ (.slice a1 n cap1)).setCell ⟨g, 1, none⟩ (.int .i64 600)) g a1 cap1 n l := by
  refine ⟨below_set2s hb hg4, by simpa using hgl, hg4, ?_, ?_, by simpa using e0, by simpa using e1, hW.kept (by simp) (fun A hA => ?_)⟩
  · rw [World.cell?_setCell_other _ _ _ _ (by intro e; injection e with _ e; omega)]; exact World.cell?_setCell_same _ _ _ b0
  · exact World.cell?_setCell_same _ _ _ ((World.cell?_setCell_other _ _ _ _ (by intro e; injection e with _ e; omega)).trans b1)
  · have := hN A hA
    rw [Below.heap_setCell _ _ _ _ (by dsimp only; omega), Below.heap_setCell _ _ _ _ (by dsimp only; omega)]
theorem bx_plain {w w' : World} {u0 u1 : Value} {t : TypeId} (hb : Below (w.alloc (.cells #[u0, u1] t)).heap.size (w.alloc (.cells #[u0, u1] t)) w') :
    (w'.cell? ⟨w.heap.size, 0, none⟩ = some u0 ∧ w'.cell? ⟨w.heap.size, 1, none⟩ = some u1) ∧ (w'.frozen? ⟨w.heap.size, 0, none⟩ = false ∧ w'.frozen? ⟨w.heap.size, 1, none⟩ = false) ∧ w.heap.size < w'.heap.size := box2_kept w.heap.size rfl hb
theorem bx_carry {w w' : World} {g : Nat} {u0 u1 : Value} (b0 : w.cell? ⟨g, 0, none⟩ = some u0) (b1 : w.cell? ⟨g, 1, none⟩ = some u1) (e0 : w.frozen? ⟨g, 0, none⟩ = false) (e1 : w.frozen? ⟨g, 1, none⟩ = false) (bl : g < w.heap.size) (hb : Below w.heap.size w w') :
    (w'.cell? ⟨g, 0, none⟩ = some u0 ∧ w'.cell? ⟨g, 1, none⟩ = some u1) ∧ (w'.frozen? ⟨g, 0, none⟩ = false ∧ w'.frozen? ⟨g, 1, none⟩ = false) ∧ g < w'.heap.size :=
  ⟨⟨(hb.cell (p := ⟨g, 0, none⟩) bl).trans b0, (hb.cell (p := ⟨g, 1, none⟩) bl).trans b1⟩, ⟨(hb.frozen (p := ⟨g, 0, none⟩) bl).trans e0, (hb.frozen (p := ⟨g, 1, none⟩) bl).trans e1⟩, Nat.lt_of_lt_of_le bl hb.size⟩
end Go.Proofs.Ytghaididbhjpaaa

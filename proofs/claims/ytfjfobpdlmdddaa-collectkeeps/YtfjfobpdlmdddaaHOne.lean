/- A copy of one row of words: the document's wordsCopy; a new heap with new words. -/
import Derived.Test.YtfjfobpdlmdddaaHChange
import Derived.Test.YtfjfobpdlmdddaaHKeep
import Derived.Deep.DeepCutAuto
namespace Go.Proofs.Ytfjfobpdlmdddaa
set_option maxRecDepth 100000
open Go.RowKit Go.Maps
theorem box2_kept {w w' : World} {u0 u1 : Value} {t : TypeId} (g : Nat) (hg : g = w.heap.size) (hb : Below (w.alloc (.cells #[u0, u1] t)).heap.size (w.alloc (.cells #[u0, u1] t)) w') :
    (w'.cell? ⟨g, 0, none⟩ = some u0 ∧ w'.cell? ⟨g, 1, none⟩ = some u1) ∧ (w'.frozen? ⟨g, 0, none⟩ = false ∧ w'.frozen? ⟨g, 1, none⟩ = false) ∧ g < w'.heap.size := by
  subst hg
  have hz := hb.size
  have hlt : w.heap.size < (w.alloc (.cells #[u0, u1] t)).heap.size := by simp
  refine ⟨⟨?_, ?_⟩, ⟨?_, ?_⟩, by omega⟩
  · rw [hb.cell (p := ⟨w.heap.size, 0, none⟩) hlt]; go_simp
  · rw [hb.cell (p := ⟨w.heap.size, 1, none⟩) hlt]; go_simp
  · rw [hb.frozen (p := ⟨w.heap.size, 0, none⟩) hlt]; go_simp
  · rw [hb.frozen (p := ⟨w.heap.size, 1, none⟩) hlt]; go_simp
/-- A new heap with new words. -/
structure CutO (w9 wx : World) (g : Nat) (a' : Option Addr) (cap' len : Nat) (lim : Int) (l : List Wd) : Prop where
  bel : Below w9.heap.size w9 wx
  glt : g < wx.heap.size
  gge : w9.heap.size ≤ g
  c0 : wx.cell? ⟨g, 0, none⟩ = some (.slice a' len cap')
  c1 : wx.cell? ⟨g, 1, none⟩ = some (.int .i64 lim)
  wds : Wds wx wx.heap.size a' l
  new : ∀ A, a' = some A → w9.heap.size ≤ A.block ∧ ¬ A.block = g
  free : Free wx a' l
theorem Free.kept {w w' : World} {a : Option Addr} {l : List Wd} (h : Free w a l) (hk : ∀ A, a = some A → w'.heap[A.block]? = w.heap[A.block]?) : Free w' a l := fun A hA j hj =>
  (World.frozen?_of_block (w := w) (a := ⟨A.block, A.off + j, none⟩) (hk A hA)).trans (h A hA j hj)
theorem Wds.block_lt {w : World} {B q : Nat} {a : Option Addr} {l : List Wd} (h : Wds w B a l) (hq : q < l.length) {A : Addr} (hA : a = some A) : A.block < B := by
  obtain ⟨b, o, e, hb, _⟩ := h q hq
  rw [hA] at e
  injection e with e
  subst e
  exact hb
theorem cutO_alloc {w9 w10 : World} {a' : Option Addr} {cap' len N q : Nat} {lim : Int} {l : List Wd} {t : TypeId} (hb : Below w9.heap.size w9 w10) (hz : w9.heap.size ≤ w10.heap.size) (hW : Wds w10 w10.heap.size a' l) (hN : NewAt N a') (hN9 : w9.heap.size ≤ N) (hF : Free w10 a' l) (hq : q < l.length) :
    CutO w9 (w10.alloc (.cells #[.slice a' len cap', .int .i64 lim] t)) w10.heap.size a' cap' len lim l := by
  have ha := Below.heap_alloc w10 (.cells #[.slice a' len cap', .int .i64 lim] t)
  refine ⟨hb.alloc hz _, by simp, hz, by go_simp, by go_simp, hW.kept (by simp) (fun A hA => ha _ (hW.block_lt hq hA)), fun A hA => ⟨Nat.le_trans hN9 (hN A hA), by have := hW.block_lt hq hA; omega⟩, hF.kept (fun A hA => ha _ (hW.block_lt hq hA))⟩
theorem cutO_set {w9 w10 : World} {a' : Option Addr} {cap' len N g : Nat} {lim : Int} {l : List Wd} {y0 y1 : Value} (hb : Below w9.heap.size w9 w10) (hW : Wds w10 w10.heap.size a' l) (hN : NewAt N a') (hgN : g < N) (hF : Free w10 a' l) (hgl : g < w10.heap.size) (hg9 : w9.heap.size ≤ g) (b0 : w10.cell? ⟨g, 0, none⟩ = some y0) (b1 : w10.cell? ⟨g, 1, none⟩ = some y1) :
    CutO w9 ((w10.setCell ⟨g, 0, none⟩ (.slice a' len cap')).setCell ⟨g, 1, none⟩ (.int .i64 lim)) g a' cap' len lim l := by
  have hk : ∀ A, a' = some A → ((w10.setCell ⟨g, 0, none⟩ (.slice a' len cap')).setCell ⟨g, 1, none⟩ (.int .i64 lim)).heap[A.block]? = w10.heap[A.block]? := fun A hA => by
    have := hN A hA
    rw [Below.heap_setCell _ _ _ _ (by dsimp only; omega), Below.heap_setCell _ _ _ _ (by dsimp only; omega)]
  refine ⟨below_set2s hb hg9, by simpa using hgl, hg9, ?_, ?_, hW.kept (by simp) hk, fun A hA => by have := hN A hA; omega, hF.kept hk⟩
  · rw [World.cell?_setCell_other _ _ _ _ (by intro e; injection e with _ e; omega)]; exact World.cell?_setCell_same _ _ _ b0
  · exact World.cell?_setCell_same _ _ _ ((World.cell?_setCell_other _ _ _ _ (by intro e; injection e with _ e; omega)).trans b1)
theorem bx_first {w w' : World} {u0 u1 : Value} {t : TypeId} {o : Obj} (hb : Below ((w.alloc (.cells #[u0, u1] t)).alloc o).drew.heap.size ((w.alloc (.cells #[u0, u1] t)).alloc o).drew w') :
    (w'.cell? ⟨w.heap.size, 0, none⟩ = some u0 ∧ w'.cell? ⟨w.heap.size, 1, none⟩ = some u1) ∧ (w'.frozen? ⟨w.heap.size, 0, none⟩ = false ∧ w'.frozen? ⟨w.heap.size, 1, none⟩ = false) ∧ w.heap.size < w'.heap.size :=
  box2_kept w.heap.size rfl (((Below.refl _ _).alloc (Nat.le_refl _) o).trans ((undrew hb).mono (by rw [show ((w.alloc (.cells #[u0, u1] t)).alloc o).drew.heap.size = ((w.alloc (.cells #[u0, u1] t)).alloc o).heap.size from rfl]; simp)))
theorem bx_second {w w' : World} {u0 u1 : Value} {t : TypeId} {o : Obj} (hb : Below ((w.alloc o).alloc (.cells #[u0, u1] t)).drew.heap.size ((w.alloc o).alloc (.cells #[u0, u1] t)).drew w') :
    (w'.cell? ⟨w.heap.size + 1, 0, none⟩ = some u0 ∧ w'.cell? ⟨w.heap.size + 1, 1, none⟩ = some u1) ∧ (w'.frozen? ⟨w.heap.size + 1, 0, none⟩ = false ∧ w'.frozen? ⟨w.heap.size + 1, 1, none⟩ = false) ∧ w.heap.size + 1 < w'.heap.size :=
  box2_kept (w.heap.size + 1) (by simp) (undrew hb)
theorem wordsCopy_one (w : World) (g : Nat) (a : Option Addr) (len cap : Nat) (l : List Wd) (hW : Wds w w.heap.size a l) (hlen : len = l.length) (hl : len ≤ 60000) (hg : g < w.heap.size) (hc : w.cell? ⟨g, 0, none⟩ = some (.slice a len cap)) :
    Calls Try.prog 47 #[.slice (some ⟨g, 0, none⟩) 1 1] w fun e w' => ∃ a' cap', e = .returned (.slice a' len cap') ∧ Below w.heap.size w w' ∧ Wds w' w'.heap.size a' l ∧ NewAt w.heap.size a' ∧ Free w' a' l := by
  have hf : flat [⟨a, cap, l⟩] = l := by simp [flat]
  refine (wordsCopy_any w w.heap.size (some ⟨g, 0, none⟩) 1 1 [⟨a, cap, l⟩] (fun i hi => ?_) (Nat.le_refl _) rfl (by rw [hf]; omega) (by omega)).mono (fun e w' h => ?_)
  · have : i = 0 := by simp at hi; omega
    subst this
    exact ⟨⟨g, 0, rfl, hg, by simpa [hlen] using hc⟩, hW⟩
  · obtain ⟨v, h1, h2, h3⟩ := h
    rw [hf] at h2
    obtain ⟨a', cap', rfl, _, h5, h6, h7⟩ := h2.cells
    exact ⟨a', cap', by rw [h1, hlen], h3, h5, h6, fun A hA j _ => h7 A hA _⟩
end Go.Proofs.Ytfjfobpdlmdddaa

/- A copy of a heap, and the look at it: the statements' words and heaps, heap's Check. -/
import Derived.Test.YtfjfobpdlmdddaaHCopy
import Derived.Test.YtfjfobpdlmdddaaHValueC
namespace Go.Proofs.Ytfjfobpdlmdddaa
set_option maxRecDepth 100000
open Go.RowKit Go.Maps
theorem infoWd : (Try.prog.info? 37).map (fun i => (i.zero, i.size, i.bytes)) = some (some (.agg #[.int .i64 0, .int .i64 0, .string ⟨#[]⟩]), 3, 32) := by kernel_rfl
/-- An address in a new block. -/
def NewAt (B : Nat) (a : Option Addr) : Prop := ∀ A, a = some A → B ≤ A.block
theorem Wds.kept {w w' : World} {B B' : Nat} {a : Option Addr} {l : List Wd} (h : Wds w B a l) (hB : B ≤ B') (hk : ∀ A, a = some A → w'.heap[A.block]? = w.heap[A.block]?) : Wds w' B' a l := by
  intro i hi
  obtain ⟨b, o, h2, h3, c0, c1, c2⟩ := h i hi
  have hb : w'.heap[b]? = w.heap[b]? := hk _ h2
  exact ⟨b, o, h2, by omega, (World.cell?_of_block (w := w) hb).trans c0, (World.cell?_of_block (w := w) hb).trans c1, (World.cell?_of_block (w := w) hb).trans c2⟩
theorem wds_copied {w w' : World} {l : List Wd} {v : Value} (h : Copied w 37 l.length (wcs l) v w') : ∃ a' cap', v = .slice a' l.length cap' ∧ l.length ≤ cap' ∧ Below w.heap.size w w' ∧ Wds w' w'.heap.size a' l ∧ NewAt w.heap.size a' := by
  rcases h with ⟨h0, rfl, rfl⟩ | ⟨h0, cap, cells, h1, rfl, rfl, h2⟩
  · have : l = [] := List.length_eq_zero_iff.1 h0
    subst this
    exact ⟨none, 0, rfl, Nat.le_refl _, Below.refl _ _, fun i hi => absurd hi (by simp), fun A h => by cases h⟩
  · refine ⟨_, cap, rfl, h1, (bdrew (Below.refl _ _) 1).alloc (Nat.le_refl _) _, ?_, fun A h => by injection h with h; subst h; exact Nat.le_refl _⟩
    refine Wds.made (by simp) (fun j hj => ?_)
    rw [← h2 j (by rw [wcs_length]; exact hj), Nat.zero_add]
    have := World.alloc_heap_new w.drew (.cells cells 37)
    rw [show w.drew.heap.size = w.heap.size from rfl] at this
    simp only [World.cell?, this]
    rfl
set_option maxHeartbeats 1000000 in
theorem words_any (w : World) (B : Nat) (a : Option Addr) (len cap : Nat) (l : List Wd) (hW : Wds w B a l) (hlen : len = l.length) (hl : len ≤ 4398046511104) :
    Calls Try.prog 10 #[.slice a len cap] w fun e w' => ∃ a' cap', e = .returned (.slice a' len cap') ∧ len ≤ cap' ∧ Below w.heap.size w w' ∧ Wds w' w'.heap.size a' l ∧ NewAt w.heap.size a' := by
  have HS := hid (hW.src (P := Try.prog) (tx := 22) Try.underlying22 cap)
  have HX := hid (fun (v : Value) (w' : World) (h : Copied w 37 len (wcs l) v w') => (by rw [hlen] at h ⊢; exact wds_copied h : ∃ a' cap', v = .slice a' len cap' ∧ len ≤ cap' ∧ Below w.heap.size w w' ∧ Wds w' w'.heap.size a' l ∧ NewAt w.heap.size a'))
  rw [← hlen] at HS
  clear hlen
  go_enter Try.func10, Try.ntmps10
  go_wp2_with (at_builtin; refine wpList_append_copy _ rfl _ _ 22 22 rfl 37 _ 3 32 Try.underlying22 infoWd rfl _ rfl _ _ HS.out (by omega) (by omega) ?_; intro v w1 hv)
  obtain ⟨a', cap', rfl, h1, h2, h3⟩ := HX.out _ _ hv
  have H2 := hid h2
  have H3 := hid h3
  clear h2 h3 hv
  go_wp2_with fail
  go_ret
  exact ⟨a', cap', rfl, h1, H2.out, H3.out.1, H3.out.2⟩
set_option maxHeartbeats 2000000 in
theorem heaps_any (w : World) (B : Nat) (a : Option Addr) (len cap : Nat) (l : List Wd) (lim : Int) (hW : Wds w B a l) (hB : B ≤ w.heap.size) (hlen : len = l.length) (hl : len ≤ 4398046511104) :
    Calls Try.prog 9 #[.agg #[.slice a len cap, .int .i64 lim]] w fun e w' => ∃ a' cap', e = .returned (.agg #[.slice a' len cap', .int .i64 lim]) ∧ len ≤ cap' ∧ Below w.heap.size w w' ∧ Wds w' w'.heap.size a' l ∧ NewAt w.heap.size a' := by
  have HL := hid hlen
  clear hlen
  obtain ⟨w1, hw1⟩ : ∃ w1, w1 = (w.alloc (.cells #[.slice a len cap, .int .i64 lim] 24)).alloc (.cells #[.slice none 0 0, .int .i64 0] 24) := ⟨_, rfl⟩
  have hb1 : Below w.heap.size w w1 := by rw [hw1]; exact below_2 _ _ _
  have hz1 : w1.heap.size = w.heap.size + 2 := by rw [hw1]; simp
  have tt : (w1.cell? ⟨w.heap.size, 0, none⟩ = some (.slice a len cap) ∧ w1.cell? ⟨w.heap.size, 1, none⟩ = some (.int .i64 lim)) ∧ (w1.cell? ⟨w.heap.size + 1, 0, none⟩ = some (.slice none 0 0) ∧ w1.cell? ⟨w.heap.size + 1, 1, none⟩ = some (.int .i64 0)) ∧ w1.frozen? ⟨w.heap.size + 1, 0, none⟩ = false ∧ w1.frozen? ⟨w.heap.size + 1, 1, none⟩ = false := by
    rw [hw1]; refine ⟨⟨?_, ?_⟩, ⟨?_, ?_⟩, ?_, ?_⟩ <;> go_simp
  have HC := hid (words_any w1.drew B a len cap l (hW.below ((hb1.trans (bdrew (Below.refl _ _) 1 : Below w.heap.size w1 w1.drew)).mono hB)) HL.out hl)
  have HB1 := hid hb1
  have H1 := hid hw1
  clear hw1 hb1
  obtain ⟨⟨t0, t1⟩, ⟨r0, r1⟩, f0, f1⟩ := tt
  have HS := hid (fun w' (hb : Below (w.heap.size + 1) w1 w') => (⟨hb, (hb.cell (p := ⟨w.heap.size, 0, none⟩) (by dsimp only; omega)).trans t0, (hb.cell (p := ⟨w.heap.size, 1, none⟩) (by dsimp only; omega)).trans t1⟩ :
    Below (w.heap.size + 1) w1 w' ∧ w'.cell? ⟨w.heap.size, 0, none⟩ = some (.slice a len cap) ∧ w'.cell? ⟨w.heap.size, 1, none⟩ = some (.int .i64 lim)))
  have HR := hid (fun w' (hb : Below w1.heap.size w1.drew w') => (⟨(hb.cell (p := ⟨w.heap.size + 1, 0, none⟩) (by dsimp only; omega)).trans r0, (hb.cell (p := ⟨w.heap.size + 1, 1, none⟩) (by dsimp only; omega)).trans r1, (hb.frozen (p := ⟨w.heap.size + 1, 0, none⟩) (by dsimp only; omega)).trans f0, (hb.frozen (p := ⟨w.heap.size + 1, 1, none⟩) (by dsimp only; omega)).trans f1, ⟨hb.os, hb.tape, hb.output, hb.size, fun i hi => hb.block i (by omega)⟩⟩ :
    w'.cell? ⟨w.heap.size + 1, 0, none⟩ = some (.slice none 0 0) ∧ w'.cell? ⟨w.heap.size + 1, 1, none⟩ = some (.int .i64 0) ∧ w'.frozen? ⟨w.heap.size + 1, 0, none⟩ = false ∧ w'.frozen? ⟨w.heap.size + 1, 1, none⟩ = false ∧ Below (w.heap.size + 1) w1 w'))
  go_enter Try.func9, Try.ntmps9
  go_wp2_with fail
  rw [← H1.out]
  clear t0 t1 r0 r1 f0 f1
  go_region_held3 (fun w' => Below (w.heap.size + 1) w1 w' ∧ w'.cell? ⟨w.heap.size, 0, none⟩ = some (.slice a len cap) ∧ w'.cell? ⟨w.heap.size, 1, none⟩ = some (.int .i64 lim))
    ((refine HS.out _ ?_; first | exact bdrew (Below.refl _ _) 1 | assumption | (refine Below.setCell (p := ⟨w.heap.size + 1, 1, none⟩) (Below.setCell (p := ⟨w.heap.size + 1, 0, none⟩) ?_ (Nat.le_refl _) _) (Nat.le_refl _) _; assumption)))
    (first
    | (go_at_call 10; refine HC.out.mono ?_; rintro e w2 ⟨a', cap', rfl, hc2, hb2, hW2, hN2⟩; obtain ⟨r0, r1, f0, f1, hb2'⟩ := HR.out _ hb2))
  all_goals
    have HB2 := hid (((HB1.out.trans (hb2'.mono (by omega))).setCell (p := ⟨w.heap.size + 1, 0, none⟩) (by dsimp only; omega) (.slice a' len cap')).setCell (p := ⟨w.heap.size + 1, 1, none⟩) (by dsimp only; omega) (.int .i64 lim))
    have HW2 := hid (hW2.kept (w' := (w2.setCell ⟨w.heap.size + 1, 0, none⟩ (.slice a' len cap')).setCell ⟨w.heap.size + 1, 1, none⟩ (.int .i64 lim)) (Nat.le_refl _) (fun A hA => by
      have h1 := hN2 A hA
      have h2 : w1.drew.heap.size = w1.heap.size := rfl
      rw [Below.heap_setCell _ _ _ _ (by dsimp only; omega), Below.heap_setCell _ _ _ _ (by dsimp only; omega)]))
    have HN2 := hid (fun (A : Addr) (hA : a' = some A) => (by have h1 := hN2 A hA; have h2 : w1.drew.heap.size = w1.heap.size := rfl; omega : w.heap.size ≤ A.block))
    clear hb2 hb2' hW2 hN2
    go_wp2_with fail
    refine bodyPost_ret (v := .agg #[.slice a' len cap', .int .i64 lim]) (by simp [results, Try.results9, go_sem, r0, r1]) rfl ⟨a', cap', rfl, hc2, HB2.out, ?_, HN2.out⟩
    simpa using HW2.out
set_option maxHeartbeats 1000000 in
theorem Check_any (w : World) (B : Nat) (a : Option Addr) (len cap : Nat) (l : List Wd) (lim : Int) (hW : Wds w B a l) (hB : B ≤ w.heap.size) (hlen : len = l.length) (hcap : len ≤ cap) (hl : len ≤ 9223372036854775807) (hwf : wfL l) :
    Calls Try.prog 18 #[.agg #[.slice a len cap, .int .i64 lim]] w fun e w' => ∃ r, e = .returned (.int .i64 r) ∧ ((r = 0 ∧ ∃ acc ms, OkC lim l acc ms) ∨ (r = 9 ∧ BadC lim l)) ∧ Below w.heap.size w w' := by
  have HL := hid hlen
  clear hlen
  obtain ⟨w1, hw1⟩ : ∃ w1, w1 = w.alloc (.cells #[.slice a len cap, .int .i64 lim] 24) := ⟨_, rfl⟩
  have hb1 : Below w.heap.size w w1 := by rw [hw1]; exact (Below.refl _ _).alloc (Nat.le_refl _) _
  have hz1 : w1.heap.size = w.heap.size + 1 := by rw [hw1]; simp
  have HC := hid (newChart_any w1 B a len cap l lim (hW.below (hb1.mono hB)) (by omega) HL.out hcap hl hwf)
  have HB1 := hid hb1
  have H1 := hid hw1
  clear hw1 hb1
  go_enter Try.func18, Try.ntmps18
  go_wp2_with fail
  rw [← H1.out]
  have hcall := HC.out
  go_fit hcall
  clear hcall
  rintro e w3 ⟨hb3, ⟨v, acc, pb, mb, ms, rfl, hok, hV⟩ | ⟨rfl, hbad⟩⟩
  · have hB3 := hid (HB1.out.trans (hb3.mono (by omega)))
    obtain ⟨av, capv, hv, _, _⟩ := hV.row.cells
    subst hv
    go_wp2_with fail
    go_ret
    exact ⟨0, rfl, Or.inl ⟨rfl, acc, ms, hok⟩, hB3.out.alloc hB3.out.size _⟩
  · have hB3 := hid (HB1.out.trans (hb3.mono (by omega)))
    go_wp2_with fail
    go_ret
    exact ⟨9, rfl, Or.inr ⟨rfl, hbad⟩, hB3.out.alloc hB3.out.size _⟩
end Go.Proofs.Ytfjfobpdlmdddaa

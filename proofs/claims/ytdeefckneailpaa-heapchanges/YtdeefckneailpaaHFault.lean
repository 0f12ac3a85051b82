/- The document's ValueFault. -/
import Derived.Test.YtdeefckneailpaaHValue
namespace Go.Proofs.Ytdeefckneailpaa
set_option maxRecDepth 100000
open Go.RowKit Go.Maps
def VfI (lim : Int) (l : List Wd) (k n : Int) (s : ByteArray) (r : Int) : Prop :=
  (r = 9 ∧ BadR lim l) ∨ (OkR lim l ∧ ∃ acc, ChainR l acc l.length ∧ r = if (wmB k n s && (decide (¬ k = 5) || refB l.length acc n)) = true then 0 else 3)
set_option maxHeartbeats 2000000 in
theorem ValueFault_any (w : World) (B : Nat) (a : Option Addr) (len cap : Nat) (l : List Wd) (lim : Int) (k n : Int) (s : ByteArray) (hW : Wds w B a l) (hB : B ≤ w.heap.size) (hlen : len = l.length) (hl : len ≤ 9223372036854775807) :
    Calls Try.prog 12 #[.agg #[.slice a len cap, .int .i64 lim], .agg #[.int .i64 k, .int .i64 n, .string s]] w fun e w' => ∃ r, e = .returned (.int .i64 r) ∧ VfI lim l k n s r ∧ Below w.heap.size w w' := by
  have HL := hid hlen
  clear hlen
  obtain ⟨w2, hw2⟩ : ∃ w2, w2 = (w.alloc (.cells #[.slice a len cap, .int .i64 lim] 24)).alloc (.cells #[.int .i64 k, .int .i64 n, .string s] 30) := ⟨_, rfl⟩
  have hb2 : Below w.heap.size w w2 := by rw [hw2]; exact below_2 _ _ _
  have hz2 : w2.heap.size = w.heap.size + 2 := by rw [hw2]; simp
  have tt : (w2.cell? ⟨w.heap.size, 0, none⟩ = some (.slice a len cap) ∧ w2.cell? ⟨w.heap.size, 1, none⟩ = some (.int .i64 lim)) ∧ w2.cell? ⟨w.heap.size + 1, 0, none⟩ = some (.int .i64 k) ∧ w2.cell? ⟨w.heap.size + 1, 1, none⟩ = some (.int .i64 n) ∧ w2.cell? ⟨w.heap.size + 1, 2, none⟩ = some (.string s) := by
    rw [hw2]; refine ⟨⟨?_, ?_⟩, ?_, ?_, ?_⟩ <;> go_simp
  have HC := hid (HeapMay_any w2 B a len cap l lim (hW.below (hb2.mono hB)) (by omega) HL.out hl)
  have H2 := hid hw2
  have HB2 := hid hb2
  clear hw2 hb2
  go_enter Try.func12, Try.ntmps12
  go_wp2_with fail
  rw [← H2.out]
  have hcall := HC.out
  go_fit hcall
  clear hcall
  rintro e w3 ⟨hb3, ⟨rfl, hok⟩ | ⟨rfl, hbad⟩⟩
  · have hB3 := hid (HB2.out.trans (hb3.mono (by omega)))
    obtain ⟨⟨y0, y1⟩, y2, y3, y4⟩ := tt
    have x0 := (hb3.cell (p := ⟨w.heap.size, 0, none⟩) (by dsimp only; omega)).trans y0
    have x1 := (hb3.cell (p := ⟨w.heap.size, 1, none⟩) (by dsimp only; omega)).trans y1
    have x2 := (hb3.cell (p := ⟨w.heap.size + 1, 0, none⟩) (by dsimp only; omega)).trans y2
    have x3 := (hb3.cell (p := ⟨w.heap.size + 1, 1, none⟩) (by dsimp only; omega)).trans y3
    have x4 := (hb3.cell (p := ⟨w.heap.size + 1, 2, none⟩) (by dsimp only; omega)).trans y4
    have hz3 := hb3.size
    clear hb3 y0 y1 y2 y3 y4
    obtain ⟨acc, hR⟩ : ∃ acc, ChainR l acc l.length := ⟨_, hok.2.2.2.choose_spec.1⟩
    have hl6 : len ≤ 60000 := by have := hok.2.1; have := hok.2.2.1; have := HL.out; omega
    have hcall := ValueMay_any w3 B a len cap l lim k n s (hW.below (hB3.out.mono hB)) (by omega) HL.out hl6 acc hR
    have HX := hid (show ∀ r, r = (if (wmB k n s && (decide (¬ k = 5) || refB len acc n)) = true then (0 : Int) else 3) → VfI lim l k n s r from fun r hr => Or.inr ⟨hok, acc, hR, by rw [← HL.out]; exact hr⟩)
    generalize (wmB k n s && (decide (¬ k = 5) || refB len acc n)) = vb at hcall HX
    go_wp2_with fail
    go_fit hcall
    clear hcall
    rintro e w4 ⟨rfl, hb4⟩
    have hB4 := hid (hB3.out.trans (hb4.mono (by omega)))
    cases vb
    · go_wp2_with fail
      go_ret
      exact ⟨3, rfl, HX.out 3 rfl, hB4.out⟩
    · go_wp2_with fail
      go_ret
      exact ⟨0, rfl, HX.out 0 rfl, hB4.out⟩
  · have HX := hid (show VfI lim l k n s 9 from Or.inl ⟨rfl, hbad⟩)
    have hB3 := hid (HB2.out.trans (hb3.mono (by omega)))
    go_wp2_with fail
    go_ret
    exact ⟨9, rfl, HX.out, hB3.out⟩
theorem cv_vf {lim : Int} {l : List Wd} {k n : Int} {s : ByteArray} {r r' : Int} (h : CvI lim l k n s r) (h' : VfI lim l k n s r') : r = r' := by
  have ok : ∀ acc ms, OkC lim l acc ms → OkR lim l ∧ ∃ acc, ChainR l acc l.length ∧ (r' = if (wmB k n s && (decide (¬ k = 5) || refB l.length acc n)) = true then 0 else 3) := fun acc ms hok => by
    rcases h' with ⟨_, h'⟩ | h'
    · exact (ok_not_bad hok h').elim
    · exact h'
  rcases h with ⟨rfl, acc, ms, hok, hv⟩ | ⟨rfl, acc, ms, hok, hv⟩ | ⟨rfl, hb⟩
  · obtain ⟨_, acc', hR, e⟩ := ok acc ms hok
    obtain ⟨rfl, _⟩ := hok.chain.ref.same hR hok.chain.ref.full hR.full
    rw [val_ok hok.chain] at hv
    rw [e, if_pos hv]
  · obtain ⟨_, acc', hR, e⟩ := ok acc ms hok
    obtain ⟨rfl, _⟩ := hok.chain.ref.same hR hok.chain.ref.full hR.full
    rw [val_ok hok.chain] at hv
    rw [e, if_neg (by rw [hv]; simp)]
  · rcases h' with ⟨e, _⟩ | ⟨h', _⟩
    · exact e.symm
    · exact (bad_not_ok hb h').elim
end Go.Proofs.Ytdeefckneailpaa

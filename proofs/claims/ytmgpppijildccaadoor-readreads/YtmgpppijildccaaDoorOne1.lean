/- The document's one datum: what is wrong ahead of it. -/
import Derived.Test.YtmgpppijildccaaDoorTSkip
import Derived.Test.YtmgpppijildccaaDoorDatum
namespace Go.Proofs.YtmgpppijildccaaDoor
open Go.RowKit
set_option linter.unusedSimpArgs false
/-- How the document's call for one datum ends. -/
def OutO (w w' : World) (tb : Nat) (s : ByteArray) (d : Nat) (o : Res) (e : Ending) : Prop :=
  match o with
  | .inl (x, q) => ∃ k n z a len cap, e = .returned (.agg #[.int .i64 k, .int .i64 n, .string z, .slice a len cap]) ∧ ∃ p c, p ≤ s.size ∧ Tx w' tb s p c ((s.size - q.length : Nat) : Int) x
  | .inr (t, q, c) => ∃ k n z a len cap b, e = .returned (.agg #[.int .i64 k, .int .i64 n, .string z, .slice a len cap]) ∧ Tx w' tb s (s.size - q.length) c b 0 ∧ Dat w' (fun b => w.heap.size ≤ b ∧ b < w'.heap.size) d t (.int .i64 k) (.int .i64 n) (.string z) (.slice a len cap)
def OneSaid (d : Nat) : Prop := ∀ (tb : Nat) (s : ByteArray) (p c : Nat) (b : Int) (w : World) (l : Int), Tx w tb s p c b 0 → p ≤ s.size → s.size ≤ 3000 → c ≤ 400 → 1 ≤ l → l + d = 41 →
  Calls Tryd.prog 26 #[.pointer (some ⟨tb, 0, none⟩), .int .i64 l] w fun e w' => OutO w w' tb s d (pDatum d (s.data.toList.drop p) c) e ∧ Past tb w w'
/-- The world behind the first skip. -/
theorem one_skip {w : World} {tb : Nat} {s : ByteArray} {p c : Nat} {b : Int} (hT : Tx w tb s p c b 0) (hp : p ≤ s.size) (hs : s.size ≤ 3000) :
    Calls Tryd.prog 25 #[.pointer (some ⟨tb, 0, none⟩)] (w.alloc (.cells #[.int .i64 0, .int .i64 0, .string ⟨#[]⟩, .slice none 0 0] 24)) fun e w1 => e = .returned (.tuple #[]) ∧
      Tx w1 tb s (skipTo s.data.toList p) c b 0 ∧ Past tb w w1 ∧ w.heap.size < w1.heap.size ∧ Box w1 w.heap.size (.int .i64 0) (.int .i64 0) (.string ⟨#[]⟩) (.slice none 0 0) := by
  refine (tskip_any tb s p c b 0 _ (hT.alloc _) hp hs).mono ?_
  rintro e w1 ⟨rfl, h1, h2⟩
  have hlt := hT.lt
  have hz := h2.size
  simp at hz
  exact ⟨rfl, h1, ((Past.refl tb w).alloc _).trans h2, by omega, (Box.new w _ _ _ _ _).past h2 (by omega)⟩
theorem oout_inl {w w3 : World} {tb D : Nat} {s : ByteArray} {x : Int} {q : List UInt8} {p' c' : Nat} {k n : Int} {z : ByteArray} {a : Option Addr} {len cap : Nat} (hrb : tb < w.heap.size) (hp : p' ≤ s.size) (hT : Tx w3 tb s p' c' ((s.size - q.length : Nat) : Int) x) (v0 v1 v2 v3 : Value) :
    OutO w ((((w3.setCell ⟨w.heap.size, 0, none⟩ v0).setCell ⟨w.heap.size, 1, none⟩ v1).setCell ⟨w.heap.size, 2, none⟩ v2).setCell ⟨w.heap.size, 3, none⟩ v3) tb s D (.inl (x, q))
      (.returned (.agg #[.int .i64 k, .int .i64 n, .string z, .slice a len cap])) :=
  ⟨k, n, z, a, len, cap, rfl, p', c', hp, hT.set4 (by omega) _ _ _ _⟩
set_option maxRecDepth 100000 in
set_option maxHeartbeats 2000000 in
theorem one_early (d : Nat) (tb : Nat) (s : ByteArray) (p c : Nat) (b : Int) (w : World) (l : Int) (hT : Tx w tb s p c b 0) (hp : p ≤ s.size) (hs : s.size ≤ 3000) (hc : c ≤ 400) (hl : 1 ≤ l) (hd : l + d = 41)
    (hcase : ¬ skipTo s.data.toList p < s.size ∨ 400 ≤ c ∨ d = 0 ∨ ∃ h : skipTo s.data.toList p < s.size, s[skipTo s.data.toList p].toNat = 41) :
    Calls Tryd.prog 26 #[.pointer (some ⟨tb, 0, none⟩), .int .i64 l] w fun e w' => OutO w w' tb s d (pDatum d (s.data.toList.drop p) c) e ∧ Past tb w w' := by
  have hlt := hT.lt
  have hsk := one_skip hT hp hs
  have HDr := hid (drop_skipTo s p)
  have hple := skipTo_le s p
  generalize skipTo s.data.toList p = pl at hsk HDr hple hcase
  by_cases h1 : pl < s.size
  · have hD0 := hid (HDr.out.symm.trans (drop_at s pl h1))
    have hpi : (pl : Int) < s.size := by omega
    have hpe : ((pl : Int) == s.size) = false := beq_eq_false_iff_ne.2 (by omega)
    have HQ : Hid (((s.size - (s[pl] :: s.data.toList.drop (pl + 1)).length : Nat) : Int) = pl) := by
      rw [← drop_at s pl h1]
      have : s.size - (s.data.toList.drop pl).length = pl := by simp; omega
      exact hid (by rw [this])
    by_cases h4 : 400 ≤ c
    · have h4i : (400 : Int) < (c : Int) + 1 := by omega
      have HE := hid (pDatum_size (d := d) hD0.out h4)
      go_enter Tryd.func26, Tryd.ntmps26
      go_wp2_with fail
      go_fit hsk
      clear hsk
      rintro e w1 ⟨rfl, hT1, hP1, hz1, hB1⟩
      have HT1 := hid hT1
      have HB1 := hid hB1
      obtain ⟨c0, c1, c2, c3, c4, f1, f2, f3, f4⟩ := hT1
      go_wp2_with fail
      have hcall := wrong_any tb s pl (c + 1) b pl 1 (w1.setCell ⟨tb, 2, none⟩ (.int .i64 ((c : Int) + 1))) (HT1.out.setCount (c + 1) _ (by omega))
      go_fit hcall
      clear hcall
      rintro e w2 ⟨rfl, hT2, hP2⟩
      have hPW : Past tb w w2 := (Past.setCell (p := ⟨tb, 2, none⟩) hP1 (Or.inl rfl) _).trans hP2
      obtain ⟨x0, x1, x2, x3, y0, y1, y2, y3⟩ := (HB1.out.of_block (w' := (w1.setCell ⟨tb, 2, none⟩ (.int .i64 ((c : Int) + 1)))) (Below.heap_setCell w1 ⟨tb, 2, none⟩ _ w.heap.size (by show ¬ w.heap.size = tb; omega))).past hP2 (by omega)
      go_wp2_with fail
      refine bodyPost_ret (v := .agg #[.int .i64 0, .int .i64 0, .string ⟨#[]⟩, .slice none 0 0]) (by simp [results, Tryd.results26, go_sem, x0, x1, x2, x3]) rfl ?_
      refine ⟨?_, past_set4 hPW (Nat.le_refl _) _ _ _ _⟩
      rw [HE.out]
      exact oout_inl hlt hple (by rw [HQ.out]; exact hT2) _ _ _ _
    have h4i : ¬ (400 : Int) < (c : Int) + 1 := by omega
    by_cases hd0 : d = 0
    · subst hd0
      have hli : (40 : Int) < l := by omega
      have HE := hid (pDatum_deep hD0.out h4)
      go_enter Tryd.func26, Tryd.ntmps26
      go_wp2_with fail
      go_fit hsk
      clear hsk
      rintro e w1 ⟨rfl, hT1, hP1, hz1, hB1⟩
      have HT1 := hid hT1
      have HB1 := hid hB1
      obtain ⟨c0, c1, c2, c3, c4, f1, f2, f3, f4⟩ := hT1
      go_wp2_with fail
      have hcall := wrong_any tb s pl (c + 1) b pl 8 (w1.setCell ⟨tb, 2, none⟩ (.int .i64 ((c : Int) + 1))) (HT1.out.setCount (c + 1) _ (by omega))
      go_fit hcall
      clear hcall
      rintro e w2 ⟨rfl, hT2, hP2⟩
      have hPW : Past tb w w2 := (Past.setCell (p := ⟨tb, 2, none⟩) hP1 (Or.inl rfl) _).trans hP2
      obtain ⟨x0, x1, x2, x3, y0, y1, y2, y3⟩ := (HB1.out.of_block (w' := (w1.setCell ⟨tb, 2, none⟩ (.int .i64 ((c : Int) + 1)))) (Below.heap_setCell w1 ⟨tb, 2, none⟩ _ w.heap.size (by show ¬ w.heap.size = tb; omega))).past hP2 (by omega)
      go_wp2_with fail
      refine bodyPost_ret (v := .agg #[.int .i64 0, .int .i64 0, .string ⟨#[]⟩, .slice none 0 0]) (by simp [results, Tryd.results26, go_sem, x0, x1, x2, x3]) rfl ?_
      refine ⟨?_, past_set4 hPW (Nat.le_refl _) _ _ _ _⟩
      rw [HE.out]
      exact oout_inl hlt hple (by rw [HQ.out]; exact hT2) _ _ _ _
    obtain ⟨d', rfl⟩ : ∃ d', d = d' + 1 := ⟨d - 1, by omega⟩
    have hli : ¬ (40 : Int) < l := by omega
    have h41 : s[pl].toNat = 41 := by
      rcases hcase with h | h | h | ⟨_, h⟩
      · exact absurd h1 h
      · exact absurd h h4
      · exact absurd h hd0
      · exact h
    have b41 : ((s[pl].toNat : Int) == 41) = true := by simp [h41]
    have HE := hid (pDatum_form (d := d') hD0.out h4 h41)
    clear h41 hcase hd0
    go_enter Tryd.func26, Tryd.ntmps26
    go_wp2_with fail
    go_fit hsk
    clear hsk
    rintro e w1 ⟨rfl, hT1, hP1, hz1, hB1⟩
    have HT1 := hid hT1
    have HB1 := hid hB1
    obtain ⟨c0, c1, c2, c3, c4, f1, f2, f3, f4⟩ := hT1
    go_wp2_with fail
    have hcall := wrong_any tb s pl (c + 1) b pl 4 (w1.setCell ⟨tb, 2, none⟩ (.int .i64 ((c : Int) + 1))) (HT1.out.setCount (c + 1) _ (by omega))
    go_fit hcall
    clear hcall
    rintro e w2 ⟨rfl, hT2, hP2⟩
    have hPW : Past tb w w2 := (Past.setCell (p := ⟨tb, 2, none⟩) hP1 (Or.inl rfl) _).trans hP2
    obtain ⟨x0, x1, x2, x3, y0, y1, y2, y3⟩ := (HB1.out.of_block (w' := (w1.setCell ⟨tb, 2, none⟩ (.int .i64 ((c : Int) + 1)))) (Below.heap_setCell w1 ⟨tb, 2, none⟩ _ w.heap.size (by show ¬ w.heap.size = tb; omega))).past hP2 (by omega)
    go_wp2_with fail
    refine bodyPost_ret (v := .agg #[.int .i64 0, .int .i64 0, .string ⟨#[]⟩, .slice none 0 0]) (by simp [results, Tryd.results26, go_sem, x0, x1, x2, x3]) rfl ?_
    refine ⟨?_, past_set4 hPW (Nat.le_refl _) _ _ _ _⟩
    rw [HE.out]
    exact oout_inl hlt hple (by rw [HQ.out]; exact hT2) _ _ _ _
  · have hpl : pl = s.size := by omega
    subst hpl
    have hpe : ((s.size : Int) == s.size) = true := by simp
    have HE := hid (pDatum_short (d := d) (c := c) (HDr.out.symm.trans (List.drop_of_length_le (by simp))))
    have HQ : Hid (((s.size - ([] : List UInt8).length : Nat) : Int) = s.size) := by exact hid (by simp)
    go_enter Tryd.func26, Tryd.ntmps26
    go_wp2_with fail
    go_fit hsk
    clear hsk
    rintro e w1 ⟨rfl, hT1, hP1, hz1, hB1⟩
    have HT1 := hid hT1
    have HB1 := hid hB1
    obtain ⟨c0, c1, c2, c3, c4, f1, f2, f3, f4⟩ := hT1
    go_wp2_with fail
    have hcall := wrong_any tb s s.size c b s.size 5 w1 HT1.out
    go_fit hcall
    clear hcall
    rintro e w2 ⟨rfl, hT2, hP2⟩
    have hPW : Past tb w w2 := hP1.trans hP2
    obtain ⟨x0, x1, x2, x3, y0, y1, y2, y3⟩ := HB1.out.past hP2 (by omega)
    go_wp2_with fail
    refine bodyPost_ret (v := .agg #[.int .i64 0, .int .i64 0, .string ⟨#[]⟩, .slice none 0 0]) (by simp [results, Tryd.results26, go_sem, x0, x1, x2, x3]) rfl ?_
    refine ⟨?_, past_set4 hPW (Nat.le_refl _) _ _ _ _⟩
    rw [HE.out]
    exact oout_inl hlt hple (by rw [HQ.out]; exact hT2) _ _ _ _
end Go.Proofs.YtmgpppijildccaaDoor

/- The document's one datum: a quote. -/
import Derived.Test.YtmgpppijildccaaDoorOne1
namespace Go.Proofs.YtmgpppijildccaaDoor
open Go.RowKit
set_option linter.unusedSimpArgs false
theorem heap_alloc2 {k : Nat} (w : World) (hk : k < w.heap.size) (o1 o2 : Obj) : ((w.alloc o1).alloc o2).heap[k]? = w.heap[k]? := by
  rw [Below.heap_alloc _ _ _ (by simp; omega), Below.heap_alloc _ _ _ hk]
theorem tquote_end {w w1 : World} {tb N d : Nat} {s : ByteArray} {pl c' : Nat} {b : Int} {t : DataW Unit} {k n : Int} {z : ByteArray} {a : Option Addr} {len cap : Nat} (o1 : Obj) (ty : TypeId) (hrb : tb < w.heap.size) (hT : Tx w1 tb s pl c' b 0)
    (hN : w.heap.size + 1 ≤ N) (hz : N ≤ w1.heap.size) (hD : Dat w1 (fun b => N ≤ b ∧ b < w1.heap.size) d t (.int .i64 k) (.int .i64 n) (.string z) (.slice a len cap)) (q : List UInt8) (hq : pl = s.size - q.length) (x3 : Value) :
    OutO w (((((((w1.setCell ⟨w.heap.size, 0, none⟩ (.int .i64 4)).setCell ⟨w.heap.size, 1, none⟩ (.int .i64 0)).setCell ⟨w.heap.size, 2, none⟩ (.string ⟨#[]⟩)).setCell ⟨w.heap.size, 3, none⟩ x3).alloc o1).alloc
        (.cells #[.int .i64 3, .int .i64 0, .string ⟨#[113, 117, 111, 116, 101]⟩, .slice none 0 0, .int .i64 k, .int .i64 n, .string z, .slice a len cap] ty))) tb s (d + 1) (pQuote (.inr (t, q, c')))
      (.returned (.agg #[.int .i64 4, .int .i64 0, .string ⟨#[]⟩, .slice (some ⟨w1.heap.size + 1, 0, none⟩) 2 2])) := by
  obtain ⟨W5, hW5⟩ : ∃ W, W = (((w1.setCell ⟨w.heap.size, 0, none⟩ (.int .i64 4)).setCell ⟨w.heap.size, 1, none⟩ (.int .i64 0)).setCell ⟨w.heap.size, 2, none⟩ (.string ⟨#[]⟩)).setCell ⟨w.heap.size, 3, none⟩ x3 := ⟨_, rfl⟩
  rw [← hW5]
  have hz5 : W5.heap.size = w1.heap.size := by rw [hW5]; simp
  have hb5 : ∀ k, ¬ k = w.heap.size → W5.heap[k]? = w1.heap[k]? := fun k hk => by rw [hW5]; exact heap_set4 w1 hk _ _ _ _
  have hb6 : ∀ (o3 : Obj) k, k < w1.heap.size → ¬ k = w.heap.size → ((W5.alloc o1).alloc o3).heap[k]? = w1.heap[k]? := fun o3 k h1 h2 => by rw [heap_alloc2 W5 (by omega), hb5 k h2]
  refine ⟨_, _, _, _, _, _, b, rfl, ?_, Or.inr ⟨[.lit (.string [113, 117, 111, 116, 101]), t], _, 2, 2, rfl, rfl, rfl, rfl, rfl, ⟨Nat.le_refl _, by omega⟩, rfl, ?_⟩⟩
  · rw [← hq]
    exact hT.of_block (hb6 _ tb (by omega) (by omega))
  · have hat : ∀ i (cs : Array Value), ((W5.alloc o1).alloc (.cells cs ty)).cell? ⟨w1.heap.size + 1, i, none⟩ = cs[i]? := fun i cs => World.cell?_alloc_at (w := W5.alloc o1) cs ty _ i (by simp [hz5])
    have hzf : ∀ o3 : Obj, ((W5.alloc o1).alloc o3).heap.size = w1.heap.size + 2 := fun o3 => by simp [hz5]
    intro i t' hi
    match i, hi with
    | 0, hi =>
      simp at hi
      subst hi
      refine ⟨w1.heap.size + 1, 0, _, _, _, _, rfl, ⟨by omega, by rw [hzf]; omega⟩, hat _ _, hat _ _, hat _ _, hat _ _, Dat.leaf (Or.inr (Or.inr ⟨_, rfl, rfl, rfl, rfl, rfl⟩)) d⟩
    | 1, hi =>
      simp at hi
      subst hi
      refine ⟨w1.heap.size + 1, 0, _, _, _, _, rfl, ⟨by omega, by rw [hzf]; omega⟩, hat _ _, hat _ _, hat _ _, hat _ _, Dat.keep (fun b hb => ⟨hb6 _ b hb.2 (by omega), by omega, by rw [hzf]; omega⟩) d hD⟩
    | i + 2, hi => simp at hi
set_option maxRecDepth 100000 in
set_option maxHeartbeats 2000000 in
theorem one_quote (d : Nat) (ih : OneSaid d) (tb : Nat) (s : ByteArray) (p c : Nat) (b : Int) (w : World) (l : Int) (hT : Tx w tb s p c b 0) (hp : p ≤ s.size) (hs : s.size ≤ 3000) (hl : 1 ≤ l) (hd : l + (d + 1) = 41)
    (pl : Nat) (hpl : skipTo s.data.toList p = pl) (h1 : pl < s.size) (h4 : ¬ 400 ≤ c) (h39 : s[pl].toNat = 39) :
    Calls Tryd.prog 26 #[.pointer (some ⟨tb, 0, none⟩), .int .i64 l] w fun e w' => OutO w w' tb s (d + 1) (pDatum (d + 1) (s.data.toList.drop p) c) e ∧ Past tb w w' := by
  have hlt := hT.lt
  have hsk := one_skip hT hp hs
  have HDr := hid (drop_skipTo s p)
  rw [hpl] at hsk HDr
  have hD0 := hid (HDr.out.symm.trans (drop_at s pl h1))
  have hpi : (pl : Int) < s.size := by omega
  have hpe : ((pl : Int) == s.size) = false := beq_eq_false_iff_ne.2 (by omega)
  have h4i : ¬ (400 : Int) < (c : Int) + 1 := by omega
  have hli : ¬ (40 : Int) < l := by omega
  have b41 : ((s[pl].toNat : Int) == 41) = false := by simp; omega
  have b39 : ((s[pl].toNat : Int) == 39) = true := by simp [h39]
  have HE := hid (pDatum_quote (d := d) hD0.out h4 h39)
  have hgood := pDatum_good d (s.data.toList.drop (pl + 1)) (c + 1)
  clear h39 hpl
  go_enter Tryd.func26, Tryd.ntmps26
  go_wp2_with fail
  go_fit hsk
  clear hsk
  rintro e w1 ⟨rfl, hT1, hP1, hz1, hB1⟩
  have HT1 := hid hT1
  have HB1 := hid hB1
  obtain ⟨c0, c1, c2, c3, c4, f1, f2, f3, f4⟩ := hT1
  obtain ⟨W2, hW2⟩ : ∃ W2, W2 = (w1.setCell ⟨tb, 2, none⟩ (.int .i64 ((c : Int) + 1))).setCell ⟨tb, 1, none⟩ (.int .i64 ((pl : Int) + 1)) := ⟨_, rfl⟩
  have HT2 : Hid (Tx W2 tb s (pl + 1) (c + 1) b 0) := by rw [hW2]; exact (HT1.out.setCount (c + 1) _ (by omega)).setPlace (pl + 1) _ (by omega)
  have HP2 : Hid (Past tb w W2) := by rw [hW2]; exact Past.setCell (p := ⟨tb, 1, none⟩) (Past.setCell (p := ⟨tb, 2, none⟩) hP1 (Or.inl rfl) _) (Or.inl rfl) _
  have HB2 : Hid (Box W2 w.heap.size (.int .i64 0) (.int .i64 0) (.string ⟨#[]⟩) (.slice none 0 0)) := by
    rw [hW2]
    exact HB1.out.of_block ((Below.heap_setCell (w1.setCell ⟨tb, 2, none⟩ (.int .i64 ((c : Int) + 1))) ⟨tb, 1, none⟩ _ w.heap.size (by show ¬ w.heap.size = tb; omega)).trans (Below.heap_setCell w1 ⟨tb, 2, none⟩ _ w.heap.size (by show ¬ w.heap.size = tb; omega)))
  have hz2 : w.heap.size < W2.heap.size := by rw [hW2]; simp; exact hz1
  have hcall := ih tb s (pl + 1) (c + 1) b W2 (l + 1) HT2.out (by omega) hs (by omega) (by omega) (by omega)
  have HW2 := hid hW2
  rw [hW2] at hcall
  clear hW2
  go_wp2_with fail
  go_fit hcall
  clear hcall
  rw [← HW2.out]
  rintro e w2 ⟨hO, hP3⟩
  have hz3 := hP3.size
  have hPW : Past tb w w2 := HP2.out.trans hP3
  obtain ⟨x0, x1, x2, x3, y0, y1, y2, y3⟩ := HB2.out.past hP3 (by omega)
  have hzw : w.heap.size < w2.heap.size := by omega
  have hzw1 : w.heap.size < w2.heap.size + 1 := by omega
  cases hD : pDatum d (s.data.toList.drop (pl + 1)) (c + 1) with
  | inl eq =>
    obtain ⟨x, q⟩ := eq
    rw [hD] at hO hgood
    obtain ⟨k, n, z, a, len, cap, rfl, p', c', hp', hT3⟩ := hO
    have HD := hid hD
    clear hD hgood
    go_wp2_with fail
    refine bodyPost_ret (v := .agg #[.int .i64 4, .int .i64 0, .string ⟨#[]⟩, .slice (some ⟨w2.heap.size + 1, 0, none⟩) 2 2]) (by simp [results, Tryd.results26, go_sem, x0, x1, x2, x3, hzw, hzw1]) rfl ?_
    refine ⟨?_, ((past_set4 hPW (Nat.le_refl _) _ _ _ _).alloc _).alloc _⟩
    rw [HE.out, HD.out]
    exact ⟨_, _, _, _, _, _, rfl, p', c', hp', ((hT3.set4 (by omega) _ _ _ _).alloc _).alloc _⟩
  | inr tq =>
    obtain ⟨t, q, c'⟩ := tq
    rw [hD] at hO hgood
    obtain ⟨k, n, z, a, len, cap, b', rfl, hT3, hDat⟩ := hO
    have HDat := hid hDat
    have HD := hid hD
    clear hD hDat hgood
    go_wp2_with fail
    refine bodyPost_ret (v := .agg #[.int .i64 4, .int .i64 0, .string ⟨#[]⟩, .slice (some ⟨w2.heap.size + 1, 0, none⟩) 2 2]) (by simp [results, Tryd.results26, go_sem, x0, x1, x2, x3, hzw, hzw1]) rfl ?_
    refine ⟨?_, ((past_set4 hPW (Nat.le_refl _) _ _ _ _).alloc _).alloc _⟩
    rw [HE.out, HD.out]
    exact tquote_end _ _ hlt hT3 (by omega) hz3 HDat.out q rfl _
end Go.Proofs.YtmgpppijildccaaDoor

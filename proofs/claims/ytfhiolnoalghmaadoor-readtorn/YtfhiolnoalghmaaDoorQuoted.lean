/- The reader's quote. -/
import Derived.Test.YtfhiolnoalghmaaDoorRword
namespace Go.Proofs.YtfhiolnoalghmaaDoor
open Go.RowKit
set_option linter.unusedSimpArgs false
/-- What datum's call does, in so many others that d more are let. -/
def DatumSaid (d : Nat) : Prop := ∀ (rb : Nat) (s : ByteArray) (p c : Nat) (w : World) (B : Nat) (o : Int), Globs w B → B ≤ rb → R w rb s p c → p ≤ s.size → s.size ≤ 3000 → c ≤ 400 → 0 ≤ o → o + d = 40 →
  Calls Tryd.prog 39 #[.pointer (some ⟨rb, 0, none⟩), .int .i64 o] w fun e w' => Out w w' rb s d (pDatum d (s.data.toList.drop p) c) e ∧ Past rb w w'
theorem past_alloc3 {rb : Nat} {a w : World} (h : Past rb a w) (o1 o2 o3 : Obj) : Past rb a (((w.alloc o1).alloc o2).alloc o3) := ((h.alloc o1).alloc o2).alloc o3
theorem heap_alloc3 {k : Nat} (w : World) (hk : k < w.heap.size) (o1 o2 o3 : Obj) : (((w.alloc o1).alloc o2).alloc o3).heap[k]? = w.heap[k]? := by
  rw [Below.heap_alloc _ _ _ (by simp; omega), Below.heap_alloc _ _ _ (by simp; omega), Below.heap_alloc _ _ _ hk]
theorem quote_end {w w1 : World} {rb N d : Nat} {s : ByteArray} {pl c' : Nat} {t : DataW Unit} {k n : Int} {z : ByteArray} {a : Option Addr} {len cap : Nat} (o1 o2 : Obj) (ty : TypeId) (hP : Past rb w w1) (hrb : rb < w.heap.size) (hR : R w1 rb s pl c')
    (hN : w.heap.size + 1 ≤ N) (hz : N ≤ w1.heap.size) (hD : Dat w1 (fun b => N ≤ b ∧ b < w1.heap.size) d t (.int .i64 k) (.int .i64 n) (.string z) (.slice a len cap)) (q : List UInt8) (hq : pl = s.size - q.length) (x3 : Value) :
    Out w ((((((((w1.setCell ⟨w.heap.size, 0, none⟩ (.int .i64 4)).setCell ⟨w.heap.size, 1, none⟩ (.int .i64 0)).setCell ⟨w.heap.size, 2, none⟩ (.string ⟨#[]⟩)).setCell ⟨w.heap.size, 3, none⟩ x3).alloc o1).alloc o2).alloc
        (.cells #[.int .i64 3, .int .i64 0, .string ⟨#[113, 117, 111, 116, 101]⟩, .slice none 0 0, .int .i64 k, .int .i64 n, .string z, .slice a len cap] ty))) rb s (d + 1) (pQuote (.inr (t, q, c')))
      (.returned (.tuple #[.agg #[.int .i64 4, .int .i64 0, .string ⟨#[]⟩, .slice (some ⟨w1.heap.size + 2, 0, none⟩) 2 2], .int .i64 0])) := by
  obtain ⟨W5, hW5⟩ : ∃ W, W = (((w1.setCell ⟨w.heap.size, 0, none⟩ (.int .i64 4)).setCell ⟨w.heap.size, 1, none⟩ (.int .i64 0)).setCell ⟨w.heap.size, 2, none⟩ (.string ⟨#[]⟩)).setCell ⟨w.heap.size, 3, none⟩ x3 := ⟨_, rfl⟩
  rw [← hW5]
  have hz5 : W5.heap.size = w1.heap.size := by rw [hW5]; simp
  have hb5 : ∀ k, ¬ k = w.heap.size → W5.heap[k]? = w1.heap[k]? := fun k hk => by rw [hW5]; exact heap_set4 w1 hk _ _ _ _
  have hb6 : ∀ (o3 : Obj) k, k < w1.heap.size → ¬ k = w.heap.size → (((W5.alloc o1).alloc o2).alloc o3).heap[k]? = w1.heap[k]? := fun o3 k h1 h2 => by rw [heap_alloc3 W5 (by omega), hb5 k h2]
  refine ⟨_, _, _, _, rfl, ?_, Or.inr ⟨[.lit (.string [113, 117, 111, 116, 101]), t], _, 2, 2, rfl, rfl, rfl, rfl, rfl, ⟨Nat.le_refl _, by omega⟩, rfl, ?_⟩⟩
  · rw [← hq]
    exact hR.of_block (hb6 _ rb (by have := hP.size; omega) (by omega))
  · have hat : ∀ i (cs : Array Value), (((W5.alloc o1).alloc o2).alloc (.cells cs ty)).cell? ⟨w1.heap.size + 2, i, none⟩ = cs[i]? := fun i cs => World.cell?_alloc_at (w := (W5.alloc o1).alloc o2) cs ty _ i (by simp [hz5])
    have hzf : ∀ o3 : Obj, (((W5.alloc o1).alloc o2).alloc o3).heap.size = w1.heap.size + 3 := fun o3 => by simp [hz5]
    intro i t' hi
    match i, hi with
    | 0, hi =>
      simp at hi
      subst hi
      refine ⟨w1.heap.size + 2, 0, _, _, _, _, rfl, ⟨by omega, by rw [hzf]; omega⟩, hat _ _, hat _ _, hat _ _, hat _ _, Dat.leaf (Or.inr (Or.inr ⟨_, rfl, rfl, rfl, rfl, rfl⟩)) d⟩
    | 1, hi =>
      simp at hi
      subst hi
      refine ⟨w1.heap.size + 2, 0, _, _, _, _, rfl, ⟨by omega, by rw [hzf]; omega⟩, hat _ _, hat _ _, hat _ _, hat _ _, Dat.keep (fun b hb => ⟨hb6 _ b hb.2 (by omega), by omega, by rw [hzf]; omega⟩) d hD⟩
    | i + 2, hi => simp at hi
set_option maxHeartbeats 2000000 in
theorem quoted_any (d : Nat) (ih : DatumSaid d) (rb : Nat) (s : ByteArray) (p c : Nat) (w : World) (B : Nat) (o : Int) (hG : Globs w B) (hB : B ≤ rb) (hR : R w rb s p c) (hp : p < s.size) (hs : s.size ≤ 3000) (hc : c ≤ 400) (ho : 0 ≤ o) (hd : o + (d + 1) = 40) :
    Calls Tryd.prog 56 #[.pointer (some ⟨rb, 0, none⟩), .int .i64 o] w fun e w' => Out w w' rb s (d + 1) (pQuote (pDatum d (s.data.toList.drop (p + 1)) c)) e ∧ Past rb w w' := by
  have hrb := hR.lt
  obtain ⟨X, hX⟩ : ∃ X, X = (w.setCell ⟨rb, 1, none⟩ (.int .i64 ((p : Int) + 1))).alloc (.cells #[.int .i64 0, .int .i64 0, .string ⟨#[]⟩, .slice none 0 0] 24) := ⟨_, rfl⟩
  have HRX : Hid (R X rb s (p + 1) c) := by rw [hX]; exact (hR.setPlace (p + 1) _ (by omega)).alloc _
  have HPX : Hid (Past rb w X) := by rw [hX]; exact (Past.setCell (p := ⟨rb, 1, none⟩) (Past.refl rb w) (Or.inl rfl) _).alloc _
  have HBX : Hid (Box X w.heap.size (.int .i64 0) (.int .i64 0) (.string ⟨#[]⟩) (.slice none 0 0)) := by
    rw [hX]
    have := Box.new (w.setCell ⟨rb, 1, none⟩ (.int .i64 ((p : Int) + 1))) (.int .i64 0) (.int .i64 0) (.string ⟨#[]⟩) (.slice none 0 0) 24
    exact hid (by simpa using this)
  have hzX : X.heap.size = w.heap.size + 1 := by rw [hX]; simp
  have hcall := ih rb s (p + 1) c X B (o + 1) (hG.past HPX.out hB (by omega)) hB HRX.out (by omega) hs hc (by omega) (by omega)
  have hgood := pDatum_good d (s.data.toList.drop (p + 1)) c
  have HX := hid hX
  obtain ⟨c0, c1, c2, f1, f2⟩ := hR
  rw [hX] at hcall
  clear hX
  go_enter Tryd.func56, Tryd.ntmps56
  go_wp2_with fail
  go_fit hcall
  clear hcall
  rw [← HX.out]
  rintro e w1 ⟨hO, hP1⟩
  have hz1 := hP1.size
  have hPW : Past rb w w1 := HPX.out.trans hP1
  obtain ⟨x0, x1, x2, x3, y0, y1, y2, y3⟩ := HBX.out.past hP1 (by omega)
  have hzw : w.heap.size < w1.heap.size := by omega
  have hzw1 : w.heap.size < w1.heap.size + 1 := by omega
  have hzw2 : w.heap.size < w1.heap.size + 1 + 1 := by omega
  have hzw3 : w.heap.size < w1.heap.size + 2 := by omega
  cases hD : pDatum d (s.data.toList.drop (p + 1)) c with
  | inl eq =>
    obtain ⟨x, q⟩ := eq
    rw [hD] at hO hgood
    obtain ⟨rfl, c', hR1⟩ := hO
    have hx0 := hgood.2
    have HD := hid hD
    clear hD hgood
    go_wp2_with fail
    refine bodyPost_ret (v := .tuple #[.agg #[.int .i64 0, .int .i64 0, .string ⟨#[]⟩, .slice none 0 0], .int .i64 x]) (by simp [results, Tryd.results56, go_sem, x0, x1, x2, x3, hzw, hzw1, hzw2, hzw3]) rfl ?_
    refine ⟨?_, (past_set4 hPW (Nat.le_refl _) _ _ _ _).alloc _⟩
    rw [HD.out]
    exact ⟨rfl, c', (hR1.set4 (by omega) _ _ _ _).alloc _⟩
  | inr tq =>
    obtain ⟨t, q, c'⟩ := tq
    rw [hD] at hO hgood
    obtain ⟨u0, u1, u2, u3, rfl, hR1, hDat⟩ := hO
    obtain ⟨k, n, z, a, len, cap, rfl, rfl, rfl, rfl⟩ := hDat.shape
    have HDat := hid hDat
    have HD := hid hD
    clear hD hDat
    go_wp2_with fail
    refine bodyPost_ret (v := .tuple #[.agg #[.int .i64 4, .int .i64 0, .string ⟨#[]⟩, .slice (some ⟨w1.heap.size + 2, 0, none⟩) 2 2], .int .i64 0]) (by simp [results, Tryd.results56, go_sem, x0, x1, x2, x3, hzw, hzw1, hzw2, hzw3]) rfl ?_
    refine ⟨?_, past_alloc3 (past_set4 hPW (Nat.le_refl _) _ _ _ _) _ _ _⟩
    rw [HD.out]
    exact quote_end _ _ _ hPW hrb hR1 (by omega) hz1 HDat.out q rfl _
end Go.Proofs.YtfhiolnoalghmaaDoor

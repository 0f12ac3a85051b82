/- The reader's datum. -/
import Derived.Test.YtfhiolnoalghmaaDoorList
namespace Go.Proofs.YtfhiolnoalghmaaDoor
open Go.RowKit
set_option linter.unusedSimpArgs false
theorem pDatum_short {d : Nat} {r : List UInt8} {c : Nat} (h : skipB false r = []) : pDatum d r c = .inl (5, []) := by
  cases d <;> simp [pDatum, h]
theorem pDatum_size {d : Nat} {r : List UInt8} {c : Nat} {x : UInt8} {q : List UInt8} (h : skipB false r = x :: q) (hc : 400 ≤ c) : pDatum d r c = .inl (1, x :: q) := by
  cases d <;> simp [pDatum, h, hc]
theorem pDatum_deep {r : List UInt8} {c : Nat} {x : UInt8} {q : List UInt8} (h : skipB false r = x :: q) (hc : ¬ 400 ≤ c) : pDatum 0 r c = .inl (8, x :: q) := by
  simp [pDatum, h, hc]
theorem pDatum_form {d : Nat} {r : List UInt8} {c : Nat} {x : UInt8} {q : List UInt8} (h : skipB false r = x :: q) (hc : ¬ 400 ≤ c) (hx : x.toNat = 41) : pDatum (d + 1) r c = .inl (4, x :: q) := by
  simp [pDatum, h, hc, hx]
theorem pDatum_list {d : Nat} {r : List UInt8} {c : Nat} {x : UInt8} {q : List UInt8} (h : skipB false r = x :: q) (hc : ¬ 400 ≤ c) (hx : x.toNat = 40) : pDatum (d + 1) r c = pItems (pDatum d) 401 [] (skipB false q) (c + 1) := by
  simp [pDatum, h, hc, hx]
theorem pDatum_quote {d : Nat} {r : List UInt8} {c : Nat} {x : UInt8} {q : List UInt8} (h : skipB false r = x :: q) (hc : ¬ 400 ≤ c) (hx : x.toNat = 39) : pDatum (d + 1) r c = pQuote (pDatum d q (c + 1)) := by
  simp [pDatum, h, hc, hx]
theorem pDatum_word {d : Nat} {r : List UInt8} {c : Nat} {x : UInt8} {q : List UInt8} (h : skipB false r = x :: q) (hc : ¬ 400 ≤ c) (h1 : ¬ x.toNat = 41) (h2 : ¬ x.toNat = 40) (h3 : ¬ x.toNat = 39) : pDatum (d + 1) r c = pWord (x :: q) (c + 1) := by
  simp [pDatum, h, hc, h1, h2, h3]
theorem out_inl {w w3 : World} {rb D : Nat} {s : ByteArray} {x : Int} {q : List UInt8} {c' : Nat} (hrb : rb < w.heap.size) (hR : R w3 rb s (s.size - q.length) c') (v0 v1 v2 v3 : Value) :
    Out w ((((w3.setCell ⟨w.heap.size, 0, none⟩ v0).setCell ⟨w.heap.size, 1, none⟩ v1).setCell ⟨w.heap.size, 2, none⟩ v2).setCell ⟨w.heap.size, 3, none⟩ v3) rb s D (.inl (x, q))
      (.returned (.tuple #[.agg #[.int .i64 0, .int .i64 0, .string ⟨#[]⟩, .slice none 0 0], .int .i64 x])) :=
  ⟨rfl, c', hR.set4 (by omega) _ _ _ _⟩
theorem out_inr {w W2 w3 : World} {rb D : Nat} {s : ByteArray} {t : DataW Unit} {q : List UInt8} {c' : Nat} {u0 u1 u2 u3 : Value} (hrb : rb < w.heap.size) (hR : R w3 rb s (s.size - q.length) c') (hz : w.heap.size < W2.heap.size)
    (hD : Dat w3 (fun b => W2.heap.size ≤ b ∧ b < w3.heap.size) D t u0 u1 u2 u3) :
    Out w ((((w3.setCell ⟨w.heap.size, 0, none⟩ u0).setCell ⟨w.heap.size, 1, none⟩ u1).setCell ⟨w.heap.size, 2, none⟩ u2).setCell ⟨w.heap.size, 3, none⟩ u3) rb s D (.inr (t, q, c'))
      (.returned (.tuple #[.agg #[u0, u1, u2, u3], .int .i64 0])) :=
  ⟨_, _, _, _, rfl, hR.set4 (by omega) _ _ _ _, Dat.keep (fun b hb => ⟨heap_set4 w3 (by omega) _ _ _ _, by omega, by rw [size_set4]; exact hb.2⟩) D hD⟩
set_option maxRecDepth 100000 in
set_option maxHeartbeats 4000000 in
theorem datum_any (d : Nat) : DatumSaid d := by
  induction d with
  | zero =>
    intro rb s p c w B o hG hB hR hp hs hc ho hd
    have hrb := hR.lt
    obtain ⟨X, hX⟩ : ∃ X, X = w.alloc (.cells #[.int .i64 0, .int .i64 0, .string ⟨#[]⟩, .slice none 0 0] 24) := ⟨_, rfl⟩
    have HBX : Hid (Box X w.heap.size (.int .i64 0) (.int .i64 0) (.string ⟨#[]⟩) (.slice none 0 0)) := by rw [hX]; exact Box.new w _ _ _ _ _
    have HPX : Hid (Past rb w X) := by rw [hX]; exact (Past.refl rb w).alloc _
    have hzX : X.heap.size = w.heap.size + 1 := by rw [hX]; simp
    have hcall := skip_any rb s p c X (by rw [hX]; exact hR.alloc _) hp hs
    have HX := hid hX
    rw [hX] at hcall
    clear hX
    have HDr := hid (drop_skipTo s p)
    have hple := skipTo_le s p
    go_enter Tryd.func39, Tryd.ntmps39
    go_wp2_with fail
    go_fit hcall
    clear hcall
    rw [← HX.out]
    rintro e w1 ⟨rfl, hR1, hP1⟩
    generalize hpl : skipTo s.data.toList p = pl at hR1 HDr hple
    have hPW := HPX.out.trans hP1
    have hzw : w.heap.size < w1.heap.size := by have := hP1.size; omega
    have HB1 := hid (HBX.out.past hP1 (by omega))
    obtain ⟨x0, x1, x2, x3, y0, y1, y2, y3⟩ := HB1.out
    clear hpl
    by_cases hlt : pl < s.size
    · have hD0 := hid (HDr.out.symm.trans (drop_at s pl hlt))
      have hpli : (pl : Int) < s.size := by omega
      have hE := ended_no rb s pl c w1 hR1 hlt
      have HR1 := hid hR1
      obtain ⟨d0, d1, d2, e1, e2⟩ := hR1
      go_wp2_with fail
      go_fit hE
      clear hE
      rintro e w2 ⟨rfl, n1, rfl⟩
      by_cases h400 : 400 ≤ c
      · have h400i : (400 : Int) ≤ c := by omega
        have HE := hid (pDatum_size (d := 0) hD0.out h400)
        go_wp2_with fail
        refine bodyPost_ret (v := .tuple #[.agg #[.int .i64 0, .int .i64 0, .string ⟨#[]⟩, .slice none 0 0], .int .i64 1]) (by simp [results, Tryd.results39, go_sem, x0, x1, x2, x3]) rfl ?_
        refine ⟨?_, past_set4 (hPW.drewN _) (Nat.le_refl _) _ _ _ _⟩
        rw [HE.out]
        refine ⟨rfl, c, ?_⟩
        rw [← hD0.out, ← HDr.out, show s.size - (s.data.toList.drop pl).length = pl from by simp; omega]
        exact (HR1.out.drewN _).set4 (by omega) _ _ _ _
      · have h400i : ¬ (400 : Int) ≤ c := by omega
        have hoi : (40 : Int) ≤ o := by omega
        have HE := hid (pDatum_deep hD0.out h400)
        go_wp2_with fail
        refine bodyPost_ret (v := .tuple #[.agg #[.int .i64 0, .int .i64 0, .string ⟨#[]⟩, .slice none 0 0], .int .i64 8]) (by simp [results, Tryd.results39, go_sem, x0, x1, x2, x3]) rfl ?_
        refine ⟨?_, past_set4 (hPW.drewN _) (Nat.le_refl _) _ _ _ _⟩
        rw [HE.out]
        refine ⟨rfl, c, ?_⟩
        rw [← hD0.out, ← HDr.out, show s.size - (s.data.toList.drop pl).length = pl from by simp; omega]
        exact (HR1.out.drewN _).set4 (by omega) _ _ _ _
    · have hE := ended_yes rb s pl c w1 hR1 hlt
      have HE := hid (pDatum_short (d := 0) (c := c) (HDr.out.symm.trans (List.drop_of_length_le (by simp; omega))))
      have hpl2 : pl = s.size := by omega
      go_wp2_with fail
      go_fit hE
      clear hE
      rintro e w2 ⟨rfl, n1, rfl⟩
      go_wp2_with fail
      refine bodyPost_ret (v := .tuple #[.agg #[.int .i64 0, .int .i64 0, .string ⟨#[]⟩, .slice none 0 0], .int .i64 5]) (by simp [results, Tryd.results39, go_sem, x0, x1, x2, x3]) rfl ?_
      refine ⟨?_, past_set4 (hPW.drewN _) (Nat.le_refl _) _ _ _ _⟩
      rw [HE.out]
      refine ⟨rfl, c, ?_⟩
      rw [show s.size - ([] : List UInt8).length = pl from by simp; omega]
      exact (hR1.drewN _).set4 (by omega) _ _ _ _
  | succ d ih =>
    intro rb s p c w B o hG hB hR hp hs hc ho hd
    have hrb := hR.lt
    obtain ⟨X, hX⟩ : ∃ X, X = w.alloc (.cells #[.int .i64 0, .int .i64 0, .string ⟨#[]⟩, .slice none 0 0] 24) := ⟨_, rfl⟩
    have HBX : Hid (Box X w.heap.size (.int .i64 0) (.int .i64 0) (.string ⟨#[]⟩) (.slice none 0 0)) := by rw [hX]; exact Box.new w _ _ _ _ _
    have HPX : Hid (Past rb w X) := by rw [hX]; exact (Past.refl rb w).alloc _
    have hzX : X.heap.size = w.heap.size + 1 := by rw [hX]; simp
    have hcall := skip_any rb s p c X (by rw [hX]; exact hR.alloc _) hp hs
    have HX := hid hX
    rw [hX] at hcall
    clear hX
    have HDr := hid (drop_skipTo s p)
    have hple := skipTo_le s p
    go_enter Tryd.func39, Tryd.ntmps39
    go_wp2_with fail
    go_fit hcall
    clear hcall
    rw [← HX.out]
    rintro e w1 ⟨rfl, hR1, hP1⟩
    generalize hpl : skipTo s.data.toList p = pl at hR1 HDr hple
    have hPW := HPX.out.trans hP1
    have hzw : w.heap.size < w1.heap.size := by have := hP1.size; omega
    have HB1 := hid (HBX.out.past hP1 (by omega))
    obtain ⟨x0, x1, x2, x3, y0, y1, y2, y3⟩ := HB1.out
    clear hpl
    by_cases hlt : pl < s.size
    · have hD0 := hid (HDr.out.symm.trans (drop_at s pl hlt))
      have hpli : (pl : Int) < s.size := by omega
      have hE := ended_no rb s pl c w1 hR1 hlt
      have HR1 := hid hR1
      obtain ⟨d0, d1, d2, e1, e2⟩ := hR1
      go_wp2_with fail
      go_fit hE
      clear hE
      rintro e w2 ⟨rfl, n1, rfl⟩
      by_cases h400 : 400 ≤ c
      · have h400i : (400 : Int) ≤ c := by omega
        have HE := hid (pDatum_size (d := d + 1) hD0.out h400)
        go_wp2_with fail
        refine bodyPost_ret (v := .tuple #[.agg #[.int .i64 0, .int .i64 0, .string ⟨#[]⟩, .slice none 0 0], .int .i64 1]) (by simp [results, Tryd.results39, go_sem, x0, x1, x2, x3]) rfl ?_
        refine ⟨?_, past_set4 (hPW.drewN _) (Nat.le_refl _) _ _ _ _⟩
        rw [HE.out]
        refine ⟨rfl, c, ?_⟩
        rw [← hD0.out, ← HDr.out, show s.size - (s.data.toList.drop pl).length = pl from by simp; omega]
        exact (HR1.out.drewN _).set4 (by omega) _ _ _ _
      · have h400i : ¬ (400 : Int) ≤ c := by omega
        have hoi : ¬ (40 : Int) ≤ o := by omega
        have h1 : (c : Int) + 1 ≤ 401 := by omega
        by_cases q41 : s[pl].toNat = 41
        · have b41 : ((s[pl].toNat : Int) == 41) = true := by simp [q41]
          have HE := hid (pDatum_form (d := d) hD0.out h400 q41)
          go_wp2_with fail
          go_quiet (fail)
          go_wp2_with fail
          refine bodyPost_ret (v := .tuple #[.agg #[.int .i64 0, .int .i64 0, .string ⟨#[]⟩, .slice none 0 0], .int .i64 4]) (by simp [results, Tryd.results39, go_sem, x0, x1, x2, x3]) rfl ?_
          refine ⟨?_, past_set4 (Past.drewN (Past.setCell (p := ⟨rb, 2, none⟩) (hPW.drewN n1) (Or.inl rfl) _) nq) (Nat.le_refl _) _ _ _ _⟩
          rw [HE.out]
          refine ⟨rfl, c + 1, ?_⟩
          rw [← hD0.out, ← HDr.out, show s.size - (s.data.toList.drop pl).length = pl from by simp; omega]
          exact (((HR1.out.drewN n1).setCount (c + 1) _ (by omega)).drewN nq).set4 (by omega) _ _ _ _
        have b41 : ((s[pl].toNat : Int) == 41) = false := by simp; omega
        by_cases q40 : s[pl].toNat = 40
        · have b40 : ((s[pl].toNat : Int) == 40) = true := by simp [q40]
          have HE := hid (pDatum_list (d := d) hD0.out h400 q40)
          clear q40 q41
          go_wp2_with fail
          go_quiet (fail)
          go_wp2_with fail
          obtain ⟨W2, hW2⟩ : ∃ W2, W2 = ((w1.drewN n1).setCell ⟨rb, 2, none⟩ (.int .i64 ((c : Int) + 1))).drewN nq := ⟨_, rfl⟩
          have HR2 : Hid (R W2 rb s pl (c + 1)) := by rw [hW2]; exact ((HR1.out.drewN n1).setCount (c + 1) _ (by omega)).drewN nq
          have HP2 : Hid (Past rb w W2) := by rw [hW2]; exact (Past.setCell (p := ⟨rb, 2, none⟩) (hPW.drewN n1) (Or.inl rfl) _).drewN nq
          have HB2 : Hid (Box W2 w.heap.size (.int .i64 0) (.int .i64 0) (.string ⟨#[]⟩) (.slice none 0 0)) := by
            rw [hW2]
            exact HB1.out.of_block (Below.heap_setCell (w1.drewN n1) ⟨rb, 2, none⟩ _ w.heap.size (by show ¬ w.heap.size = rb; omega))
          have hz2 : w.heap.size < W2.heap.size := by rw [hW2]; simp; exact hzw
          have HG2 := hid (hG.past HP2.out hB (by omega))
          rw [← hW2]
          clear hW2
          have hcall := list_any d ih rb s pl (c + 1) W2 B o HG2.out hB HR2.out hlt hs (by omega) ho (by omega)
          go_fit hcall
          clear hcall
          rintro e w3 ⟨hO, hP3⟩
          have hPW3 := HP2.out.trans hP3
          obtain ⟨z0, z1, z2, z3, k0, k1, k2, k3⟩ := HB2.out.past hP3 (by omega)
          rw [← HE.out] at hO
          cases hres : pDatum (d + 1) (s.data.toList.drop p) c with
          | inl eq =>
            obtain ⟨x, q⟩ := eq
            rw [hres] at hO
            obtain ⟨rfl, c', hR3⟩ := hO
            have HRes := hid hres
            clear hres
            go_wp2_with fail
            refine bodyPost_ret (v := .tuple #[.agg #[.int .i64 0, .int .i64 0, .string ⟨#[]⟩, .slice none 0 0], .int .i64 x]) (by simp [results, Tryd.results39, go_sem, z0, z1, z2, z3]) rfl ?_
            refine ⟨?_, past_set4 hPW3 (Nat.le_refl _) _ _ _ _⟩
            rw [HRes.out]
            exact out_inl hrb hR3 _ _ _ _
          | inr tq =>
            obtain ⟨t, q, c'⟩ := tq
            rw [hres] at hO
            obtain ⟨u0, u1, u2, u3, rfl, hR3, hDat⟩ := hO
            obtain ⟨k, n, z, a, len, cap, rfl, rfl, rfl, rfl⟩ := hDat.shape
            have HRes := hid hres
            have HDat := hid hDat
            clear hres hDat
            go_wp2_with fail
            refine bodyPost_ret (v := .tuple #[.agg #[.int .i64 k, .int .i64 n, .string z, .slice a len cap], .int .i64 0]) (by simp [results, Tryd.results39, go_sem, z0, z1, z2, z3]) rfl ?_
            refine ⟨?_, past_set4 hPW3 (Nat.le_refl _) _ _ _ _⟩
            rw [HRes.out]
            exact out_inr hrb hR3 hz2 HDat.out
        have b40 : ((s[pl].toNat : Int) == 40) = false := by simp; omega
        by_cases q39 : s[pl].toNat = 39
        · have b39 : ((s[pl].toNat : Int) == 39) = true := by simp [q39]
          have HE := hid (pDatum_quote (d := d) hD0.out h400 q39)
          clear q40 q41 q39
          go_wp2_with fail
          go_quiet (fail)
          go_wp2_with fail
          obtain ⟨W2, hW2⟩ : ∃ W2, W2 = ((w1.drewN n1).setCell ⟨rb, 2, none⟩ (.int .i64 ((c : Int) + 1))).drewN nq := ⟨_, rfl⟩
          have HR2 : Hid (R W2 rb s pl (c + 1)) := by rw [hW2]; exact ((HR1.out.drewN n1).setCount (c + 1) _ (by omega)).drewN nq
          have HP2 : Hid (Past rb w W2) := by rw [hW2]; exact (Past.setCell (p := ⟨rb, 2, none⟩) (hPW.drewN n1) (Or.inl rfl) _).drewN nq
          have HB2 : Hid (Box W2 w.heap.size (.int .i64 0) (.int .i64 0) (.string ⟨#[]⟩) (.slice none 0 0)) := by
            rw [hW2]
            exact HB1.out.of_block (Below.heap_setCell (w1.drewN n1) ⟨rb, 2, none⟩ _ w.heap.size (by show ¬ w.heap.size = rb; omega))
          have hz2 : w.heap.size < W2.heap.size := by rw [hW2]; simp; exact hzw
          have HG2 := hid (hG.past HP2.out hB (by omega))
          rw [← hW2]
          clear hW2
          have hcall := quoted_any d ih rb s pl (c + 1) W2 B o HG2.out hB HR2.out hlt hs (by omega) ho (by omega)
          go_fit hcall
          clear hcall
          rintro e w3 ⟨hO, hP3⟩
          have hPW3 := HP2.out.trans hP3
          obtain ⟨z0, z1, z2, z3, k0, k1, k2, k3⟩ := HB2.out.past hP3 (by omega)
          rw [← HE.out] at hO
          cases hres : pDatum (d + 1) (s.data.toList.drop p) c with
          | inl eq =>
            obtain ⟨x, q⟩ := eq
            rw [hres] at hO
            obtain ⟨rfl, c', hR3⟩ := hO
            have HRes := hid hres
            clear hres
            go_wp2_with fail
            refine bodyPost_ret (v := .tuple #[.agg #[.int .i64 0, .int .i64 0, .string ⟨#[]⟩, .slice none 0 0], .int .i64 x]) (by simp [results, Tryd.results39, go_sem, z0, z1, z2, z3]) rfl ?_
            refine ⟨?_, past_set4 hPW3 (Nat.le_refl _) _ _ _ _⟩
            rw [HRes.out]
            exact out_inl hrb hR3 _ _ _ _
          | inr tq =>
            obtain ⟨t, q, c'⟩ := tq
            rw [hres] at hO
            obtain ⟨u0, u1, u2, u3, rfl, hR3, hDat⟩ := hO
            obtain ⟨k, n, z, a, len, cap, rfl, rfl, rfl, rfl⟩ := hDat.shape
            have HRes := hid hres
            have HDat := hid hDat
            clear hres hDat
            go_wp2_with fail
            refine bodyPost_ret (v := .tuple #[.agg #[.int .i64 k, .int .i64 n, .string z, .slice a len cap], .int .i64 0]) (by simp [results, Tryd.results39, go_sem, z0, z1, z2, z3]) rfl ?_
            refine ⟨?_, past_set4 hPW3 (Nat.le_refl _) _ _ _ _⟩
            rw [HRes.out]
            exact out_inr hrb hR3 hz2 HDat.out
        · have b39 : ((s[pl].toNat : Int) == 39) = false := by simp; omega
          have HE := hid ((pDatum_word (d := d) hD0.out h400 q41 q40 q39).trans (by rw [← drop_at s pl hlt]))
          clear q40 q41 q39
          go_wp2_with fail
          go_quiet (fail)
          go_wp2_with fail
          obtain ⟨W2, hW2⟩ : ∃ W2, W2 = ((w1.drewN n1).setCell ⟨rb, 2, none⟩ (.int .i64 ((c : Int) + 1))).drewN nq := ⟨_, rfl⟩
          have HR2 : Hid (R W2 rb s pl (c + 1)) := by rw [hW2]; exact ((HR1.out.drewN n1).setCount (c + 1) _ (by omega)).drewN nq
          have HP2 : Hid (Past rb w W2) := by rw [hW2]; exact (Past.setCell (p := ⟨rb, 2, none⟩) (hPW.drewN n1) (Or.inl rfl) _).drewN nq
          have HB2 : Hid (Box W2 w.heap.size (.int .i64 0) (.int .i64 0) (.string ⟨#[]⟩) (.slice none 0 0)) := by
            rw [hW2]
            exact HB1.out.of_block (Below.heap_setCell (w1.drewN n1) ⟨rb, 2, none⟩ _ w.heap.size (by show ¬ w.heap.size = rb; omega))
          have hz2 : w.heap.size < W2.heap.size := by rw [hW2]; simp; exact hzw
          have HG2 := hid (hG.past HP2.out hB (by omega))
          rw [← hW2]
          clear hW2
          have hcall := rword_any (d + 1) rb s pl (c + 1) W2 B HG2.out hB HR2.out hple hs
          go_fit hcall
          clear hcall
          rintro e w3 ⟨hO, hP3⟩
          have hPW3 := HP2.out.trans hP3
          obtain ⟨z0, z1, z2, z3, k0, k1, k2, k3⟩ := HB2.out.past hP3 (by omega)
          rw [← HE.out] at hO
          cases hres : pDatum (d + 1) (s.data.toList.drop p) c with
          | inl eq =>
            obtain ⟨x, q⟩ := eq
            rw [hres] at hO
            obtain ⟨rfl, c', hR3⟩ := hO
            have HRes := hid hres
            clear hres
            go_wp2_with fail
            refine bodyPost_ret (v := .tuple #[.agg #[.int .i64 0, .int .i64 0, .string ⟨#[]⟩, .slice none 0 0], .int .i64 x]) (by simp [results, Tryd.results39, go_sem, z0, z1, z2, z3]) rfl ?_
            refine ⟨?_, past_set4 hPW3 (Nat.le_refl _) _ _ _ _⟩
            rw [HRes.out]
            exact out_inl hrb hR3 _ _ _ _
          | inr tq =>
            obtain ⟨t, q, c'⟩ := tq
            rw [hres] at hO
            obtain ⟨u0, u1, u2, u3, rfl, hR3, hDat⟩ := hO
            obtain ⟨k, n, z, a, len, cap, rfl, rfl, rfl, rfl⟩ := hDat.shape
            have HRes := hid hres
            have HDat := hid hDat
            clear hres hDat
            go_wp2_with fail
            refine bodyPost_ret (v := .tuple #[.agg #[.int .i64 k, .int .i64 n, .string z, .slice a len cap], .int .i64 0]) (by simp [results, Tryd.results39, go_sem, z0, z1, z2, z3]) rfl ?_
            refine ⟨?_, past_set4 hPW3 (Nat.le_refl _) _ _ _ _⟩
            rw [HRes.out]
            exact out_inr hrb hR3 hz2 HDat.out
    · have hE := ended_yes rb s pl c w1 hR1 hlt
      have HE := hid (pDatum_short (d := d + 1) (c := c) (HDr.out.symm.trans (List.drop_of_length_le (by simp; omega))))
      have hpl2 : pl = s.size := by omega
      go_wp2_with fail
      go_fit hE
      clear hE
      rintro e w2 ⟨rfl, n1, rfl⟩
      go_wp2_with fail
      refine bodyPost_ret (v := .tuple #[.agg #[.int .i64 0, .int .i64 0, .string ⟨#[]⟩, .slice none 0 0], .int .i64 5]) (by simp [results, Tryd.results39, go_sem, x0, x1, x2, x3]) rfl ?_
      refine ⟨?_, past_set4 (hPW.drewN _) (Nat.le_refl _) _ _ _ _⟩
      rw [HE.out]
      refine ⟨rfl, c, ?_⟩
      rw [show s.size - ([] : List UInt8).length = pl from by simp; omega]
      exact (hR1.drewN _).set4 (by omega) _ _ _ _
end Go.Proofs.YtfhiolnoalghmaaDoor

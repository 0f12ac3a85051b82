/- What begins at an address: heap's thingAt. -/
import Derived.Test.YtfjfobpdlmdddaaHThing
import Derived.RegionTactic
import Derived.Deep.RegionWith
namespace Go.Proofs.Ytfjfobpdlmdddaa
set_option maxRecDepth 100000
open Go.RowKit
def thR (a : Nat) : Option (Nat × Nat) → Value
  | some (f, e) => .tuple #[.agg #[.int .i64 a, .int .i64 f, .int .i64 e], .bool true]
  | none => .tuple #[.agg #[.int .i64 0, .int .i64 0, .int .i64 0], .bool false]
theorem tAt_at {l : List Wd} {i : Nat} (h : i < l.length) : tAt l i = if plainB l[i].n l[i].s (headsI l[i].k) = false then none else if 0 < versI l[i].k then (if intAt l (i + 1) (versI l[i].k) = true then tailT l (i + 2) l[i].k else none) else tailT l (i + 1) l[i].k := by
  unfold tAt; rw [List.getElem?_eq_getElem h]
theorem intAt_lt {l : List Wd} {i : Nat} {b : Int} (h : intAt l i b = true) : ∃ hi : i < l.length, 0 ≤ l[i].n ∧ l[i].n < b ∧ nAt l i = l[i].n.toNat := by
  by_cases hi : i < l.length
  · rw [intAt_at l i b hi] at h
    simp [plainB] at h
    exact ⟨hi, h.2.1.1, h.2.1.2, by unfold nAt; rw [List.getElem?_eq_getElem hi]⟩
  · rw [intAt_no l i b hi] at h; cases h
theorem cells3 {w w1 : World} {B b : Nat} {v0 v1 v2 : Value} (hb : Below B w w1) (hB : b < B) (h : w.cell? ⟨b, 0, none⟩ = some v0 ∧ w.cell? ⟨b, 1, none⟩ = some v1 ∧ w.cell? ⟨b, 2, none⟩ = some v2 ∧ w.frozen? ⟨b, 0, none⟩ = false ∧ w.frozen? ⟨b, 1, none⟩ = false ∧ w.frozen? ⟨b, 2, none⟩ = false) :
    w1.cell? ⟨b, 0, none⟩ = some v0 ∧ w1.cell? ⟨b, 1, none⟩ = some v1 ∧ w1.cell? ⟨b, 2, none⟩ = some v2 ∧ w1.frozen? ⟨b, 0, none⟩ = false ∧ w1.frozen? ⟨b, 1, none⟩ = false ∧ w1.frozen? ⟨b, 2, none⟩ = false :=
  ⟨(hb.cell (p := ⟨b, 0, none⟩) hB).trans h.1, (hb.cell (p := ⟨b, 1, none⟩) hB).trans h.2.1, (hb.cell (p := ⟨b, 2, none⟩) hB).trans h.2.2.1, (hb.frozen (p := ⟨b, 0, none⟩) hB).trans h.2.2.2.1, (hb.frozen (p := ⟨b, 1, none⟩) hB).trans h.2.2.2.2.1, (hb.frozen (p := ⟨b, 2, none⟩) hB).trans h.2.2.2.2.2⟩
theorem cells4 {w w1 : World} {B b : Nat} {v0 v1 v2 v3 : Value} (hb : Below B w w1) (hB : b < B) (h : w.cell? ⟨b, 0, none⟩ = some v0 ∧ w.cell? ⟨b, 1, none⟩ = some v1 ∧ w.cell? ⟨b, 2, none⟩ = some v2 ∧ w.cell? ⟨b, 3, none⟩ = some v3) :
    w1.cell? ⟨b, 0, none⟩ = some v0 ∧ w1.cell? ⟨b, 1, none⟩ = some v1 ∧ w1.cell? ⟨b, 2, none⟩ = some v2 ∧ w1.cell? ⟨b, 3, none⟩ = some v3 :=
  ⟨(hb.cell (p := ⟨b, 0, none⟩) hB).trans h.1, (hb.cell (p := ⟨b, 1, none⟩) hB).trans h.2.1, (hb.cell (p := ⟨b, 2, none⟩) hB).trans h.2.2.1, (hb.cell (p := ⟨b, 3, none⟩) hB).trans h.2.2.2⟩
theorem vers_cntd {k : Int} (h : 0 < versI k) : cntdB k = true := by
  unfold versI at h
  by_cases h9 : k = 9
  · simp [cntdB, h9]
  · by_cases h10 : k = 10
    · simp [cntdB, h10]
    · rw [if_neg h9, if_neg h10] at h; omega
theorem below_set3 {B g : Nat} {a w : World} (h : Below B a w) (hg : B ≤ g) (x0 x1 x2 : Value) : Below B a (((w.setCell ⟨g, 0, none⟩ x0).setCell ⟨g, 1, none⟩ x1).setCell ⟨g, 2, none⟩ x2) :=
  ((h.setCell (p := ⟨g, 0, none⟩) hg _).setCell (p := ⟨g, 1, none⟩) hg _).setCell (p := ⟨g, 2, none⟩) hg _
set_option maxHeartbeats 4000000 in
theorem thingAt_any (w : World) (B : Nat) (a : Option Addr) (l : List Wd) (len cap i : Nat) (hlen : len = l.length) (hl : len ≤ 60000) (hi : i < len) (hBw : B ≤ w.heap.size) (hW : Wds w B a l) :
    Calls Try.prog 41 #[.slice a len cap, .int .i64 i] w fun e w' => e = .returned (thR i (tAt l i)) ∧ Below w.heap.size w w' := by
  have hL := hid hlen
  clear hlen
  have hi2 : i < l.length := by rw [← hL.out]; exact hi
  have hi3 : (i : Int) < len := by omega
  have HT := hid (tAt_at hi2)
  obtain ⟨bb, o, rfl, hbB, c0, c1, c2⟩ := hW i hi2
  have hvl := hid (valsI_le l[i].k)
  generalize l[i].k = k at c0 HT hvl
  generalize l[i].n = n at c1 HT
  generalize l[i].s = s at c2 HT
  have hbw : bb < w.heap.size := by omega
  go_enter Try.func41, Try.ntmps41
  go_wp2_with fail
  have hcall := planOf_any k (w.alloc (.cells #[.int .i64 0, .int .i64 0, .int .i64 0] 81))
  go_fit hcall
  clear hcall
  rintro e w1 ⟨rfl, hb1⟩
  have hb1' : Below (w.heap.size + 1) (w.alloc (.cells #[.int .i64 0, .int .i64 0, .int .i64 0] 81)) w1 := hb1.mono (by simp)
  clear hb1
  have hz1 := hb1'.size
  simp at hz1
  have hB1 : Below w.heap.size w w1 := ((Below.refl _ _).alloc (Nat.le_refl _) _).trans (hb1'.mono (by omega))
  obtain ⟨r0, r1, r2, f0, f1, f2⟩ := cells3 hb1' (show w.heap.size < w.heap.size + 1 by omega) (v0 := .int .i64 0) (v1 := .int .i64 0) (v2 := .int .i64 0) (by refine ⟨?_, ?_, ?_, ?_, ?_, ?_⟩ <;> go_simp)
  have d0 := (hB1.cell (p := ⟨bb, _, none⟩) hbw).trans c0
  have d1 := (hB1.cell (p := ⟨bb, _, none⟩) hbw).trans c1
  have d2 := (hB1.cell (p := ⟨bb, _, none⟩) hbw).trans c2
  have hW1 := hid (hW.below (hB1.mono hBw))
  clear c0 c1 c2
  go_wp2_with fail
  obtain ⟨w1a, hw1a⟩ : ∃ w1a, w1a = w1.alloc (.cells #[.int .i64 (headsI k), .int .i64 (versI k), .int .i64 (valsI k), .bool (cntdB k)] 100) := ⟨_, rfl⟩
  have hBa : Below w1.heap.size w1 w1a := by rw [hw1a]; exact (Below.refl _ _).alloc (Nat.le_refl _) _
  have hza : w1a.heap.size = w1.heap.size + 1 := by rw [hw1a]; simp
  have pp : w1a.cell? ⟨w1.heap.size, 0, none⟩ = some (.int .i64 (headsI k)) ∧ w1a.cell? ⟨w1.heap.size, 1, none⟩ = some (.int .i64 (versI k)) ∧ w1a.cell? ⟨w1.heap.size, 2, none⟩ = some (.int .i64 (valsI k)) ∧ w1a.cell? ⟨w1.heap.size, 3, none⟩ = some (.bool (cntdB k)) := by
    rw [hw1a]; refine ⟨?_, ?_, ?_, ?_⟩ <;> go_simp
  rw [← hw1a]
  clear hw1a
  have rr := cells3 hBa (show w.heap.size < w1.heap.size by omega) ⟨r0, r1, r2, f0, f1, f2⟩
  have e0 := (hBa.cell (p := ⟨bb, _, none⟩) (show bb < w1.heap.size by omega)).trans d0
  have e1 := (hBa.cell (p := ⟨bb, _, none⟩) (show bb < w1.heap.size by omega)).trans d1
  have e2 := (hBa.cell (p := ⟨bb, _, none⟩) (show bb < w1.heap.size by omega)).trans d2
  have hW2 := hid (hW1.out.below (hBa.mono (by omega)))
  have p0 := pp.1
  clear d0 d1 d2 r0 r1 r2 f0 f1 f2 hW1
  generalize headsI k = hd at HT pp p0 ⊢
  generalize w1.heap.size = pb at *
  go_region_with (go_at_call 55; refine (isPlain_any k n hd s _).mono ?_; rintro e w2 ⟨rfl, hb2⟩)
  all_goals
    have hb2' : Below w1a.heap.size w1a w2 := ⟨hb2.os, hb2.tape, hb2.output, hb2.size, hb2.block⟩
    clear hb2
    have hz2 := hb2'.size
    have rr2 := cells3 hb2' (show w.heap.size < w1a.heap.size by omega) rr
    have pp2 := cells4 hb2' (show pb < w1a.heap.size by omega) pp
    have hW3 := hid (hW2.out.below (hb2'.mono (by omega)))
    have hB2 : Below w.heap.size w w2 := (hB1.trans (hBa.mono (by omega))).trans (hb2'.mono (by omega))
    clear hb2' hBa hB1 e0 e1 e2 rr pp p0 hW2 hW hb1'
    cases hpl : plainB n s hd
    · obtain ⟨r0, r1, r2, f0, f1, f2⟩ := rr2
      have HR := hid (show tAt l i = none by rw [HT.out, if_pos hpl])
      clear HT
      go_wp2_with fail
      refine bodyPost_ret (v := .tuple #[.agg #[.int .i64 0, .int .i64 0, .int .i64 0], .bool false]) (by simp [results, Try.results41, go_sem, r0, r1, r2]) rfl ⟨?_, ?_⟩
      · rw [HR.out]; rfl
      · exact below_set3 hB2 (Nat.le_refl _) _ _ _
    · obtain ⟨p0, p1, p2, p3⟩ := id pp2
      have hpb : pb < w2.heap.size := by omega
      have hrb : w.heap.size < w2.heap.size := by omega
      obtain ⟨f, hf⟩ : ∃ f : Nat, f = i + 1 := ⟨_, rfl⟩
      have hf1 : (i : Int) + 1 = f := by omega
      have hfb : f ≤ 60000 := by omega
      have Hf := hid hf
      clear hf
      obtain ⟨hv0, hv1⟩ := hvl.out
      by_cases hv : 0 < versI k
      · have hc : cntdB k = true := vers_cntd hv
        rw [hc] at p3 pp2
        go_wp2_with fail
        obtain ⟨w3, hw3⟩ : ∃ w3, w3 = w2.alloc (.cells #[.int .i64 (i : Int), .int .i64 (f : Int), .int .i64 0] 81) := ⟨_, rfl⟩
        have hB3 : Below w2.heap.size w2 w3 := by rw [hw3]; exact (Below.refl _ _).alloc (Nat.le_refl _) _
        have hz3 : w3.heap.size = w2.heap.size + 1 := by rw [hw3]; simp
        have tt3 : w3.cell? ⟨w2.heap.size, 0, none⟩ = some (.int .i64 (i : Int)) ∧ w3.cell? ⟨w2.heap.size, 1, none⟩ = some (.int .i64 (f : Int)) ∧ w3.cell? ⟨w2.heap.size, 2, none⟩ = some (.int .i64 0) ∧ w3.frozen? ⟨w2.heap.size, 0, none⟩ = false ∧ w3.frozen? ⟨w2.heap.size, 1, none⟩ = false ∧ w3.frozen? ⟨w2.heap.size, 2, none⟩ = false := by
          rw [hw3]; refine ⟨?_, ?_, ?_, ?_, ?_, ?_⟩ <;> go_simp
        rw [← hw3]
        clear hw3
        have rr3 := cells3 hB3 hrb rr2
        have pp3 := cells4 hB3 hpb pp2
        have hW3a := hid (hW3.out.below (hB3.mono (by omega)))
        have hBw3 := hB2.trans (hB3.mono (by omega))
        clear rr2 pp2 hW3 hB2 p0 p1 p2 p3 hB3
        generalize w2.heap.size = tb at *
        have htb : tb < w3.heap.size := by omega
        have hcall := hasInt_any w3 B _ l len cap f (versI k) hL.out hW3a.out
        go_fit hcall
        clear hcall
        rintro e w4 ⟨rfl, hb4⟩
        have hz4 := hb4.size
        obtain ⟨r0, r1, r2, f0, f1, f2⟩ := cells3 hb4 (show w.heap.size < w3.heap.size by omega) rr3
        obtain ⟨p0, p1, p2, p3⟩ := cells4 hb4 (show pb < w3.heap.size by omega) pp3
        obtain ⟨t0, t1, t2, g0, g1, g2⟩ := cells3 hb4 htb tt3
        have hW4 := hW3a.out.below (hb4.mono (by omega))
        have hB4 := hBw3.trans (hb4.mono (by omega))
        clear rr3 pp3 tt3 hW3a hb4 hBw3
        cases hx : intAt l f (versI k)
        · have HR := hid (show tAt l i = none by rw [HT.out, if_neg (by simp [hpl]), if_pos hv, ← Hf.out, if_neg (by simp [hx])])
          clear HT
          go_wp2_with fail
          refine bodyPost_ret (v := .tuple #[.agg #[.int .i64 0, .int .i64 0, .int .i64 0], .bool false]) (by simp [results, Try.results41, go_sem, r0, r1, r2]) rfl ⟨?_, ?_⟩
          · rw [HR.out]; rfl
          · exact below_set3 hB4 (Nat.le_refl _) _ _ _
        · have HF0 := show tAt l i = tailT l (f + 1) k by rw [HT.out, if_neg (by simp [hpl]), if_pos hv, ← Hf.out, if_pos hx, Hf.out]
          clear hx
          obtain ⟨g, hg⟩ : ∃ g : Nat, g = f + 1 := ⟨_, rfl⟩
          rw [← hg] at HF0
          have HF := hid HF0
          have hf1' : (f : Int) + 1 = g := by omega
          have hgb : g ≤ 60001 := by omega
          clear hg HF0 hf1 Hf
          go_wp2_with fail
          obtain ⟨w4', hw4'⟩ : ∃ w4', w4' = w4.setCell ⟨tb, 1, none⟩ (.int .i64 (g : Int)) := ⟨_, rfl⟩
          rw [← hw4']
          have hB4' := hB4.setCell (p := ⟨tb, 1, none⟩) (show w.heap.size ≤ tb by omega) (.int .i64 (g : Int))
          have tt4 : w4'.cell? ⟨tb, 0, none⟩ = some (.int .i64 (i : Int)) ∧ w4'.cell? ⟨tb, 1, none⟩ = some (.int .i64 (g : Int)) ∧ w4'.cell? ⟨tb, 2, none⟩ = some (.int .i64 0) ∧ w4'.frozen? ⟨tb, 0, none⟩ = false ∧ w4'.frozen? ⟨tb, 1, none⟩ = false ∧ w4'.frozen? ⟨tb, 2, none⟩ = false := by
            rw [hw4']; refine ⟨?_, ?_, ?_, ?_, ?_, ?_⟩ <;> go_simp
          have hBt : Below tb w4 w4' := by rw [hw4']; exact (Below.refl _ _).setCell (p := ⟨tb, 1, none⟩) (Nat.le_refl _) _
          have hz4' : w4'.heap.size = w4.heap.size := by rw [hw4']; simp
          rw [← hw4'] at hB4'
          clear hw4'
          have rr4 := cells3 hBt hrb ⟨r0, r1, r2, f0, f1, f2⟩
          have pp4 := cells4 hBt hpb ⟨p0, p1, p2, p3⟩
          have hW4' := hid (hW4.below (hBt.mono (by omega)))
          have htb' : tb < w4'.heap.size := by omega
          clear hB4 hW4 hBt r0 r1 r2 f0 f1 f2 p0 p1 p2 p3 t0 t1 t2 g0 g1 g2 htb
        
          have hcall := hasInt_any w4' B _ l len cap g (valsI k + 1) hL.out hW4'.out
          go_fit hcall
          clear hcall
          rintro e w5 ⟨rfl, hb5⟩
          have hz5 := hb5.size
          obtain ⟨r0, r1, r2, f0, f1, f2⟩ := cells3 hb5 (show w.heap.size < w4'.heap.size by omega) rr4
          obtain ⟨p0, p1, p2, p3⟩ := cells4 hb5 (show pb < w4'.heap.size by omega) pp4
          obtain ⟨t0, t1, t2, g0, g1, g2⟩ := cells3 hb5 htb' tt4
          have hW5 := hW4'.out.below (hb5.mono (by omega))
          have hB5 := hB4'.trans (hb5.mono (by omega))
          clear rr4 pp4 tt4 hW4' hb5 hB4'
          cases hx : intAt l g (valsI k + 1)
          · have HR := hid (show tAt l i = none by rw [HF.out]; unfold tailT; rw [if_pos hc, if_neg (by simp [hx])])
            clear HF HT
            go_wp2_with fail
            refine bodyPost_ret (v := .tuple #[.agg #[.int .i64 0, .int .i64 0, .int .i64 0], .bool false]) (by simp [results, Try.results41, go_sem, r0, r1, r2]) rfl ⟨?_, ?_⟩
            · rw [HR.out]; rfl
            · exact below_set3 hB5 (Nat.le_refl _) _ _ _
          · obtain ⟨hfl2, hn0, hn1, hnA⟩ := intAt_lt hx
            obtain ⟨bb', o', hbo, hbB', c0, c1, c2⟩ := hW5 g hfl2
            injection hbo with hbo; injection hbo with hbo1 hbo2; subst hbo1 hbo2
            have HE := hid (show tAt l i = fitT l (g + 1) l[g].n.toNat by rw [HF.out]; unfold tailT; rw [if_pos hc, if_pos hx, hnA])
            have hfl3 : g < len := by rw [hL.out]; exact hfl2
            have hfl4 : (g : Int) < len := by omega
            clear HF HT hW5 hnA hx c0 c2
            generalize l[g].n = m at c1 HE hn0 hn1
            obtain ⟨f', hf'⟩ : ∃ f' : Nat, f' = g + 1 := ⟨_, rfl⟩
            have hf2 : (g : Int) + 1 = f' := by omega
            have hfb' : f' ≤ 60001 := by omega
            rw [← hf'] at HE
            have hm40 : m ≤ 40 := by omega
            clear hf' hf1'
            by_cases hfit : f' + m.toNat ≤ len
            · have HR := hid (show tAt l i = some (f', f' + m.toNat) by rw [HE.out]; unfold fitT; rw [if_pos (by rw [← hL.out]; exact hfit)])
              clear HE
              have hfit2 : (f' : Int) + m ≤ len := by omega
              go_wp2_with fail
              refine bodyPost_ret (v := .tuple #[.agg #[.int .i64 i, .int .i64 f', .int .i64 ((f' : Int) + m)], .bool true]) (by simp [results, Try.results41, go_sem, r0, r1, r2]) rfl ⟨?_, ?_⟩
              · rw [HR.out]; simp [thR]; omega
              · exact below_set3 ((hB5.setCell (p := ⟨tb, 1, none⟩) (Nat.le_of_lt hrb) _).setCell (p := ⟨tb, 2, none⟩) (Nat.le_of_lt hrb) _) (Nat.le_refl _) _ _ _
            · have HR := hid (show tAt l i = none by rw [HE.out]; unfold fitT; rw [if_neg (by rw [← hL.out]; exact hfit)])
              clear HE
              have hfit2 : ¬ (f' : Int) + m ≤ len := by omega
              go_wp2_with fail
              refine bodyPost_ret (v := .tuple #[.agg #[.int .i64 0, .int .i64 0, .int .i64 0], .bool false]) (by simp [results, Try.results41, go_sem, r0, r1, r2]) rfl ⟨?_, ?_⟩
              · rw [HR.out]; rfl
              · exact below_set3 ((hB5.setCell (p := ⟨tb, 1, none⟩) (Nat.le_of_lt hrb) _).setCell (p := ⟨tb, 2, none⟩) (Nat.le_of_lt hrb) _) (Nat.le_refl _) _ _ _
      · have HF := hid (show tAt l i = tailT l f k by rw [HT.out, if_neg (by simp [hpl]), if_neg hv, Hf.out])
        cases hc : cntdB k
        · have HE := hid (show tAt l i = fitT l f (valsI k).toNat by rw [HF.out]; unfold tailT; rw [if_neg (by simp [hc])])
          obtain ⟨r0, r1, r2, f0, f1, f2⟩ := id rr2
          rw [hc] at p3 pp2
          clear HF HT hvl p0 hW3
          generalize valsI k = vl at p2 HE hv0 hv1 pp2 ⊢
          by_cases hfit : f + vl.toNat ≤ len
          · have HR := hid (show tAt l i = some (f, f + vl.toNat) by rw [HE.out]; unfold fitT; rw [if_pos (by rw [← hL.out]; exact hfit)])
            clear HE
            have hfit2 : (f : Int) + vl ≤ len := by omega
            go_wp2_with fail
            refine bodyPost_ret (v := .tuple #[.agg #[.int .i64 i, .int .i64 f, .int .i64 ((f : Int) + vl)], .bool true]) (by simp [results, Try.results41, go_sem, hrb, r0, r1, r2]) rfl ⟨?_, ?_⟩
            · rw [HR.out]; simp [thR]; omega
            · exact (below_set3 hB2 (Nat.le_refl _) _ _ _).alloc (by simp; omega) _
          · have HR := hid (show tAt l i = none by rw [HE.out]; unfold fitT; rw [if_neg (by rw [← hL.out]; exact hfit)])
            clear HE
            have hfit2 : ¬ (f : Int) + vl ≤ len := by omega
            go_wp2_with fail
            refine bodyPost_ret (v := .tuple #[.agg #[.int .i64 0, .int .i64 0, .int .i64 0], .bool false]) (by simp [results, Try.results41, go_sem, hrb, r0, r1, r2]) rfl ⟨?_, ?_⟩
            · rw [HR.out]; rfl
            · exact (below_set3 hB2 (Nat.le_refl _) _ _ _).alloc (by simp; omega) _
        · rw [hc] at p3 pp2
          go_wp2_with fail
          obtain ⟨w4, hw4⟩ : ∃ w4, w4 = w2.alloc (.cells #[.int .i64 (i : Int), .int .i64 (f : Int), .int .i64 0] 81) := ⟨_, rfl⟩
          have hB3 : Below w2.heap.size w2 w4 := by rw [hw4]; exact (Below.refl _ _).alloc (Nat.le_refl _) _
          have hz3 : w4.heap.size = w2.heap.size + 1 := by rw [hw4]; simp
          have tt4 : w4.cell? ⟨w2.heap.size, 0, none⟩ = some (.int .i64 (i : Int)) ∧ w4.cell? ⟨w2.heap.size, 1, none⟩ = some (.int .i64 (f : Int)) ∧ w4.cell? ⟨w2.heap.size, 2, none⟩ = some (.int .i64 0) ∧ w4.frozen? ⟨w2.heap.size, 0, none⟩ = false ∧ w4.frozen? ⟨w2.heap.size, 1, none⟩ = false ∧ w4.frozen? ⟨w2.heap.size, 2, none⟩ = false := by
            rw [hw4]; refine ⟨?_, ?_, ?_, ?_, ?_, ?_⟩ <;> go_simp
          rw [← hw4]
          clear hw4
          have rr4 := cells3 hB3 hrb rr2
          have pp4 := cells4 hB3 hpb pp2
          have hW4 := hid (hW3.out.below (hB3.mono (by omega)))
          have hB4 := hB2.trans (hB3.mono (by omega))
          clear rr2 pp2 hW3 hB2 p0 p1 p2 p3 hB3
          generalize w2.heap.size = tb at *
          have htb : tb < w4.heap.size := by omega
          have hcall := hasInt_any w4 B _ l len cap f (valsI k + 1) hL.out hW4.out
          go_fit hcall
          clear hcall
          rintro e w5 ⟨rfl, hb5⟩
          have hz5 := hb5.size
          obtain ⟨r0, r1, r2, f0, f1, f2⟩ := cells3 hb5 (show w.heap.size < w4.heap.size by omega) rr4
          obtain ⟨p0, p1, p2, p3⟩ := cells4 hb5 (show pb < w4.heap.size by omega) pp4
          obtain ⟨t0, t1, t2, g0, g1, g2⟩ := cells3 hb5 htb tt4
          have hW5 := hW4.out.below (hb5.mono (by omega))
          have hB5 := hB4.trans (hb5.mono (by omega))
          clear rr4 pp4 tt4 hW4 hb5 hB4
          cases hx : intAt l f (valsI k + 1)
          · have HR := hid (show tAt l i = none by rw [HF.out]; unfold tailT; rw [if_pos hc, if_neg (by simp [hx])])
            clear HF HT
            go_wp2_with fail
            refine bodyPost_ret (v := .tuple #[.agg #[.int .i64 0, .int .i64 0, .int .i64 0], .bool false]) (by simp [results, Try.results41, go_sem, r0, r1, r2]) rfl ⟨?_, ?_⟩
            · rw [HR.out]; rfl
            · exact below_set3 hB5 (Nat.le_refl _) _ _ _
          · obtain ⟨hfl2, hn0, hn1, hnA⟩ := intAt_lt hx
            obtain ⟨bb', o', hbo, hbB', c0, c1, c2⟩ := hW5 f hfl2
            injection hbo with hbo; injection hbo with hbo1 hbo2; subst hbo1 hbo2
            have HE := hid (show tAt l i = fitT l (f + 1) l[f].n.toNat by rw [HF.out]; unfold tailT; rw [if_pos hc, if_pos hx, hnA])
            have hfl3 : f < len := by rw [hL.out]; exact hfl2
            have hfl4 : (f : Int) < len := by omega
            clear HF HT hW5 hnA hx c0 c2
            generalize l[f].n = m at c1 HE hn0 hn1
            obtain ⟨f', hf'⟩ : ∃ f' : Nat, f' = f + 1 := ⟨_, rfl⟩
            have hf2 : (f : Int) + 1 = f' := by omega
            have hfb' : f' ≤ 60001 := by omega
            rw [← hf'] at HE
            have hm40 : m ≤ 40 := by omega
            clear hf' hf1
            by_cases hfit : f' + m.toNat ≤ len
            · have HR := hid (show tAt l i = some (f', f' + m.toNat) by rw [HE.out]; unfold fitT; rw [if_pos (by rw [← hL.out]; exact hfit)])
              clear HE
              have hfit2 : (f' : Int) + m ≤ len := by omega
              go_wp2_with fail
              refine bodyPost_ret (v := .tuple #[.agg #[.int .i64 i, .int .i64 f', .int .i64 ((f' : Int) + m)], .bool true]) (by simp [results, Try.results41, go_sem, r0, r1, r2]) rfl ⟨?_, ?_⟩
              · rw [HR.out]; simp [thR]; omega
              · exact below_set3 ((hB5.setCell (p := ⟨tb, 1, none⟩) (Nat.le_of_lt hrb) _).setCell (p := ⟨tb, 2, none⟩) (Nat.le_of_lt hrb) _) (Nat.le_refl _) _ _ _
            · have HR := hid (show tAt l i = none by rw [HE.out]; unfold fitT; rw [if_neg (by rw [← hL.out]; exact hfit)])
              clear HE
              have hfit2 : ¬ (f' : Int) + m ≤ len := by omega
              go_wp2_with fail
              refine bodyPost_ret (v := .tuple #[.agg #[.int .i64 0, .int .i64 0, .int .i64 0], .bool false]) (by simp [results, Try.results41, go_sem, r0, r1, r2]) rfl ⟨?_, ?_⟩
              · rw [HR.out]; rfl
              · exact below_set3 ((hB5.setCell (p := ⟨tb, 1, none⟩) (Nat.le_of_lt hrb) _).setCell (p := ⟨tb, 2, none⟩) (Nat.le_of_lt hrb) _) (Nat.le_refl _) _ _ _
end Go.Proofs.Ytfjfobpdlmdddaa

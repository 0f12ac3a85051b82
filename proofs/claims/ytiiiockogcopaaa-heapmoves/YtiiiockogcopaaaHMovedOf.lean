/- The document's MovedOf. -/
import Derived.Test.YtiiiockogcopaaaHMove2
namespace Go.Proofs.Ytiiiockogcopaaa
set_option maxRecDepth 100000
open Go.RowKit Go.Maps
/-- The last part: what is left is looked at, and told. -/
theorem Wn.refl {w : World} {bb o : Nat} {l : List Wd} (hW : Wds w w.heap.size (some ⟨bb, o, none⟩) l) (hF : Free w (some ⟨bb, o, none⟩) l) : Wn w w bb o l := ⟨hW, hF, Below.refl _ _, fun _ _ _ => rfl⟩
theorem hasI_nat {l : List Wd} {acc : List Th} {a : Nat} (h : Chain l acc a) {x : Int} (hx : hasI (plOf acc) x = true) : ∃ p : Nat, x = p ∧ p < l.length := by
  have := h.within x hx
  exact ⟨x.toNat, by omega, by omega⟩
set_option maxHeartbeats 4000000 in
theorem MovedOf_any (w : World) (B : Nat) (a : Option Addr) (len cap : Nat) (l : List Wd) (lim x y : Int) (hW : Wds w B a l) (hB : B ≤ w.heap.size) (hlen : len = l.length) (hl : len ≤ 9223372036854775807) (l' : List Wd) (lim' r : Int) (hd : MvdI lim l x y l' lim' r) :
    Calls Try.prog 18 #[.agg #[.slice a len cap, .int .i64 lim], .int .i64 x, .int .i64 y] w fun e w' => ∃ a' cap', e = .returned (.tuple #[.agg #[.slice a' (List.length l') cap', .int .i64 lim'], .int .i64 r]) ∧ Wds w' w'.heap.size a' l' ∧ Below w.heap.size w w' := by
  have HL := hid hlen
  clear hlen
  obtain ⟨w2, hw2⟩ : ∃ w2, w2 = (w.alloc (.cells #[.slice a len cap, .int .i64 lim] 24)).alloc (.cells #[.slice none 0 0, .int .i64 0] 24) := ⟨_, rfl⟩
  obtain ⟨hbx, hz2, hb2⟩ := hpB_born w _ _ _ _ _ _ w2 hw2
  have HC := hid (HeapMay_any w2 B a len cap l lim (hW.below (hb2.mono hB)) (by omega) HL.out hl)
  have H2 := hid hw2
  have HK := hid hbx
  have HB2 := hid hb2
  have HD := hid hd
  clear hw2 hb2 hd
  go_enter Try.func18, Try.ntmps18
  go_wp2_with fail
  rw [← H2.out]
  clear hbx
  have hcall := HC.out
  go_fit hcall
  clear hcall
  rintro e w4 ⟨hb4, ⟨rfl, hokR⟩ | ⟨rfl, hbadR⟩⟩
  · rcases HD.out with ⟨acc, ms, hok, hcase⟩ | ⟨hbad, _⟩
    · have hB4 := hid (HB2.out.trans (hb4.mono (by omega)))
      have HK4 := hid (HK.out.below hb4 (by omega))
      have hz4 := hb4.size
      have hl6 : len ≤ 60000 := by have := hok.hi; have := hok.room; have := HL.out; omega
      have HC4 := hid (beginsOf_any w4 B a len cap l (hW.below (hB4.out.mono hB)) (by omega) HL.out hl6)
      obtain ⟨x0, x1, r0, r1, f0, f1⟩ := HK4.out
      clear hb4 hokR
      have HOk := hid hok
      have HCs := hid hcase
      clear hok hcase
      go_wp2_with fail
      have hcall := HC4.out
      go_fit hcall
      clear hcall
      rintro e w5 ⟨hb5, ⟨rfl, accR, hR, hbeg, hg5⟩ | ⟨rfl, accR, i, hR, hi, hno⟩⟩
      · obtain ⟨rfl, _⟩ := HOk.out.chain.ref.same hR HOk.out.chain.ref.full hR.full
        have hB5 := hid (hB4.out.trans (hb5.mono (by omega)))
        have HK5 := hid (HK4.out.below hb5 (by omega))
        have HRf := hid (fun (n : Int) => (by
          have h := refersTo_any w5 w4.heap.size len acc n hbeg hl6
          have e : refB len acc n = hasI (plOf acc) n := by rw [HL.out]; exact ref_has HOk.out.chain n
          rw [e] at h
          exact h : Calls Try.prog 42 #[.slice (some ⟨w4.heap.size, 0, none⟩) len len, .int .i64 n] w5 fun e w' => e = .returned (.bool (hasI (plOf acc) n)) ∧ w' = w5))
        have hW5 := hW.below (hB5.out.mono hB)
        have HBad := hid (fun (h : ¬ (recB l (plOf acc) x = true ∧ recB l (plOf acc) y = true ∧ ¬ x = y)) => (by
          rcases HCs.out with ⟨_, h2, h3, h4⟩ | ⟨h1, _⟩
          · exact ⟨h2, h3, h4⟩
          · exact absurd h1 h : l' = [] ∧ lim' = 0 ∧ r = 3))
        clear x0 x1 r0 r1 f0 f1
        obtain ⟨x0, x1, r0, r1, f0, f1⟩ := HK5.out
        clear hbeg hR hb5
        go_upto_region 4 with fail
        go_wp2_with fail
        have hcall := HRf.out x
        cases hA : hasI (plOf acc) x
        · rw [hA] at hcall
          obtain ⟨rfl, rfl, rfl⟩ := HBad.out (by simp [recB, hA])
          go_fit hcall
          clear hcall
          rintro e w6 ⟨rfl, h6⟩; subst w6
          go_wp2_with fail
          refine bodyPost_ret (v := .tuple #[.agg #[.slice none 0 0, .int .i64 0], .int .i64 3]) (by simp [results, Try.results18, go_sem, r0, r1]) rfl ⟨none, 0, rfl, wds_nil _ _ _, below_set2s hB5.out (by omega)⟩
        · rw [hA] at hcall
          go_fit hcall
          clear hcall
          rintro e w6 ⟨rfl, h6⟩; subst w6
          go_wp2_with fail
          have hcall := HRf.out y
          cases hE : hasI (plOf acc) y
          · rw [hE] at hcall
            obtain ⟨rfl, rfl, rfl⟩ := HBad.out (by simp [recB, hE])
            go_fit hcall
            clear hcall
            rintro e w6 ⟨rfl, h6⟩; subst w6
            go_wp2_with fail
            refine bodyPost_ret (v := .tuple #[.agg #[.slice none 0 0, .int .i64 0], .int .i64 3]) (by simp [results, Try.results18, go_sem, r0, r1]) rfl ⟨none, 0, rfl, wds_nil _ _ _, below_set2s hB5.out (by omega)⟩
          · rw [hE] at hcall
            go_fit hcall
            clear hcall
            rintro e w6 ⟨rfl, h6⟩; subst w6
            by_cases hxy : x = y
            · obtain ⟨rfl, rfl, rfl⟩ := HBad.out (by simp [hxy])
              subst hxy
              go_wp2_with fail
              refine bodyPost_ret (v := .tuple #[.agg #[.slice none 0 0, .int .i64 0], .int .i64 3]) (by simp [results, Try.results18, go_sem, r0, r1]) rfl ⟨none, 0, rfl, wds_nil _ _ _, below_set2s hB5.out (by omega)⟩
            · have hxy2 : (x == y) = false := by simp [hxy]
              obtain ⟨p, hp, hpl⟩ := hasI_nat HOk.out.chain hA
              obtain ⟨q, hq, hql⟩ := hasI_nat HOk.out.chain hE
              have kp := kindAt_nat hpl
              have kq := kindAt_nat hql
              obtain ⟨b1, o1, hb1, hbB, c0, _, _⟩ := hW5 p hpl
              obtain ⟨b2, o2, hb2, _, d0, _, _⟩ := hW5 q hql
              subst hb1
              injection hb2 with hb2; injection hb2 with e1 e2; subst e1 e2
              subst hp hq
              have hp2 : (p : Int) < len := by have := HL.out; omega
              have hq2 : (q : Int) < len := by have := HL.out; omega
              have HRx := hid (show recB l (plOf acc) (p : Int) = decide (l[p].k = 9) by unfold recB; rw [hA, kp, Bool.true_and])
              have HRy := hid (show recB l (plOf acc) (q : Int) = decide (l[q].k = 9) by unfold recB; rw [hE, kq, Bool.true_and])
              have HKp := hid kp
              clear kp kq hA hE
              generalize l[p].k = kp at c0 HRx HKp
              generalize l[q].k = kq at d0 HRy
              by_cases h9 : kp = 9
              · subst h9
                by_cases h9' : kq = 9
                · subst h9'
                  have hrec : recB l (plOf acc) (p : Int) = true ∧ recB l (plOf acc) (q : Int) = true ∧ ¬ (p : Int) = q := ⟨by rw [HRx.out]; rfl, by rw [HRy.out]; rfl, hxy⟩
                  rcases HCs.out with ⟨h, _⟩ | ⟨_, p', f, e, hpp, _, hf1, htr, hfin⟩
                  · exact absurd hrec h
                  · obtain rfl : p = p' := by omega
                    have hf3 := rec_front hpl HKp.out htr
                    subst hf3
                    have hle := tRef_le htr
                    obtain ⟨E, hE⟩ : ∃ E : Nat, e = p + E := ⟨e - p, by omega⟩
                    have hE1 : (e : Int) - p = E := by omega
                    have hF1 : ((p + 3 : Nat) : Int) - p = (3 : Nat) := by omega
                    have HFin := hid hfin
                    have hz5 : w.heap.size + 2 ≤ w5.heap.size := by have := HB2.out.size; omega
                    have HCp := hid (fun w' g (hb : Below w5.heap.size w5 w') (hg : g < w'.heap.size) (hc : w'.cell? ⟨g, 0, none⟩ = some (.slice (some ⟨b1, o1, none⟩) len cap)) => (wordsCopy_one w' g (some ⟨b1, o1, none⟩) len cap l (((hW.below ((hB5.out.trans (hb.mono (by omega))).mono hB))).mono (by have := hb.size; omega)) HL.out hl6 hg hc).mono (fun e w'' (h : ∃ a' cap', e = .returned (.slice a' len cap') ∧ Below w'.heap.size w' w'' ∧ Wds w'' w''.heap.size a' l ∧ NewAt w'.heap.size a' ∧ Free w'' a' l) => (by
                      obtain ⟨a', cap', h1, h2, h3, h4, h5⟩ := h
                      exact ⟨a', cap', h1, hb.trans (h2.mono hb.size), (hb.trans (h2.mono hb.size)).size, h2, h3, h4, h5⟩ : ∃ a' cap', e = .returned (.slice a' len cap') ∧ Below w5.heap.size w5 w'' ∧ w5.heap.size ≤ w''.heap.size ∧ Below w'.heap.size w' w'' ∧ Wds w'' w''.heap.size a' l ∧ NewAt w'.heap.size a' ∧ Free w'' a' l)))
                    have HS := hid (fun w' (hb : Below w5.heap.size w5 w') => (⟨hb, (hb.cell (p := ⟨w.heap.size, 0, none⟩) (by dsimp only; omega)).trans x0, (hb.cell (p := ⟨w.heap.size, 1, none⟩) (by dsimp only; omega)).trans x1⟩ : Below w5.heap.size w5 w' ∧ w'.cell? ⟨w.heap.size, 0, none⟩ = some (.slice (some ⟨b1, o1, none⟩) len cap) ∧ w'.cell? ⟨w.heap.size, 1, none⟩ = some (.int .i64 lim)))
                    have HTr := hid htr
                    clear htr hfin hrec
                    have HxE := hid hE
                    have HxE1 := hid hE1
                    clear hE hE1
                    go_upto_region 6 with fail
                    clear x0 x1 r0 r1 f0 f1 c0 d0
                    go_cut [10] (fun z wx => ∃ g a' cap', z = .pointer (some ⟨g, 0, none⟩) ∧ CutO w5 wx g a' cap' len lim l)
                    case first =>
                      go_region_held3 (fun w' => Below w5.heap.size w5 w' ∧ w'.cell? ⟨w.heap.size, 0, none⟩ = some (.slice (some ⟨b1, o1, none⟩) len cap) ∧ w'.cell? ⟨w.heap.size, 1, none⟩ = some (.int .i64 lim))
                        ((refine HS.out _ ?_; first | assumption | (repeat (first | exact bdrew (Below.refl _ _) 1 | exact bdrew ((Below.refl _ _).alloc (Nat.le_refl _) _) 1 | exact bdrew (((Below.refl _ _).alloc (Nat.le_refl _) _).alloc (by simp) _) 1 | assumption | refine below_set2s ?_ (by first | exact Nat.le_refl _ | assumption | (simp; done) | (simp; omega)) | refine Below.alloc ?_ (by first | exact Nat.le_refl _ | assumption | (simp; omega)) _))))
                        (first
                        | (go_at_call 30; refine (HCp.out _ _ (by first | exact bdrew ((Below.refl _ _).alloc (Nat.le_refl _) _) 1 | exact bdrew (((Below.refl _ _).alloc (Nat.le_refl _) _).alloc (by simp) _) 1) (by simp <;> omega) (by go_simp)).mono ?_; rintro e w10 ⟨a', cap', rfl, hb10, hz10, hbx, hW10, hN10, hF10⟩; first | (have bx := bx_first hbx; obtain ⟨⟨b0, b1⟩, ⟨e0, e1⟩, bl⟩ := bx) | (have bx := bx_second hbx; obtain ⟨⟨b0, b1⟩, ⟨e0, e1⟩, bl⟩ := bx) | skip))
                      all_goals (go_wp2_with fail; go_meet)
                      · exact ⟨_, a', cap', rfl, cutO_alloc hb10 hz10 hW10 hN10 (by simp) hF10 hpl⟩
                      · exact ⟨_, a', cap', rfl, cutO_set hb10 hW10 hN10 (by simp) hF10 bl (by omega) b0 b1⟩
                      · exact ⟨_, a', cap', rfl, cutO_set hb10 hW10 hN10 (by simp <;> omega) hF10 bl (Nat.le_refl _) b0 b1⟩
                    case rest =>
                      obtain ⟨wa, rfl⟩ : ∃ wa, wa = wc := ⟨_, rfl⟩
                      obtain ⟨g, a', cap', rfl, hc⟩ := hcut
                      obtain ⟨bb, o, rfl, hbb, _, _, _⟩ := hc.wds p hpl
                      obtain ⟨hnew, hng⟩ : w5.heap.size ≤ bb ∧ ¬ bb = g := hc.new _ rfl
                      have hgl := hc.glt
                      have hgg := hc.gge
                      have hsz := hc.bel.size
                      have KA := HK5.out.below hc.bel hz5
                      have hBa := hid (hB5.out.trans (hc.bel.mono (by omega)))
                      have hcall := thing_any wa B (some ⟨b1, o1, none⟩) l len cap p HL.out hl6 (by have := HL.out; omega) (by omega) (hW.below (hBa.out.mono hB))
                      rw [HTr.out] at hcall
                      dsimp only [thV] at hcall
                      rw [HxE1.out, hF1] at hcall
                      have HTh := hid hcall
                      have HC0 := hid hc
                      obtain ⟨x0, x1, r0, r1, f0, f1⟩ := KA
                      clear hcall hc HS HCp
                      go_wp2_with fail
                      have hcall := HTh.out
                      go_fit hcall
                      clear hcall
                      rintro e wb ⟨rfl, hbb6⟩
                      have HKb := hid ((HK5.out.below HC0.out.bel hz5).below hbb6 (by omega))
                      have hBb := hid (hBa.out.trans (hbb6.mono (by omega)))
                      have hszb := hbb6.size
                      have N0 : Wn wb wb bb o l := Wn.refl ((HC0.out.wds.below hbb6).mono hszb) (HC0.out.free.kept (fun A hA => hbb6.block _ (by injection hA with hA; subst hA; exact hbb)))
                      have g0 := (hbb6.cell (p := ⟨g, 0, none⟩) hgl).trans HC0.out.c0
                      have g1 := (hbb6.cell (p := ⟨g, 1, none⟩) hgl).trans HC0.out.c1
                      have hhl1 : p + 1 < l.length := by omega
                      obtain ⟨w7, hw7⟩ : ∃ w7, w7 = ((wb.setCell ⟨bb, o + p * 3, none⟩ (.int .i64 10)).setCell ⟨bb, o + p * 3 + 1, none⟩ (.int .i64 q)).setCell ⟨bb, o + p * 3 + 2, none⟩ (.string ⟨#[]⟩) := ⟨_, rfl⟩
                      obtain ⟨N7, hz7, k7⟩ := N0.put hpl ⟨10, q, ⟨#[]⟩⟩ w7 hw7
                      obtain ⟨w8, hw8⟩ : ∃ w8, w8 = ((w7.setCell ⟨bb, o + (p + 1) * 3, none⟩ (.int .i64 1)).setCell ⟨bb, o + (p + 1) * 3 + 1, none⟩ (.int .i64 0)).setCell ⟨bb, o + (p + 1) * 3 + 2, none⟩ (.string ⟨#[]⟩) := ⟨_, rfl⟩
                      obtain ⟨N8, hz8, k8⟩ := N7.put (q := p + 1) (by simpa using hhl1) ⟨1, 0, ⟨#[]⟩⟩ w8 hw8
                      obtain ⟨⟨u0, u1, u2, c0, c1, c2⟩, d0, d1, d2⟩ := N0.at hpl
                      obtain ⟨⟨u3, u4, u5, c3, c4, c5⟩, d3, d4, d5⟩ := N7.at (q := p + 1) (by simpa using hhl1)
                      have g70 := (k7 g 0 (by omega)).trans g0
                      have HN8 := hid N8
                      have H7 := hid hw7
                      have H8 := hid hw8
                      have hp3 : (p : Int) + 1 < len := by have := HL.out; omega
                      have hp6 : (p : Int) ≤ 60000 := by omega
                      clear x0 x1 r0 r1 f0 f1 hw7 hw8 N0 N7 N8 k7 k8 hz7 hz8 hbb6
                      go_upto_region 8 with fail
                      go_upto_region 9 with fail
                      rw [← H7.out]
                      clear c0 c1 c2 d0 d1 d2
                      go_upto_region 10 with fail
                      rw [← H8.out]
                      clear c3 c4 c5 d3 d4 d5 g70
                      go_wp2_with fail
                      have HG0 := hid g0
                      have HG1 := hid g1
                      have hE6 : E ≤ 60000 := by have := HL.out; have := HxE.out; omega
                      have hbl : bb < wb.heap.size := by omega
                      have hgb : g < wb.heap.size := by omega
                      clear g0 g1
                      go_loopw [13] (fun i wr => ∃ k : Nat, k ≤ E - 3 ∧ i = .int .i64 ((3 + k : Nat) : Int) ∧ Wn wb wr bb o (nilN (headL l p q) (p + 3) k)) (fun i _ => E - (intOf i).toNat)
                      case atStart => exact ⟨0, Nat.zero_le _, rfl, HN8.out⟩
                      case round =>
                        obtain ⟨k, hk, rfl, hN⟩ := hrel
                        have g0 := (hN.wr.cell (c := 0) hgb (by omega)).trans HG0.out
                        by_cases hlt : 3 + k < E
                        · have hqq : p + 3 + k < (nilN (headL l p q) (p + 3) k).length := by rw [nilN_length, headL_length]; have := HxE.out; omega
                          obtain ⟨⟨u0, u1, u2, c0, c1, c2⟩, d0, d1, d2⟩ := hN.at hqq
                          obtain ⟨m, hm⟩ : ∃ m, m = p + 3 + k := ⟨_, rfl⟩
                          obtain ⟨j, hj⟩ : ∃ j, j = 3 + k := ⟨_, rfl⟩
                          rw [← hm] at c0 c1 c2 d0 d1 d2
                          obtain ⟨w9, hw9⟩ : ∃ w9, w9 = ((wr.setCell ⟨bb, o + m * 3, none⟩ (.int .i64 3)).setCell ⟨bb, o + m * 3 + 1, none⟩ (.int .i64 0)).setCell ⟨bb, o + m * 3 + 2, none⟩ (.string ⟨#[]⟩) := ⟨_, rfl⟩
                          obtain ⟨N9, hz9, k9⟩ := hN.put hqq nilW w9 (by rw [← hm]; exact hw9)
                          have HN9 := hid N9
                          have H9 := hid hw9
                          have hmj : (p : Int) + (j : Int) = (m : Int) := by omega
                          have hm2 : (m : Int) < len := by have := HL.out; have := HxE.out; omega
                          rw [← hj] at hlt ⊢
                          have hlt3 : (j : Int) < E := by omega
                          have hj6 : (j : Int) ≤ 60000 := by omega
                          have HJ := hid hj
                          clear hN hw9 N9 k9 hm hqq hz9 hj
                          go_wp2_with fail
                          rw [← H9.out]
                          go_roundw
                          case rel => exact ⟨k + 1, by have := HJ.out; omega, by have := HJ.out; go_num, HN9.out⟩
                          case measure => simp [intOf]; omega
                        · have hk2 : E - 3 = k := by omega
                          have hL3 : nilN (headL l p q) (p + 3) k = leaveL l p (p + 3) e q := by unfold leaveL; rw [HxE.out, show p + E - (p + 3) = k by omega]
                          rw [hL3] at hN
                          have hlt3 : ¬ ((3 + k : Nat) : Int) < E := by omega
                          have g1 := (hN.wr.cell (c := 1) hgb (by omega)).trans HG1.out
                          have HKr := hid (HKb.out.below hN.wr.bel (by omega))
                          have hBr := hid (hBb.out.trans (hN.wr.bel.mono (by omega)))
                          have hszr := hN.wr.bel.size
                          have HCk := hid (HeapMay_any wr wr.heap.size (some ⟨bb, o, none⟩) len cap' (leaveL l p (p + 3) e q) lim hN.wds (Nat.le_refl _) (by rw [leaveL_length]; exact HL.out) hl)
                          have HWr := hid hN.wds
                          generalize 3 + k = j at *
                          clear hN hk2 hL3
                          go_wp2_with fail
                          have hcall := HCk.out
                          go_fit hcall
                          clear hcall
                          rintro e' w11 ⟨hb11, hres⟩
                          have p0 := (hb11.cell (p := ⟨g, 0, none⟩) (by dsimp only; omega)).trans g0
                          have p1 := (hb11.cell (p := ⟨g, 1, none⟩) (by dsimp only; omega)).trans g1
                          have hB11 := hid (hBr.out.trans (hb11.mono (by omega)))
                          have HW11 := hid ((HWr.out.below hb11).mono hb11.size)
                          obtain ⟨x0, x1, r0, r1, f0, f1⟩ := HKr.out.below hb11 (by omega)
                          clear hb11 g0 g1
                          rcases hres with ⟨rfl, hokk⟩ | ⟨rfl, hbad⟩
                          · rcases HFin.out with ⟨h, _⟩ | ⟨_, rfl, rfl, rfl⟩
                            · exact (bad_not_ok h hokk).elim
                            · have HP := hid (wds_past (g := w.heap.size + 1) HW11.out (Nat.le_refl _) (by omega) (.slice (some ⟨bb, o, none⟩) len cap') (.int .i64 lim'))
                              have HBB := hid (below_set2s (g := w.heap.size + 1) hB11.out (by omega) (x0 := .slice (some ⟨bb, o, none⟩) len cap') (x1 := .int .i64 lim'))
                              clear hokk
                              go_wp2_with fail
                              refine bodyPost_ret (v := .tuple #[.agg #[.slice (some ⟨bb, o, none⟩) len cap', .int .i64 lim'], .int .i64 0]) (by simp [results, Try.results18, go_sem, r0, r1]) rfl ⟨some ⟨bb, o, none⟩, cap', by rw [leaveL_length, ← HL.out], HP.out, HBB.out⟩
                          · rcases HFin.out with ⟨_, rfl, rfl, rfl⟩ | ⟨⟨acc2, ms2, h⟩, _⟩
                            · clear hbad
                              go_wp2_with fail
                              refine bodyPost_ret (v := .tuple #[.agg #[.slice none 0 0, .int .i64 0], .int .i64 4]) (by simp [results, Try.results18, go_sem, r0, r1]) rfl ⟨none, 0, rfl, wds_nil _ _ _, below_set2s hB11.out (by omega)⟩
                            · exact (ok_not_bad h hbad).elim
                · obtain ⟨rfl, rfl, rfl⟩ := HBad.out (by rw [HRy.out]; simp [h9'])
                  have h92 : (kq != 9) = true := by simp [h9']
                  go_wp2_with fail
                  refine bodyPost_ret (v := .tuple #[.agg #[.slice none 0 0, .int .i64 0], .int .i64 3]) (by simp [results, Try.results18, go_sem, r0, r1]) rfl ⟨none, 0, rfl, wds_nil _ _ _, below_set2s hB5.out (by omega)⟩
              · obtain ⟨rfl, rfl, rfl⟩ := HBad.out (by rw [HRx.out]; simp [h9])
                have h92 : (kp != 9) = true := by simp [h9]
                go_wp2_with fail
                refine bodyPost_ret (v := .tuple #[.agg #[.slice none 0 0, .int .i64 0], .int .i64 3]) (by simp [results, Try.results18, go_sem, r0, r1]) rfl ⟨none, 0, rfl, wds_nil _ _ _, below_set2s hB5.out (by omega)⟩
      · have := (HOk.out.chain.ref.same hR HOk.out.chain.ref.full (hR.stuck hno)).2
        omega
    · exact (bad_not_ok hbad hokR).elim
  · rcases HD.out with ⟨acc, ms, hok, _⟩ | ⟨_, rfl, rfl, rfl⟩
    · exact (ok_not_bad hok hbadR).elim
    · have hB4 := hid (HB2.out.trans (hb4.mono (by omega)))
      obtain ⟨x0, x1, r0, r1, f0, f1⟩ := HK.out.below hb4 (by omega)
      have hz4 := hb4.size
      clear hb4 hbadR
      go_wp2_with fail
      refine bodyPost_ret (v := .tuple #[.agg #[.slice none 0 0, .int .i64 0], .int .i64 9]) (by simp [results, Try.results18, go_sem, r0, r1]) rfl ⟨none, 0, rfl, wds_nil _ _ _, below_set2s hB4.out (by omega)⟩
end Go.Proofs.Ytiiiockogcopaaa

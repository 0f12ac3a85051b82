/- The document's PutOf. -/
import Derived.Test.YtiiiockogcopaaaHPut
namespace Go.Proofs.Ytiiiockogcopaaa
set_option maxRecDepth 100000
open Go.RowKit Go.Maps
theorem wordsCopy_two (w : World) (g : Nat) (a1 a2 : Option Addr) (n1 n2 c1 c2 : Nat) (l1 l2 : List Wd) (h1 : Wds w w.heap.size a1 l1) (h2 : Wds w w.heap.size a2 l2) (hn1 : n1 = l1.length) (hn2 : n2 = l2.length) (hl : n1 + n2 ≤ 60000) (hg : g < w.heap.size) (k1 : w.cell? ⟨g, 0, none⟩ = some (.slice a1 n1 c1)) (k2 : w.cell? ⟨g, 1, none⟩ = some (.slice a2 n2 c2)) :
    Calls Try.prog 30 #[.slice (some ⟨g, 0, none⟩) 2 2] w fun e w' => ∃ a' cap', e = .returned (.slice a' (n1 + n2) cap') ∧ Below w.heap.size w w' ∧ Wds w' w'.heap.size a' (l1 ++ l2) ∧ NewAt w.heap.size a' ∧ Free w' a' (l1 ++ l2) := by
  subst hn1 hn2
  have hf : flat [⟨a1, c1, l1⟩, ⟨a2, c2, l2⟩] = l1 ++ l2 := by simp [flat]
  refine (wordsCopy_any w w.heap.size (some ⟨g, 0, none⟩) 2 2 _ (rws_two h1 h2 hg k1 k2) (Nat.le_refl _) rfl (by rw [hf, List.length_append]; omega) (by omega)).mono (fun e w' h => ?_)
  obtain ⟨v, q1, q2, q3⟩ := h
  rw [hf] at q2
  obtain ⟨a', cap', rfl, q4, q5, q6, q7⟩ := q2.cells
  rw [List.length_append] at q1
  exact ⟨a', cap', q1, q3, q5, q6, fun A hA j _ => q7 A hA _⟩
set_option maxHeartbeats 8000000 in
theorem PutOf_any (w : World) (B : Nat) (a : Option Addr) (len cap : Nat) (l : List Wd) (lim : Int) (ax : Option Addr) (nx cx : Nat) (x : List Wd) (hW : Wds w B a l) (hB : B ≤ w.heap.size) (hlen : len = l.length) (hl : len ≤ 9223372036854775807) (hX : Wds w B ax x) (hnx : nx = x.length) (hlx : nx ≤ 4398046511104) (l' : List Wd) (lim' p r : Int) (hd : PuI lim l x l' lim' p r) :
    Calls Try.prog 12 #[.agg #[.slice a len cap, .int .i64 lim], .slice ax nx cx] w fun e w' => ∃ a' cap', e = .returned (.tuple #[.agg #[.slice a' (List.length l') cap', .int .i64 lim'], .int .i64 p, .int .i64 r]) ∧ Wds w' w'.heap.size a' l' ∧ Below w.heap.size w w' := by
  have HL := hid hlen
  have HX := hid hnx
  clear hlen hnx
  obtain ⟨w2, hw2⟩ : ∃ w2, w2 = (w.alloc (.cells #[.slice a len cap, .int .i64 lim] 24)).alloc (.cells #[.slice none 0 0, .int .i64 0] 24) := ⟨_, rfl⟩
  obtain ⟨hbx, hz2, hb2⟩ := hpB_born w _ _ _ _ _ _ w2 hw2
  have HC := hid (HeapMay_any w2 B a len cap l lim (hW.below (hb2.mono hB)) (by omega) HL.out hl)
  have H2 := hid hw2
  have HK := hid hbx
  have HB2 := hid hb2
  have HD := hid hd
  clear hw2 hb2 hd
  go_enter Try.func12, Try.ntmps12
  go_wp2_with fail
  rw [← H2.out]
  clear hbx
  have hcall := HC.out
  go_fit hcall
  clear hcall
  rintro e w4 ⟨hb4, ⟨rfl, hokR⟩ | ⟨rfl, hbadR⟩⟩
  · rcases HD.out with ⟨hbad, _⟩ | ⟨acc, ms, hok, hcase⟩
    · exact (bad_not_ok hbad hokR).elim
    · have hB4 := hid (HB2.out.trans (hb4.mono (by omega)))
      have HK4 := hid (HK.out.below hb4 (by omega))
      have hz4 := hb4.size
      have hl6 : len ≤ 60000 := by have := hok.hi; have := hok.room; have := HL.out; omega
      have hlo := hok.lo
      have hhi := hok.hi
      have HOk := hid hok
      have HCs := hid hcase
      obtain ⟨x0, x1, r0, r1, f0, f1⟩ := HK4.out
      clear hb4 hokR hok hcase
      by_cases hx0 : nx = 0
      · obtain ⟨rfl, rfl, rfl, rfl⟩ : l' = [] ∧ lim' = 0 ∧ p = 0 ∧ r = 4 := by
          have := HX.out
          rcases HCs.out with ⟨_, h⟩ | ⟨h, _⟩ | ⟨h, _⟩
          · exact h
          · omega
          · omega
        subst hx0
        go_wp2_with fail
        refine bodyPost_ret (v := .tuple #[.agg #[.slice none 0 0, .int .i64 0], .int .i64 0, .int .i64 4]) (by simp [results, Try.results12, go_sem, r0, r1]) rfl ⟨none, 0, rfl, wds_nil _ _ _, below_set2s hB4.out (by omega)⟩
      · have hxb : ((nx : Int) == 0) = false := by simp [hx0]
        have hx1 : ¬ (nx : Int) = 0 := by omega
        have hxp : 0 < x.length := by have := HX.out; omega
        by_cases hr : (len : Int) + nx > lim
        · obtain ⟨rfl, rfl, rfl, rfl⟩ : l' = [] ∧ lim' = 0 ∧ p = 0 ∧ r = 12 := by
            have := HX.out
            have := HL.out
            rcases HCs.out with ⟨h, _⟩ | ⟨_, _, h⟩ | ⟨_, h, _⟩
            · rw [h] at hxp; simp at hxp
            · exact h
            · omega
          go_wp2_with fail
          refine bodyPost_ret (v := .tuple #[.agg #[.slice none 0 0, .int .i64 0], .int .i64 0, .int .i64 12]) (by simp [results, Try.results12, go_sem, r0, r1]) rfl ⟨none, 0, rfl, wds_nil _ _ _, below_set2s hB4.out (by omega)⟩
        · have hr2 : ¬ (len : Int) + nx > lim := hr
          have hrm : (l.length : Int) + x.length ≤ lim := by have := HX.out; have := HL.out; omega
          have hsum : len + nx ≤ 60000 := by omega
          have HCase := hid (show (grB l x acc = false ∧ l' = [] ∧ lim' = 0 ∧ p = 0 ∧ r = 4) ∨ (grB l x acc = true ∧ l' = l ++ x ∧ lim' = lim ∧ p = (l.length : Int) ∧ r = 0) by
            have := HX.out
            have := HL.out
            rcases HCs.out with ⟨h, _⟩ | ⟨_, h, _⟩ | ⟨_, _, h⟩
            · rw [h] at hxp; simp at hxp
            · omega
            · exact h)
          have HNo := hid (fun (h : ¬ ((∃ f, tRef x 0 = some (f, x.length)) ∧ ¬ kindAt x 0 = 10)) => (by
            rcases HCase.out with ⟨_, h2⟩ | ⟨h1, _⟩
            · exact h2
            · have := grow_yes HOk.out hxp hrm h1
              exact absurd ⟨this.1, this.2.1⟩ h : l' = [] ∧ lim' = 0 ∧ p = 0 ∧ r = 4))
          have HCp := hid (fun w' g (hb : Below w4.heap.size w4 w') (hg : g < w'.heap.size) (k1 : w'.cell? ⟨g, 0, none⟩ = some (.slice a len cap)) (k2 : w'.cell? ⟨g, 1, none⟩ = some (.slice ax nx cx)) => (wordsCopy_two w' g a ax len nx cap cx l x (((hW.below ((hB4.out.trans (hb.mono (by omega))).mono hB))).mono (by have := hb.size; omega)) (((hX.below ((hB4.out.trans (hb.mono (by omega))).mono hB))).mono (by have := hb.size; omega)) HL.out HX.out hsum hg k1 k2).mono (fun e w'' (h : ∃ a' cap', e = .returned (.slice a' (len + nx) cap') ∧ Below w'.heap.size w' w'' ∧ Wds w'' w''.heap.size a' (l ++ x) ∧ NewAt w'.heap.size a' ∧ Free w'' a' (l ++ x)) => (by
            obtain ⟨a', cap', h1, h2, h3, h4, h5⟩ := h
            exact ⟨a', cap', h1, hb.trans (h2.mono hb.size), (hb.trans (h2.mono hb.size)).size, h2, h3, h4, h5⟩ : ∃ a' cap', e = .returned (.slice a' (len + nx) cap') ∧ Below w4.heap.size w4 w'' ∧ w4.heap.size ≤ w''.heap.size ∧ Below w'.heap.size w' w'' ∧ Wds w'' w''.heap.size a' (l ++ x) ∧ NewAt w'.heap.size a' ∧ Free w'' a' (l ++ x))))
          have HS := hid (fun w' (hb : Below w4.heap.size w4 w') => (⟨hb, (hb.cell (p := ⟨w.heap.size, 0, none⟩) (by dsimp only; omega)).trans x0, (hb.cell (p := ⟨w.heap.size, 1, none⟩) (by dsimp only; omega)).trans x1⟩ : Below w4.heap.size w4 w' ∧ w'.cell? ⟨w.heap.size, 0, none⟩ = some (.slice a len cap) ∧ w'.cell? ⟨w.heap.size, 1, none⟩ = some (.int .i64 lim)))
          have hq : len < (l ++ x).length := by rw [List.length_append]; have := HL.out; omega
          obtain ⟨m, hm⟩ : ∃ m, m = len + nx := ⟨_, rfl⟩
          have HM := hid hm
          rw [← hm] at HCp
          go_upto_region 7 with fail
          clear x0 x1 r0 r1 f0 f1 hm
          go_cut [7] (fun z wx => ∃ g a' cap', z = .pointer (some ⟨g, 0, none⟩) ∧ CutO w4 wx g a' cap' m lim (l ++ x))
          case first =>
            go_region_held3 (fun w' => Below w4.heap.size w4 w' ∧ w'.cell? ⟨w.heap.size, 0, none⟩ = some (.slice a len cap) ∧ w'.cell? ⟨w.heap.size, 1, none⟩ = some (.int .i64 lim))
              ((refine HS.out _ ?_; first | assumption | (repeat (first | exact bdrew (Below.refl _ _) 1 | exact bdrew ((Below.refl _ _).alloc (Nat.le_refl _) _) 1 | exact bdrew (((Below.refl _ _).alloc (Nat.le_refl _) _).alloc (by simp) _) 1 | assumption | refine below_set2s ?_ (by first | exact Nat.le_refl _ | assumption | (simp; done) | (simp; omega)) | refine Below.alloc ?_ (by first | exact Nat.le_refl _ | assumption | (simp; omega)) _))))
              (first
              | (go_at_call 30; refine (HCp.out _ _ (by first | exact bdrew ((Below.refl _ _).alloc (Nat.le_refl _) _) 1 | exact bdrew (((Below.refl _ _).alloc (Nat.le_refl _) _).alloc (by simp) _) 1) (by simp <;> omega) (by go_simp) (by go_simp)).mono ?_; rintro e w10 ⟨a', cap', rfl, hb10, hz10, hbx, hW10, hN10, hF10⟩; first | (have bx := bx_first (u0 := .slice none 0 0) (u1 := .int .i64 0) hbx; obtain ⟨⟨b0, b1⟩, ⟨e0, e1⟩, bl⟩ := bx) | (have bx := bx_second (u0 := .slice none 0 0) (u1 := .int .i64 0) hbx; obtain ⟨⟨b0, b1⟩, ⟨e0, e1⟩, bl⟩ := bx) | skip))
            all_goals (go_wp2_with fail; go_meet)
            · exact ⟨_, a', cap', rfl, cutO_alloc hb10 hz10 hW10 hN10 (by simp) hF10 hq⟩
            · exact ⟨_, a', cap', rfl, cutO_set hb10 hW10 hN10 (by simp) hF10 bl (by omega) b0 b1⟩
            · exact ⟨_, a', cap', rfl, cutO_set hb10 hW10 hN10 (by simp <;> omega) hF10 bl (Nat.le_refl _) b0 b1⟩
          case rest =>
            obtain ⟨wa, rfl⟩ : ∃ wa, wa = wc := ⟨_, rfl⟩
            obtain ⟨g, a', cap', rfl, hc⟩ := hcut
            obtain ⟨bb, o, rfl, hbb, _, _, _⟩ := hc.wds len hq
            obtain ⟨hnew, hng⟩ : w4.heap.size ≤ bb ∧ ¬ bb = g := hc.new _ rfl
            have hgl := hc.glt
            have hgg := hc.gge
            have hsz := hc.bel.size
            have hBa := hid (hB4.out.trans (hc.bel.mono (by omega)))
            have hXa := hX.below (hBa.out.mono hB)
            have HTh := hid (thing_any wa B ax x nx cx 0 HX.out (by omega) (by omega) (by omega) hXa)
            have HKA := hid (HK4.out.below hc.bel (by omega))
            have HC0 := hid hc
            obtain ⟨bx, ox, rfl, hbxx, c0, _, _⟩ := hXa 0 hxp
            simp only [Nat.zero_mul, Nat.add_zero] at c0
            have HKx := hid (show kindAt x 0 = (x[0]'hxp).k by have := kindAt_nat hxp; simpa using this)
            clear hc HS HCp
            go_wp2_with fail
            have hcall := HTh.out
            have hmain : ∀ (n1 n2 : Int) (wb : World), Below wa.heap.size wa wb → HpB wb w.heap.size (.slice a len cap) (.int .i64 lim) (.slice none 0 0) (.int .i64 0) ∧ Below w.heap.size w wb ∧ wa.heap.size ≤ wb.heap.size ∧ wb.cell? ⟨g, 0, none⟩ = some (.slice (some ⟨bb, o, none⟩) m cap') ∧ wb.cell? ⟨g, 1, none⟩ = some (.int .i64 lim) ∧ wb.cell? ⟨bx, ox, none⟩ = some (.int .i64 (x[0]'hxp).k) ∧ Wds wb wb.heap.size (some ⟨bb, o, none⟩) (l ++ x) := fun _ _ wb hb =>
              ⟨HKA.out.below hb (by omega), hBa.out.trans (hb.mono (by omega)), hb.size, (hb.cell (p := ⟨g, 0, none⟩) hgl).trans HC0.out.c0, (hb.cell (p := ⟨g, 1, none⟩) hgl).trans HC0.out.c1, (hb.cell (p := ⟨bx, _, none⟩) (by dsimp only; omega)).trans c0, (HC0.out.wds.below hb).mono hb.size⟩
            have HMain := hid hmain
            clear hmain c0
            cases htr : tRef x 0 with
            | none =>
              obtain ⟨rfl, rfl, rfl, rfl⟩ := HNo.out (fun h => by obtain ⟨⟨f, h⟩, _⟩ := h; rw [htr] at h; cases h)
              rw [htr] at hcall
              dsimp only [thV] at hcall
              clear htr
              go_fit hcall
              clear hcall
              rintro e wb ⟨rfl, hbb6⟩
              obtain ⟨⟨x0, x1, r0, r1, f0, f1⟩, hBb, hszb, _⟩ := HMain.out 0 0 wb hbb6
              have HBb := hid hBb
              have hnz : ¬ (0 : Int) = nx := by omega
              have hnz2 : ((0 : Int) != nx) = true := by simp; omega
              clear hbb6 hBb
              go_wp2_with fail
              refine bodyPost_ret (v := .tuple #[.agg #[.slice none 0 0, .int .i64 0], .int .i64 0, .int .i64 4]) (by simp [results, Try.results12, go_sem, r0, r1]) rfl ⟨none, 0, rfl, wds_nil _ _ _, below_set2s HBb.out (by omega)⟩
            | some q =>
              obtain ⟨f, e⟩ := q
              have hte := tRef_le htr
              rw [htr] at hcall
              dsimp only [thV] at hcall
              rw [show ((e : Int) - (0 : Nat)) = e by omega, show ((f : Int) - (0 : Nat)) = f by omega] at hcall
              have HTr := hid htr
              clear htr
              go_fit hcall
              clear hcall
              rintro e' wb ⟨rfl, hbb6⟩
              obtain ⟨KB, hBb, hszb, g0, g1, c0, hWb⟩ := HMain.out 0 0 wb hbb6
              have HBb := hid hBb
              have HKB := hid KB
              have HWb := hid hWb
              obtain ⟨x0, x1, r0, r1, f0, f1⟩ := KB
              clear hbb6 hBb hWb
              by_cases hen : e = nx
              · have HEn := hid hen
                have hen2 : ((e : Int) != nx) = false := by simp [hen]
                generalize (x[0]'hxp).k = kk at c0 HKx
                by_cases h10 : kk = 10
                · obtain ⟨rfl, rfl, rfl, rfl⟩ := HNo.out (fun h => h.2 (by rw [HKx.out]; exact h10))
                  subst h10
                  subst hen
                  go_wp2_with fail
                  refine bodyPost_ret (v := .tuple #[.agg #[.slice none 0 0, .int .i64 0], .int .i64 0, .int .i64 4]) (by simp [results, Try.results12, go_sem, r0, r1]) rfl ⟨none, 0, rfl, wds_nil _ _ _, below_set2s HBb.out (by omega)⟩
                · have hk10 : (kk == 10) = false := by simp [h10]
                  have HTr2 := hid (show ∃ f, tRef x 0 = some (f, x.length) from ⟨f, by rw [HTr.out, ← HX.out, hen]⟩)
                  have HK10 := hid (show ¬ kindAt x 0 = 10 by rw [HKx.out]; exact h10)
                  have HCk := hid (HeapMay_any wb wb.heap.size (some ⟨bb, o, none⟩) m cap' (l ++ x) lim HWb.out (Nat.le_refl _) (by rw [HM.out, HL.out, HX.out, List.length_append]) (by have := HM.out; omega))
                  subst hen
                  go_wp2_with fail
                  have hcall := HCk.out
                  go_fit hcall
                  clear hcall
                  rintro e' w11 ⟨hb11, hres⟩
                  have p0 := (hb11.cell (p := ⟨g, 0, none⟩) (by dsimp only; omega)).trans g0
                  have p1 := (hb11.cell (p := ⟨g, 1, none⟩) (by dsimp only; omega)).trans g1
                  have hB11 := hid (HBb.out.trans (hb11.mono (by omega)))
                  have HW11 := hid ((HWb.out.below hb11).mono hb11.size)
                  have K11 := HKB.out.below hb11 (by omega)
                  clear x0 x1 r0 r1 f0 f1 g0 g1 c0 hb11
                  obtain ⟨x0, x1, r0, r1, f0, f1⟩ := K11
                  rcases hres with ⟨rfl, hokk⟩ | ⟨rfl, hbadk⟩
                  · obtain ⟨rfl, rfl, rfl, rfl⟩ : l' = l ++ x ∧ lim' = lim ∧ p = (l.length : Int) ∧ r = 0 := by
                      rcases HCase.out with ⟨h1, _⟩ | ⟨_, h⟩
                      · rcases grow_no HOk.out hxp hrm h1 with h | ⟨_, _, h⟩
                        · obtain ⟨f', h'⟩ := HTr2.out
                          rcases h with h | ⟨f2, e2, h, hne⟩ | h
                          · rw [h] at h'; cases h'
                          · rw [h] at h'; injection h' with h'; injection h' with _ h'; exact absurd h' hne
                          · exact absurd h HK10.out
                        · exact (bad_not_ok h hokk).elim
                      · exact h
                    have hgn : ¬ g = w.heap.size + 1 := by omega
                    have hbn : ¬ bb = w.heap.size + 1 := by omega
                    have HPd := hid (wds_past (w := w11.drew) (g := w.heap.size + 1) HW11.out (Nat.le_refl _) hbn (.slice (some ⟨bb, o, none⟩) m cap') (.int .i64 lim'))
                    have HBd := hid (below_set2s (g := w.heap.size + 1) (bdrew hB11.out 1) (by omega) (x0 := .slice (some ⟨bb, o, none⟩) m cap') (x1 := .int .i64 lim'))
                    have HM2 := hid (show m = (l ++ x).length by rw [HM.out, HL.out, HX.out, List.length_append])
                    clear hokk
                    go_upto_region 11 with fail
                    go_region
                    all_goals
                      go_wp2_with fail
                      refine bodyPost_ret (v := .tuple #[.agg #[.slice (some ⟨bb, o, none⟩) m cap', .int .i64 lim'], .int .i64 len, .int .i64 0]) (by simp [results, Try.results12, go_sem, r0, r1]) rfl ⟨some ⟨bb, o, none⟩, cap', by rw [← HM2.out, ← HL.out], HPd.out, HBd.out⟩
                  · obtain ⟨rfl, rfl, rfl, rfl⟩ : l' = [] ∧ lim' = 0 ∧ p = 0 ∧ r = 4 := by
                      rcases HCase.out with ⟨_, h⟩ | ⟨h1, _⟩
                      · exact h
                      · obtain ⟨_, _, acc', ms', h⟩ := grow_yes HOk.out hxp hrm h1
                        exact (ok_not_bad h hbadk).elim
                    clear hbadk
                    go_wp2_with fail
                    refine bodyPost_ret (v := .tuple #[.agg #[.slice none 0 0, .int .i64 0], .int .i64 0, .int .i64 4]) (by simp [results, Try.results12, go_sem, r0, r1]) rfl ⟨none, 0, rfl, wds_nil _ _ _, below_set2s hB11.out (by omega)⟩
              · obtain ⟨rfl, rfl, rfl, rfl⟩ := HNo.out (fun h => by
                  obtain ⟨⟨f', h⟩, _⟩ := h
                  rw [HTr.out] at h
                  injection h with h; injection h with _ h
                  exact hen (by rw [HX.out]; exact h))
                have hen2 : ((e : Int) != nx) = true := by simp; omega
                have hen3 : ¬ (e : Int) = nx := by omega
                go_wp2_with fail
                refine bodyPost_ret (v := .tuple #[.agg #[.slice none 0 0, .int .i64 0], .int .i64 0, .int .i64 4]) (by simp [results, Try.results12, go_sem, r0, r1]) rfl ⟨none, 0, rfl, wds_nil _ _ _, below_set2s HBb.out (by omega)⟩
  · rcases HD.out with ⟨_, rfl, rfl, rfl, rfl⟩ | ⟨acc, ms, hok, _⟩
    · have hB4 := hid (HB2.out.trans (hb4.mono (by omega)))
      obtain ⟨x0, x1, r0, r1, f0, f1⟩ := HK.out.below hb4 (by omega)
      have hz4 := hb4.size
      clear hb4 hbadR
      go_wp2_with fail
      refine bodyPost_ret (v := .tuple #[.agg #[.slice none 0 0, .int .i64 0], .int .i64 0, .int .i64 9]) (by simp [results, Try.results12, go_sem, r0, r1]) rfl ⟨none, 0, rfl, wds_nil _ _ _, below_set2s hB4.out (by omega)⟩
    · exact (ok_not_bad hok hbadR).elim
end Go.Proofs.Ytiiiockogcopaaa

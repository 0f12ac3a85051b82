/- A record that is moved: heap's Move. -/
import Derived.Test.YtghaididbhjpaaaHMove2P
import Derived.Test.YtghaididbhjpaaaHMove
namespace Go.Proofs.Ytghaididbhjpaaa
open Go.RowKit Go.Maps
set_option maxHeartbeats 4000000 in
theorem Move_anyN (w : World) (B : Nat) (a : Option Addr) (len cap : Nat) (l : List Wd) (lim x y : Int) (hW : Wds w B a l) (hB : B ≤ w.heap.size) (hlen : len = l.length) (hcap : len ≤ cap) (hl : len ≤ 9223372036854775807) (hwf : wfL l) (hx : wfI x) (hy : wfI y) :
    Calls Try.prog 11 #[.agg #[.slice a len cap, .int .i64 lim], .int .i64 x, .int .i64 y] w fun e w' => ∃ l' lim' r a' cap', e = .returned (.tuple #[.agg #[.slice a' (List.length l') cap', .int .i64 lim'], .int .i64 r]) ∧ MvdI lim l x y l' lim' r ∧ l'.length ≤ cap' ∧ Wds w' w'.heap.size a' l' ∧ Below w.heap.size w w' ∧ NewAt w.heap.size a' := by
  have HL := hid hlen
  clear hlen
  obtain ⟨w2, hw2⟩ : ∃ w2, w2 = (w.alloc (.cells #[.slice a len cap, .int .i64 lim] 25)).alloc (.cells #[.slice none 0 0, .int .i64 0] 25) := ⟨_, rfl⟩
  obtain ⟨hbx, hz2, hb2⟩ := hpB_born w _ _ _ _ _ _ w2 hw2
  have HC := hid (newChart_any w2 B a len cap l lim (hW.below (hb2.mono hB)) (by omega) HL.out hcap hl hwf)
  have H2 := hid hw2
  have HK := hid hbx
  have HB2 := hid hb2
  clear hw2 hb2
  go_enter Try.func11, Try.ntmps11
  go_wp2_with fail
  rw [← H2.out]
  clear hbx
  have hcall := HC.out
  go_fit hcall
  clear hcall
  rintro e w4 ⟨hb4, ⟨v, acc, pb, mb, ms, rfl, hok, hV⟩ | ⟨rfl, hbad⟩⟩
  · obtain ⟨av, capv, hv, _, _⟩ := hV.row.cells
    subst hv
    have hB4 := hid (HB2.out.trans (hb4.mono (by omega)))
    have K4 := HK.out.below hb4 (by omega)
    have hz4 := hb4.size
    have CB := ChartV.box (len := len) (cap := cap) hV 55
    obtain ⟨w5, hw5⟩ : ∃ w5, w5 = w4.alloc (.cells #[.slice a len cap, .slice av acc.length capv, .map (some pb), .map (some mb)] 55) := ⟨_, rfl⟩
    rw [← hw5] at CB
    have hb5 : Below w4.heap.size w4 w5 := by rw [hw5]; exact (Below.refl _ _).alloc (Nat.le_refl _) _
    have H5 := hid hw5
    have HK5 := hid (K4.below hb5 (by omega))
    have hz5 : w5.heap.size = w4.heap.size + 1 := by rw [hw5]; simp
    have hB5 := hid (hB4.out.trans (hb5.mono (by omega)))
    have HR := hid (fun (n : Int) (hn : wfI n) => isRecord_any w5 _ w4.heap.size a len cap l _ acc pb mb ms CB HL.out n hn (fun h => hok.chain.within n h))
    have HOk := hid hok
    have hl6 : len ≤ 60000 := by have := hok.hi; have := hok.room; have := HL.out; omega
    have HCB := hid CB
    have hl1 : w.heap.size + 1 < w4.heap.size := by omega
    clear hw5 hb5 hb4 hV CB hok
    have HBad := hid (fun (h : ¬ (recB l (plOf acc) x = true ∧ recB l (plOf acc) y = true ∧ ¬ x = y)) => (show MvdI lim l x y [] 0 3 from Or.inl ⟨acc, ms, HOk.out, Or.inl ⟨h, rfl, rfl, rfl⟩⟩))
    have HZ5 := hid hz5
    clear hz5
    obtain ⟨x0, x1, r0, r1, f0, f1⟩ := HK5.out
    clear K4
    go_wp2_with fail
    rw [← H5.out]
    have hcall := HR.out x hx
    cases hA : recB l (plOf acc) x
    · rw [hA] at hcall
      have HY := hid (HBad.out (by simp [hA]))
      go_fit hcall
      clear hcall
      rintro e w6 ⟨rfl, h6⟩; subst w6
      go_wp2_with fail
      refine bodyPost_ret (v := .tuple #[.agg #[.slice none 0 0, .int .i64 0], .int .i64 3]) (by simp [results, Try.results11, go_sem, r0, r1]) rfl ⟨[], 0, 3, none, 0, rfl, HY.out, Nat.le_refl _, wds_nil _ _ _, below_set2s hB5.out (by omega), fun A h => by cases h⟩
    · rw [hA] at hcall
      go_fit hcall
      clear hcall
      rintro e w6 ⟨rfl, h6⟩; subst w6
      go_wp2_with fail
      have hcall := HR.out y hy
      cases hD : recB l (plOf acc) y
      · rw [hD] at hcall
        have HY := hid (HBad.out (by simp [hD]))
        go_fit hcall
        clear hcall
        rintro e w6 ⟨rfl, h6⟩; subst w6
        go_wp2_with fail
        refine bodyPost_ret (v := .tuple #[.agg #[.slice none 0 0, .int .i64 0], .int .i64 3]) (by simp [results, Try.results11, go_sem, r0, r1]) rfl ⟨[], 0, 3, none, 0, rfl, HY.out, Nat.le_refl _, wds_nil _ _ _, below_set2s hB5.out (by omega), fun A h => by cases h⟩
      · rw [hD] at hcall
        go_fit hcall
        clear hcall
        rintro e w6 ⟨rfl, h6⟩; subst w6
        by_cases hxy : x = y
        · have HY := hid (HBad.out (by simp [hxy]))
          subst hxy
          go_wp2_with fail
          refine bodyPost_ret (v := .tuple #[.agg #[.slice none 0 0, .int .i64 0], .int .i64 3]) (by simp [results, Try.results11, go_sem, r0, r1]) rfl ⟨[], 0, 3, none, 0, rfl, HY.out, Nat.le_refl _, wds_nil _ _ _, below_set2s hB5.out (by omega), fun A h => by cases h⟩
        · have hxy2 : (x == y) = false := by simp [hxy]
          have hrec := hA
          unfold recB at hrec
          simp only [Bool.and_eq_true, decide_eq_true_eq] at hrec
          obtain ⟨i, hi, hval, hh⟩ := HOk.out.chain.val x hrec.1
          obtain ⟨hhl, htr⟩ := HOk.out.chain.mem_tAt i hi
          have hf3 := rec_front hhl (by rw [hh]; exact hrec.2) htr
          have htl := tRef_le htr
          have HTh := hid (fun w' (hb : Below w5.heap.size w5 w') => chartThing_any w' _ w4.heap.size a len cap l _ acc pb mb ms (HCB.out.below hb) x hx i hi hval)
          have HEnd := hid (fun l' lim' r (h : (BadC lim (leaveL l acc[i].h acc[i].f acc[i].e y) ∧ l' = [] ∧ lim' = 0 ∧ r = 4) ∨ ((∃ acc2 ms2, OkC lim (leaveL l acc[i].h acc[i].f acc[i].e y) acc2 ms2) ∧ l' = leaveL l acc[i].h acc[i].f acc[i].e y ∧ lim' = lim ∧ r = 0)) => (show MvdI lim l x y l' lim' r from Or.inl ⟨acc, ms, HOk.out, Or.inr ⟨⟨hA, hD, hxy⟩, acc[i].h, acc[i].f, acc[i].e, hh.symm, hhl, by omega, htr, h⟩⟩))
          clear hh hval htr
          generalize acc[i].h = th at *
          generalize acc[i].f = tf at *
          generalize acc[i].e = te at *
          have hth1 : th + 1 < tf := by omega
          clear hf3
          have HCp := hid (fun w' (hb : Below w5.heap.size w5 w') => (Clone_any w' B a len cap l (hW.below ((hB5.out.trans (hb.mono (by have := HZ5.out; omega))).mono hB)) (by have := hb.size; have := HZ5.out; omega) HL.out (by omega)).mono (fun e w'' (h : ∃ a' cap', e = .returned (.slice a' len cap') ∧ len ≤ cap' ∧ Fresh w' w'' a' l) => (by
            obtain ⟨a', cap', h1, h2, h3⟩ := h
            exact ⟨a', cap', h1, h2, hb.trans (h3.bel.mono hb.size), (hb.trans (h3.bel.mono hb.size)).size, h3.bel, h3.wds, h3.new, h3.free⟩ : ∃ a' cap', e = .returned (.slice a' len cap') ∧ len ≤ cap' ∧ Below w5.heap.size w5 w'' ∧ w5.heap.size ≤ w''.heap.size ∧ Below w'.heap.size w' w'' ∧ Wds w'' w''.heap.size a' l ∧ NewAt w'.heap.size a' ∧ Free w'' a' l)))
          have HS := hid (fun w' (hb : Below w5.heap.size w5 w') => (⟨hb, (hb.cell (p := ⟨w.heap.size, 0, none⟩) (by have := HZ5.out; dsimp only; omega)).trans x0, (hb.cell (p := ⟨w.heap.size, 1, none⟩) (by have := HZ5.out; dsimp only; omega)).trans x1⟩ : Below w5.heap.size w5 w' ∧ w'.cell? ⟨w.heap.size, 0, none⟩ = some (.slice a len cap) ∧ w'.cell? ⟨w.heap.size, 1, none⟩ = some (.int .i64 lim)))
          clear x0 x1 r0 r1 f0 f1
          go_upto_region 6 with fail
          go_cut [10] (fun z wx => ∃ g a' cap', z = .pointer (some ⟨g, 0, none⟩) ∧ len ≤ cap' ∧ CutO w5 wx g a' cap' len lim l)
          case first =>
            go_region_held3 (fun w' => Below w5.heap.size w5 w' ∧ w'.cell? ⟨w.heap.size, 0, none⟩ = some (.slice a len cap) ∧ w'.cell? ⟨w.heap.size, 1, none⟩ = some (.int .i64 lim))
              ((refine HS.out _ ?_; first | assumption | (repeat (first | exact bdrew (Below.refl _ _) 1 | exact bdrew ((Below.refl _ _).alloc (Nat.le_refl _) _) 1 | assumption | refine below_set2s ?_ (by first | exact Nat.le_refl _ | assumption | (simp; done) | (simp; omega)) | refine Below.alloc ?_ (by first | exact Nat.le_refl _ | assumption | (simp; omega)) _))))
              (first
              | (go_at_call 25; refine (HCp.out _ (by first | exact bdrew (Below.refl _ _) 1 | exact bdrew ((Below.refl _ _).alloc (Nat.le_refl _) _) 1)).mono ?_; rintro e w10 ⟨a', cap', rfl, hc10, hb10, hz10, hbx, hW10, hN10, hF10⟩; first | (have bx := bx_one hbx; obtain ⟨⟨b0, b1⟩, ⟨e0, e1⟩, bl⟩ := bx) | skip))
            all_goals (go_wp2_with fail; go_meet)
            · exact ⟨_, a', cap', rfl, hc10, cutO_alloc hb10 hz10 hW10 hN10 (by simp) hF10 hhl⟩
            · exact ⟨_, a', cap', rfl, hc10, cutO_set hb10 hW10 hN10 (by simp) hF10 bl (by omega) b0 b1⟩
          case rest =>
            obtain ⟨wa, rfl⟩ : ∃ wa, wa = wc := ⟨_, rfl⟩
            obtain ⟨g, a', cap', rfl, hc', hc⟩ := hcut
            have hz5 := HZ5.out
            obtain ⟨bb, o, rfl, hbb, _, _, _⟩ := hc.wds th hhl
            obtain ⟨hnew, hng⟩ : w5.heap.size ≤ bb ∧ ¬ bb = g := hc.new _ rfl
            have hgl := hc.glt
            have hgg := hc.gge
            have hsz := hc.bel.size
            have HTh2 := hid (fun w' (hb : Below wa.heap.size wa w') => (HTh.out w' (hc.bel.trans (hb.mono hsz))).mono (fun e w'' (h : e = .returned (.agg #[.int .i64 th, .int .i64 tf, .int .i64 te]) ∧ Below w'.heap.size w' w'') => (⟨h.1, hb.trans (h.2.mono hb.size)⟩ : e = .returned (.agg #[.int .i64 th, .int .i64 tf, .int .i64 te]) ∧ Below wa.heap.size wa w'')))
            have HLv := hid (fun w' (hb : Below wa.heap.size wa w') => (leave_any w' bb o len cap' l th tf te y ((hc.wds.below hb).mono hb.size) (hc.free.kept (fun A hA => hb.block _ (by injection hA with hA; subst hA; exact hbb))) HL.out hl6 (by omega) htl.2.1 (by have := HL.out; omega)).mono (fun e w'' (h : e = .returned (.tuple #[]) ∧ Wn w' w'' bb o (leaveL l th tf te y)) => (⟨h.1, h.2.wds, (Wr.of hb (by omega)).trans h.2.wr⟩ : e = .returned (.tuple #[]) ∧ Wds w'' w''.heap.size (some ⟨bb, o, none⟩) (leaveL l th tf te y) ∧ Wr wa w'' bb)))
            have HS2 := hid (fun w' (hb : Below wa.heap.size wa w') => ((hb.cell (p := ⟨g, 0, none⟩) hgl).trans hc.c0 : w'.cell? ⟨g, 0, none⟩ = some (.slice (some ⟨bb, o, none⟩) len cap')))
            have HS3 := hid (fun w' (hb : Wr wa w' bb) => ((hb.cell (c := 0) hgl (by omega)).trans hc.c0 : w'.cell? ⟨g, 0, none⟩ = some (.slice (some ⟨bb, o, none⟩) len cap')))
            have KC := HK5.out.below hc.bel (by omega)
            have HKC := hid KC
            have hBc := hid (hB5.out.trans (hc.bel.mono (by omega)))
            have g0 := hid hc.c0
            have g1 := hid hc.c1
            have hgw : w.heap.size + 2 ≤ w5.heap.size := by omega
            clear hc KC HS HCp HTh hz5
            go_upto_region 7 with fail
            go_cut [] (fun wx => Wds wx wx.heap.size (some ⟨bb, o, none⟩) (leaveL l th tf te y) ∧ Wr wa wx bb)
            case first =>
              go_region_held3 (fun w' => w'.cell? ⟨g, 0, none⟩ = some (.slice (some ⟨bb, o, none⟩) len cap'))
                (first | (refine HS3.out _ ?_; assumption) | (refine HS2.out _ ?_; first | assumption | exact bdrew (Below.refl _ _) 1))
                (first
                | (go_at_call 27; refine (HTh2.out _ (by first | exact bdrew (Below.refl _ _) 1 | assumption)).mono ?_; rintro e w10 ⟨rfl, hb10⟩)
                | (go_at_call 26; refine (HLv.out _ (by first | assumption | exact bdrew (Below.refl _ _) 1)).mono ?_; rintro e w11 ⟨rfl, hW11, hR11⟩))
              all_goals (go_wp2_with fail; go_meet)
              all_goals exact ⟨hW11, hR11⟩
            case rest =>
              obtain ⟨wd, rfl⟩ : ∃ wd, wd = wc := ⟨_, rfl⟩
              obtain ⟨hWd, hRd⟩ := hcut
              have hKd := HKC.out.below hRd.bel (by omega)
              have q0 := (hRd.cell (c := 0) hgl (by omega)).trans g0.out
              have q1 := (hRd.cell (c := 1) hgl (by omega)).trans g1.out
              have hBd := hid (hBc.out.trans (hRd.bel.mono (by omega)))
              have hszd := hRd.bel.size
              have hcall := Check_any wd wd.heap.size (some ⟨bb, o, none⟩) len cap' (leaveL l th tf te y) lim hWd (Nat.le_refl _) (by rw [leaveL_length]; exact HL.out) hc' hl (wfL_leave hwf hy)
              have HCk := hid hcall
              have HWd := hid hWd
              have HKd := hid hKd
              clear hcall hWd hRd hKd
              go_wp2_with fail
              have hcall := HCk.out
              go_fit hcall
              clear hcall
              rintro e w8 ⟨r, rfl, hr, hb8⟩
              have hK8 := HKd.out.below hb8 (by omega)
              have hB8 := hid (hBd.out.trans (hb8.mono (by omega)))
              have p0 := (hb8.cell (p := ⟨g, 0, none⟩) (by dsimp only; omega)).trans q0
              have p1 := (hb8.cell (p := ⟨g, 1, none⟩) (by dsimp only; omega)).trans q1
              have HW8 := hid ((HWd.out.below hb8).mono hb8.size)
              obtain ⟨x0, x1, r0, r1, f0, f1⟩ := hK8
              clear q0 q1 hb8
              rcases hr with ⟨rfl, acc2, ms2, hok2⟩ | ⟨rfl, hbad2⟩
              · have HY := hid (HEnd.out (leaveL l th tf te y) lim 0 (Or.inr ⟨⟨acc2, ms2, hok2⟩, rfl, rfl, rfl⟩))
                have HP := hid (wds_past (g := w.heap.size + 1) HW8.out (Nat.le_refl _) (by omega) (.slice (some ⟨bb, o, none⟩) len cap') (.int .i64 lim))
                have HBB := hid (below_set2s (g := w.heap.size + 1) hB8.out (by omega) (x0 := .slice (some ⟨bb, o, none⟩) len cap') (x1 := .int .i64 lim))
                clear hok2
                go_wp2_with fail
                refine bodyPost_ret (v := .tuple #[.agg #[.slice (some ⟨bb, o, none⟩) len cap', .int .i64 lim], .int .i64 0]) (by simp [results, Try.results11, go_sem, r0, r1]) rfl ⟨leaveL l th tf te y, lim, 0, some ⟨bb, o, none⟩, cap', by rw [leaveL_length, ← HL.out], HY.out, by rw [leaveL_length, ← HL.out]; exact hc', HP.out, HBB.out, fun A hA => by injection hA with hA; subst hA; dsimp only; omega⟩
              · have HY := hid (HEnd.out [] 0 4 (Or.inl ⟨hbad2, rfl, rfl, rfl⟩))
                clear hbad2
                go_wp2_with fail
                refine bodyPost_ret (v := .tuple #[.agg #[.slice none 0 0, .int .i64 0], .int .i64 4]) (by simp [results, Try.results11, go_sem, r0, r1]) rfl ⟨[], 0, 4, none, 0, rfl, HY.out, Nat.le_refl _, wds_nil _ _ _, below_set2s hB8.out (by omega), fun A h => by cases h⟩
  · have HY := hid (show MvdI lim l x y [] 0 9 from Or.inr ⟨hbad, rfl, rfl, rfl⟩)
    have hB4 := hid (HB2.out.trans (hb4.mono (by omega)))
    obtain ⟨x0, x1, r0, r1, f0, f1⟩ := HK.out.below hb4 (by omega)
    have hz4 := hb4.size
    have hl2 : w.heap.size + 1 < w4.heap.size := by omega
    clear hb4
    go_wp2_with fail
    refine bodyPost_ret (v := .tuple #[.agg #[.slice none 0 0, .int .i64 0], .int .i64 9]) (by simp [results, Try.results11, go_sem, hl2, r0, r1]) rfl ⟨[], 0, 9, none, 0, rfl, HY.out, Nat.le_refl _, wds_nil _ _ _, (below_set2s (g := w.heap.size + 1) hB4.out (by omega)).alloc (by simp; omega) _, fun A h => by cases h⟩
theorem Move_any (w : World) (B : Nat) (a : Option Addr) (len cap : Nat) (l : List Wd) (lim x y : Int) (hW : Wds w B a l) (hB : B ≤ w.heap.size) (hlen : len = l.length) (hcap : len ≤ cap) (hl : len ≤ 9223372036854775807) (hwf : wfL l) (hx : wfI x) (hy : wfI y) :
    Calls Try.prog 11 #[.agg #[.slice a len cap, .int .i64 lim], .int .i64 x, .int .i64 y] w fun e w' => ∃ l' lim' r a' cap', e = .returned (.tuple #[.agg #[.slice a' (List.length l') cap', .int .i64 lim'], .int .i64 r]) ∧ MvdI lim l x y l' lim' r ∧ l'.length ≤ cap' ∧ Wds w' w'.heap.size a' l' ∧ Below w.heap.size w w' :=
  (Move_anyN w B a len cap l lim x y hW hB hlen hcap hl hwf hx hy).mono (fun e w' h => by
    obtain ⟨l', lim', r, a', cap', h1, h2, h3, h4, h5, _⟩ := h
    exact ⟨l', lim', r, a', cap', h1, h2, h3, h4, h5⟩)
end Go.Proofs.Ytghaididbhjpaaa

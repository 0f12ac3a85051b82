/- Something new at the end of a heap: heap's Put. -/
import Derived.Test.YtfjfobpdlmdddaaHGrow
import Derived.Test.YtfjfobpdlmdddaaHConcat
import Derived.Test.YtfjfobpdlmdddaaHMove2P
namespace Go.Proofs.Ytfjfobpdlmdddaa
set_option maxRecDepth 100000
open Go.RowKit Go.Maps
/-- What Put tells. -/
def PuI (lim : Int) (l x l' : List Wd) (lim' p r : Int) : Prop :=
  (BadC lim l ∧ l' = [] ∧ lim' = 0 ∧ p = 0 ∧ r = 9) ∨
  (∃ acc ms, OkC lim l acc ms ∧
    ((x = [] ∧ l' = [] ∧ lim' = 0 ∧ p = 0 ∧ r = 4) ∨
     (0 < x.length ∧ ¬ (l.length : Int) + x.length ≤ lim ∧ l' = [] ∧ lim' = 0 ∧ p = 0 ∧ r = 12) ∨
     (0 < x.length ∧ (l.length : Int) + x.length ≤ lim ∧
       ((grB l x acc = false ∧ l' = [] ∧ lim' = 0 ∧ p = 0 ∧ r = 4) ∨ (grB l x acc = true ∧ l' = l ++ x ∧ lim' = lim ∧ p = l.length ∧ r = 0)))))
theorem new_none (N : Nat) : NewAt N none := fun A h => by cases h
theorem wfL_app {l x : List Wd} (h : wfL l) (h' : wfL x) : wfL (l ++ x) := by
  intro i hi
  by_cases hlt : i < l.length
  · rw [List.getElem_append_left hlt]; exact h i hlt
  · rw [List.getElem_append_right (by omega)]; exact h' _ (by rw [List.length_append] at hi; omega)
theorem rws_two {w : World} {g : Nat} {a1 a2 : Option Addr} {c1 c2 : Nat} {l1 l2 : List Wd} (h1 : Wds w w.heap.size a1 l1) (h2 : Wds w w.heap.size a2 l2) (hg : g < w.heap.size) (k1 : w.cell? ⟨g, 0, none⟩ = some (.slice a1 l1.length c1)) (k2 : w.cell? ⟨g, 1, none⟩ = some (.slice a2 l2.length c2)) :
    Rws w w.heap.size (some ⟨g, 0, none⟩) [⟨a1, c1, l1⟩, ⟨a2, c2, l2⟩] := by
  intro i hi
  match i, hi with
  | 0, _ => exact ⟨⟨g, 0, rfl, hg, by simpa using k1⟩, h1⟩
  | 1, _ => exact ⟨⟨g, 0, rfl, hg, by simpa using k2⟩, h2⟩
theorem concat_two (w : World) (g : Nat) (a1 a2 : Option Addr) (n1 n2 c1 c2 : Nat) (l1 l2 : List Wd) (h1 : Wds w w.heap.size a1 l1) (h2 : Wds w w.heap.size a2 l2) (hn1 : n1 = l1.length) (hn2 : n2 = l2.length) (hl : n1 + n2 ≤ 60000) (hp : 0 < n2) (hg : g < w.heap.size) (k1 : w.cell? ⟨g, 0, none⟩ = some (.slice a1 n1 c1)) (k2 : w.cell? ⟨g, 1, none⟩ = some (.slice a2 n2 c2)) :
    Calls Try.prog 34 #[.slice (some ⟨g, 0, none⟩) 2 2] w fun e w' => ∃ a' cap', e = .returned (.slice a' (n1 + n2) cap') ∧ n1 + n2 ≤ cap' ∧ Below w.heap.size w w' ∧ Wds w' w'.heap.size a' (l1 ++ l2) ∧ NewAt w.heap.size a' ∧ Free w' a' (l1 ++ l2) := by
  subst hn1 hn2
  have hf : flat [⟨a1, c1, l1⟩, ⟨a2, c2, l2⟩] = l1 ++ l2 := by simp [flat]
  refine (Concat_any w w.heap.size (some ⟨g, 0, none⟩) 2 2 _ (rws_two h1 h2 hg k1 k2) (Nat.le_refl _) rfl (by rw [hf, List.length_append]; omega) (by rw [hf, List.length_append]; omega) (by omega)).mono (fun e w' h => ?_)
  obtain ⟨v, q1, q2, q3⟩ := h
  rw [hf] at q2
  obtain ⟨a', cap', rfl, q4, q5, q6, q7⟩ := q2.cells
  rw [List.length_append] at q1 q4
  exact ⟨a', cap', q1, q4, q3, q5, q6, fun A hA j _ => q7 A hA _⟩
set_option maxHeartbeats 8000000 in
theorem Put_any (w : World) (B : Nat) (a : Option Addr) (len cap : Nat) (l : List Wd) (lim : Int) (ax : Option Addr) (nx cx : Nat) (x : List Wd) (hW : Wds w B a l) (hB : B ≤ w.heap.size) (hlen : len = l.length) (hcap : len ≤ cap) (hl : len ≤ 9223372036854775807) (hwf : wfL l) (hX : Wds w B ax x) (hnx : nx = x.length) (hwx : wfL x) (hlx : nx ≤ 4398046511104) :
    Calls Try.prog 20 #[.agg #[.slice a len cap, .int .i64 lim], .slice ax nx cx] w fun e w' => ∃ l' lim' p r a' cap', e = .returned (.tuple #[.agg #[.slice a' (List.length l') cap', .int .i64 lim'], .int .i64 p, .int .i64 r]) ∧ PuI lim l x l' lim' p r ∧ l'.length ≤ cap' ∧ Wds w' w'.heap.size a' l' ∧ Below w.heap.size w w' ∧ NewAt w.heap.size a' := by
  have HL := hid hlen
  have HX := hid hnx
  clear hlen hnx
  obtain ⟨w2, hw2⟩ : ∃ w2, w2 = (w.alloc (.cells #[.slice a len cap, .int .i64 lim] 24)).alloc (.cells #[.slice none 0 0, .int .i64 0] 24) := ⟨_, rfl⟩
  obtain ⟨hbx, hz2, hb2⟩ := hpB_born w _ _ _ _ _ _ w2 hw2
  have HC := hid (newChart_any w2 B a len cap l lim (hW.below (hb2.mono hB)) (by omega) HL.out hcap hl hwf)
  have H2 := hid hw2
  have HK := hid hbx
  have HB2 := hid hb2
  clear hw2 hb2
  go_enter Try.func20, Try.ntmps20
  go_wp2_with fail
  rw [← H2.out]
  clear hbx
  have hcall := HC.out
  go_fit hcall
  clear hcall
  rintro e w4 ⟨hb4, ⟨v, acc, pb, mb, ms, rfl, hok, hV⟩ | ⟨rfl, hbad⟩⟩
  · have HVv := hid hV
    obtain ⟨av, capv, hv, _, _⟩ := hV.row.cells
    subst hv
    have hB4 := hid (HB2.out.trans (hb4.mono (by omega)))
    have K4 := HK.out.below hb4 (by omega)
    have hz4 := hb4.size
    have CB := ChartV.box (len := len) (cap := cap) hV 58
    obtain ⟨w5, hw5⟩ : ∃ w5, w5 = w4.alloc (.cells #[.slice a len cap, .slice av acc.length capv, .map (some pb), .map (some mb)] 58) := ⟨_, rfl⟩
    rw [← hw5] at CB
    have hb5 : Below w4.heap.size w4 w5 := by rw [hw5]; exact (Below.refl _ _).alloc (Nat.le_refl _) _
    have hf5 : w5.frozen? ⟨w4.heap.size, 0, none⟩ = false := by rw [hw5]; go_simp
    have H5 := hid hw5
    have HK5 := hid (K4.below hb5 (by omega))
    have hz5 : w5.heap.size = w4.heap.size + 1 := by rw [hw5]; simp
    have hB5 := hid (hB4.out.trans (hb5.mono (by omega)))
    have HOk := hid hok
    have hl6 : len ≤ 60000 := by have := hok.hi; have := hok.room; have := HL.out; omega
    have hlo := hok.lo
    have hhi := hok.hi
    have HRoom := hid hok.room
    have HCB := hid CB
    have hl1 : w.heap.size + 1 < w4.heap.size := by omega
    have HF5 := hid hf5
    have HZ5 := hid hz5
    clear hw5 hb5 hb4 hV CB hok hf5 hz5
    obtain ⟨x0, x1, r0, r1, f0, f1⟩ := HK5.out
    clear K4
    go_upto_region 4 with fail
    rw [← H5.out]
    by_cases hx0 : nx = 0
    · have HY := hid (show PuI lim l x [] 0 0 4 from Or.inr ⟨acc, ms, HOk.out, Or.inl ⟨List.length_eq_zero_iff.1 (by have := HX.out; omega), rfl, rfl, rfl, rfl⟩⟩)
      have hx1 : (nx : Int) = 0 := by omega
      subst hx0
      go_wp2_with fail
      refine bodyPost_ret (v := .tuple #[.agg #[.slice none 0 0, .int .i64 0], .int .i64 0, .int .i64 4]) (by simp [results, Try.results20, go_sem, r0, r1]) rfl ⟨[], 0, 0, 4, none, 0, rfl, HY.out, Nat.le_refl _, wds_nil _ _ _, below_set2s hB5.out (by omega), new_none _⟩
    · have hx1 : ¬ (nx : Int) = 0 := by omega
      have hxb : ((nx : Int) == 0) = false := by simp [hx0]
      have hxp : 0 < x.length := by have := HX.out; omega
      by_cases hr : (nx : Int) > lim - len
      · have HY := hid (show PuI lim l x [] 0 0 12 from Or.inr ⟨acc, ms, HOk.out, Or.inr (Or.inl ⟨hxp, by have := HX.out; have := HL.out; omega, rfl, rfl, rfl, rfl⟩)⟩)
        go_wp2_with fail
        refine bodyPost_ret (v := .tuple #[.agg #[.slice none 0 0, .int .i64 0], .int .i64 0, .int .i64 12]) (by simp [results, Try.results20, go_sem, r0, r1]) rfl ⟨[], 0, 0, 12, none, 0, rfl, HY.out, Nat.le_refl _, wds_nil _ _ _, below_set2s hB5.out (by omega), new_none _⟩
      · have hr2 : ¬ (nx : Int) > lim - len := hr
        have hrm : (l.length : Int) + x.length ≤ lim := by have := HX.out; have := HL.out; omega
        have hsum : len + nx ≤ 60000 := by omega
        have hnp : 0 < nx := by omega
        have HEnd := hid (fun l' lim' p r (h : (grB l x acc = false ∧ l' = [] ∧ lim' = 0 ∧ p = 0 ∧ r = 4) ∨ (grB l x acc = true ∧ l' = l ++ x ∧ lim' = lim ∧ p = (l.length : Int) ∧ r = 0)) => (show PuI lim l x l' lim' p r from Or.inr ⟨acc, ms, HOk.out, Or.inr (Or.inr ⟨hxp, hrm, h⟩)⟩))
        have HCp := hid (fun w' g (hb : Below w5.heap.size w5 w') (hg : g < w'.heap.size) (k1 : w'.cell? ⟨g, 0, none⟩ = some (.slice a len cap)) (k2 : w'.cell? ⟨g, 1, none⟩ = some (.slice ax nx cx)) => (concat_two w' g a ax len nx cap cx l x (((hW.below ((hB5.out.trans (hb.mono (by have := HZ5.out; omega))).mono hB))).mono (by have := hb.size; have := HZ5.out; omega)) (((hX.below ((hB5.out.trans (hb.mono (by have := HZ5.out; omega))).mono hB))).mono (by have := hb.size; have := HZ5.out; omega)) HL.out HX.out hsum hnp hg k1 k2).mono (fun e w'' (h : ∃ a' cap', e = .returned (.slice a' (len + nx) cap') ∧ len + nx ≤ cap' ∧ Below w'.heap.size w' w'' ∧ Wds w'' w''.heap.size a' (l ++ x) ∧ NewAt w'.heap.size a' ∧ Free w'' a' (l ++ x)) => (by
          obtain ⟨a', cap', h1, h0, h2, h3, h4, h5⟩ := h
          exact ⟨a', cap', h1, h0, hb.trans (h2.mono hb.size), (hb.trans (h2.mono hb.size)).size, h2, h3, h4, h5⟩ : ∃ a' cap', e = .returned (.slice a' (len + nx) cap') ∧ len + nx ≤ cap' ∧ Below w5.heap.size w5 w'' ∧ w5.heap.size ≤ w''.heap.size ∧ Below w'.heap.size w' w'' ∧ Wds w'' w''.heap.size a' (l ++ x) ∧ NewAt w'.heap.size a' ∧ Free w'' a' (l ++ x))))
        have HS := hid (fun w' (hb : Below w5.heap.size w5 w') => (⟨hb, (hb.cell (p := ⟨w.heap.size, 0, none⟩) (by have := HZ5.out; dsimp only; omega)).trans x0, (hb.cell (p := ⟨w.heap.size, 1, none⟩) (by have := HZ5.out; dsimp only; omega)).trans x1⟩ : Below w5.heap.size w5 w' ∧ w'.cell? ⟨w.heap.size, 0, none⟩ = some (.slice a len cap) ∧ w'.cell? ⟨w.heap.size, 1, none⟩ = some (.int .i64 lim)))
        have hq : len < (l ++ x).length := by rw [List.length_append]; have := HL.out; omega
        obtain ⟨m, hm⟩ : ∃ m, m = len + nx := ⟨_, rfl⟩
        have HM := hid hm
        rw [← hm] at HCp
        go_upto_region 8 with fail
        clear x0 x1 r0 r1 f0 f1 hm
        go_cut [9] (fun z wx => ∃ g a' cap', z = .pointer (some ⟨g, 0, none⟩) ∧ m ≤ cap' ∧ CutO w5 wx g a' cap' m lim (l ++ x))
        case first =>
          go_region_held3 (fun w' => Below w5.heap.size w5 w' ∧ w'.cell? ⟨w.heap.size, 0, none⟩ = some (.slice a len cap) ∧ w'.cell? ⟨w.heap.size, 1, none⟩ = some (.int .i64 lim))
            ((refine HS.out _ ?_; first | assumption | (repeat (first | exact bdrew (Below.refl _ _) 1 | exact bdrew ((Below.refl _ _).alloc (Nat.le_refl _) _) 1 | exact bdrew (((Below.refl _ _).alloc (Nat.le_refl _) _).alloc (by simp) _) 1 | assumption | refine below_set2s ?_ (by first | exact Nat.le_refl _ | assumption | (simp; done) | (simp; omega)) | refine Below.alloc ?_ (by first | exact Nat.le_refl _ | assumption | (simp; omega)) _))))
            (first
            | (go_at_call 34; refine (HCp.out _ _ (by first | exact bdrew ((Below.refl _ _).alloc (Nat.le_refl _) _) 1 | exact bdrew (((Below.refl _ _).alloc (Nat.le_refl _) _).alloc (by simp) _) 1) (by simp <;> omega) (by go_simp) (by go_simp)).mono ?_; rintro e w10 ⟨a', cap', rfl, hc10, hb10, hz10, hbx, hW10, hN10, hF10⟩; first | (have bx := bx_first (u0 := .slice none 0 0) (u1 := .int .i64 0) hbx; obtain ⟨⟨b0, b1⟩, ⟨e0, e1⟩, bl⟩ := bx) | (have bx := bx_second (u0 := .slice none 0 0) (u1 := .int .i64 0) hbx; obtain ⟨⟨b0, b1⟩, ⟨e0, e1⟩, bl⟩ := bx) | skip))
          all_goals (go_wp2_with fail; go_meet)
          · exact ⟨_, a', cap', rfl, hc10, cutO_alloc hb10 hz10 hW10 hN10 (by simp) hF10 hq⟩
          · exact ⟨_, a', cap', rfl, hc10, cutO_set hb10 hW10 hN10 (by simp) hF10 bl (by omega) b0 b1⟩
          · exact ⟨_, a', cap', rfl, hc10, cutO_set hb10 hW10 hN10 (by simp <;> omega) hF10 bl (Nat.le_refl _) b0 b1⟩
        case rest =>
          obtain ⟨wa, rfl⟩ : ∃ wa, wa = wc := ⟨_, rfl⟩
          obtain ⟨g, a', cap', rfl, hc', hc⟩ := hcut
          have hz5 := HZ5.out
          obtain ⟨bb, o, rfl, hbb, _, _, _⟩ := hc.wds len hq
          obtain ⟨hnew, hng⟩ : w5.heap.size ≤ bb ∧ ¬ bb = g := hc.new _ rfl
          have hgl := hc.glt
          have hgg := hc.gge
          have hsz := hc.bel.size
          have CA := HCB.out.below hc.bel
          have hpb := HCB.out.pl.lt
          have hvl := fun b (hb : (Value.slice av acc.length capv).ownBlock = some b) => (HCB.out.row.own_lt hb).2
          have hcbl := HCB.out.lt
          have HMg := hid (mayGrow_any wa _ w4.heap.size a len cap l lim _ acc pb mb ms CA HOk.out HL.out ((hc.bel.frozen (p := ⟨w4.heap.size, 0, none⟩) hcbl).trans HF5.out) (some ⟨bb, o, none⟩) m cap' x hc.wds (by rw [HM.out, HL.out, HX.out, List.length_append]) hc' (by have := HM.out; omega) (wfL_app hwf hwx) hxp (fun A hA => by
            injection hA with hA
            subst hA
            dsimp only
            exact ⟨by omega, by omega, fun h => by have := hvl _ h; omega⟩))
          have KA := HK5.out.below hc.bel (by omega)
          have hBa := hid (hB5.out.trans (hc.bel.mono (by omega)))
          have g0 := hc.c0
          have g1 := hc.c1
          have HWa := hid hc.wds
          have HKA := hid KA
          obtain ⟨x0, x1, r0, r1, f0, f1⟩ := KA
          clear hc CA HS HCp hz5
          go_wp2_with fail
          have hcall := HMg.out
          go_fit hcall
          clear hcall x0 x1 r0 r1 f0 f1
          rintro e wb ⟨rfl, hO⟩
          have hz5 := HZ5.out
          have hb1 := hO.oth g hgl (by omega) (by omega) (fun h => by have := hvl _ h; omega)
          have hb2 := hO.oth bb hbb (by omega) (by omega) (fun h => by have := hvl _ h; omega)
          have p0 := (World.cell?_of_block (w := wa) (a := ⟨g, 0, none⟩) hb1).trans g0
          have p1 := (World.cell?_of_block (w := wa) (a := ⟨g, 1, none⟩) hb1).trans g1
          have HKb := hid (HKA.out.below hO.bel (by omega))
          have hBb := hid (hBa.out.trans (hO.bel.mono (by omega)))
          have hszb := hO.bel.size
          have HWb := hid (HWa.out.kept hszb (fun A hA => by injection hA with hA; subst hA; exact hb2))
          obtain ⟨x0, x1, r0, r1, f0, f1⟩ := HKb.out
          clear hO hb1 hb2 g0 g1 hz5
          cases hgr : grB l x acc
          · have HY := hid (HEnd.out [] 0 0 4 (Or.inl ⟨hgr, rfl, rfl, rfl, rfl⟩))
            go_wp2_with fail
            refine bodyPost_ret (v := .tuple #[.agg #[.slice none 0 0, .int .i64 0], .int .i64 0, .int .i64 4]) (by simp [results, Try.results20, go_sem, r0, r1]) rfl ⟨[], 0, 0, 4, none, 0, rfl, HY.out, Nat.le_refl _, wds_nil _ _ _, below_set2s hBb.out (by omega), new_none _⟩
          · have HY := hid (HEnd.out (l ++ x) lim l.length 0 (Or.inr ⟨hgr, rfl, rfl, rfl, rfl⟩))
            rw [← HL.out] at HY
            have hgn : ¬ g = w.heap.size + 1 := by have := HZ5.out; omega
            have hbn : ¬ bb = w.heap.size + 1 := by have := HZ5.out; omega
            have HP := hid (wds_past (g := w.heap.size + 1) HWb.out (Nat.le_refl _) hbn (.slice (some ⟨bb, o, none⟩) m cap') (.int .i64 lim))
            have HBB := hid (below_set2s (g := w.heap.size + 1) hBb.out (by omega) (x0 := .slice (some ⟨bb, o, none⟩) m cap') (x1 := .int .i64 lim))
            have HPd := hid (wds_past (w := wb.drew) (g := w.heap.size + 1) HWb.out (Nat.le_refl _) hbn (.slice (some ⟨bb, o, none⟩) m cap') (.int .i64 lim))
            have HBd := hid (below_set2s (g := w.heap.size + 1) (bdrew hBb.out 1) (by omega) (x0 := .slice (some ⟨bb, o, none⟩) m cap') (x1 := .int .i64 lim))
            have HNw := hid (show NewAt w.heap.size (some ⟨bb, o, none⟩) from fun A hA => by injection hA with hA; subst hA; have := HZ5.out; dsimp only; omega)
            have HM2 := hid (show m = (l ++ x).length by rw [HM.out, HL.out, HX.out, List.length_append])
            clear hgr
            go_upto_region 11 with fail
            go_region
            all_goals
              go_wp2_with fail
              refine bodyPost_ret (v := .tuple #[.agg #[.slice (some ⟨bb, o, none⟩) m cap', .int .i64 lim], .int .i64 len, .int .i64 0]) (by simp [results, Try.results20, go_sem, r0, r1]) rfl ⟨l ++ x, lim, len, 0, some ⟨bb, o, none⟩, cap', by rw [← HM2.out], HY.out, by rw [← HM2.out]; exact hc', HPd.out, HBd.out, HNw.out⟩
  · have HY := hid (show PuI lim l x [] 0 0 9 from Or.inl ⟨hbad, rfl, rfl, rfl, rfl⟩)
    have hB4 := hid (HB2.out.trans (hb4.mono (by omega)))
    obtain ⟨x0, x1, r0, r1, f0, f1⟩ := HK.out.below hb4 (by omega)
    have hz4 := hb4.size
    have hl2 : w.heap.size + 1 < w4.heap.size := by omega
    clear hb4
    go_wp2_with fail
    refine bodyPost_ret (v := .tuple #[.agg #[.slice none 0 0, .int .i64 0], .int .i64 0, .int .i64 9]) (by simp [results, Try.results20, go_sem, hl2, r0, r1]) rfl ⟨[], 0, 0, 9, none, 0, rfl, HY.out, Nat.le_refl _, wds_nil _ _ _, (below_set2s (g := w.heap.size + 1) hB4.out (by omega)).alloc (by simp; omega) _, new_none _⟩
end Go.Proofs.Ytfjfobpdlmdddaa

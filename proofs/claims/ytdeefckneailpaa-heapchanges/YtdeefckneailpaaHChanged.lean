/- The document's ChangedOf. -/
import Derived.Test.YtdeefckneailpaaHOne
import Derived.Test.YtdeefckneailpaaHFault
import Derived.Test.YtdeefckneailpaaHPartOf
import Derived.Test.YtdeefckneailpaaHKeep
import Derived.Deep.DeepCutAuto
namespace Go.Proofs.Ytdeefckneailpaa
set_option maxRecDepth 100000
open Go.RowKit Go.Maps
theorem cv_of {lim : Int} {l : List Wd} {acc : List Th} {ms : List (Int × Int)} (hok : OkC lim l acc ms) {k n : Int} {s : ByteArray} {r : Int} (h : VfI lim l k n s r) : r = if valB (plOf acc) k n s = true then 0 else 3 := by
  cases hv : valB (plOf acc) k n s
  · exact (cv_vf (Or.inr (Or.inl ⟨rfl, acc, ms, hok, hv⟩)) h).symm
  · exact (cv_vf (Or.inl ⟨rfl, acc, ms, hok, hv⟩) h).symm
set_option maxHeartbeats 4000000 in
theorem ChangedOf_any (w : World) (B : Nat) (a : Option Addr) (len cap : Nat) (l : List Wd) (lim : Int) (k n : Int) (s : ByteArray) (i k2 n2 : Int) (s2 : ByteArray) (hW : Wds w B a l) (hB : B ≤ w.heap.size) (hlen : len = l.length) (hl : len ≤ 9223372036854775807) (l' : List Wd) (lim' r : Int) (hd : ChI lim l k n s i ⟨k2, n2, s2⟩ l' lim' r) :
    Calls Try.prog 18 #[.agg #[.slice a len cap, .int .i64 lim], .agg #[.int .i64 k, .int .i64 n, .string s], .int .i64 i, .agg #[.int .i64 k2, .int .i64 n2, .string s2]] w fun e w' => ∃ a' cap', e = .returned (.tuple #[.agg #[.slice a' (List.length l') cap', .int .i64 lim'], .int .i64 r]) ∧ Wds w' w'.heap.size a' l' ∧ Below w.heap.size w w' := by
  have HL := hid hlen
  clear hlen
  obtain ⟨w2, hw2⟩ : ∃ w2, w2 = (((w.alloc (.cells #[.slice a len cap, .int .i64 lim] 24)).alloc (.cells #[.int .i64 k, .int .i64 n, .string s] 30)).alloc (.cells #[.int .i64 k2, .int .i64 n2, .string s2] 30)).alloc (.cells #[.slice none 0 0, .int .i64 0] 24) := ⟨_, rfl⟩
  obtain ⟨hbx, hz2, hb2⟩ := chB_born w _ _ _ _ _ _ _ _ _ _ _ _ _ _ w2 hw2
  have HK := hid hbx
  have H2 := hid hw2
  have HB2 := hid hb2
  have hW2 := hW.below (hb2.mono hB)
  clear hw2 hb2
  have HP := hid (fun k' n' s' r (h : PtI lim l k n s i k' n' s' r) => PartOf_any w2 B a len cap l lim k n s i hW2 (by omega) HL.out hl k' n' s' r h)
  have HFail := hid (fun w4 (hb4 : Below w2.heap.size w2 w4) => (⟨HK.out.below hb4 (by omega), hb4.size, HB2.out.trans (hb4.mono (by omega))⟩ : ChB w4 w.heap.size (.slice a len cap) (.int .i64 lim) (.int .i64 k) (.int .i64 n) (.string s) (.int .i64 k2) (.int .i64 n2) (.string s2) (.slice none 0 0) (.int .i64 0) ∧ w2.heap.size ≤ w4.heap.size ∧ Below w.heap.size w w4))
  go_enter Try.func18, Try.ntmps18
  go_wp2_with fail
  rw [← H2.out]
  clear hbx
  rcases hd with ⟨acc, ms, hok, hv, y, r0, hpr, hcase⟩ | ⟨rfl, rfl, hno⟩
  · by_cases hr0 : r0 = 0
    · subst hr0
      obtain ⟨q, hq, rfl⟩ := hpr.inl
      have hcall := HP.out l[q].k l[q].n l[q].s 0 (Or.inl ⟨acc, ms, hok, hv, q, hpr, Or.inr ⟨rfl, q, hq, rfl, rfl, rfl, rfl⟩⟩)
      generalize l[q].k = pk at hcall
      generalize l[q].n = pn at hcall
      generalize l[q].s = ps at hcall
      go_fit hcall
      clear hcall
      rintro e w4 ⟨rfl, hb4⟩
      obtain ⟨K4, hz4, hB4⟩ := HFail.out w4 hb4
      have HB4 := hid hB4
      obtain ⟨w5, hw5⟩ : ∃ w5, w5 = w4.alloc (.cells #[.int .i64 pk, .int .i64 pn, .string ps] 30) := ⟨_, rfl⟩
      have hb5 : Below w4.heap.size w4 w5 := by rw [hw5]; exact (Below.refl _ _).alloc (Nat.le_refl _) _
      have HK5 := hid (K4.below hb5 (by omega))
      have H5 := hid hw5
      have hB5 := hid (hB4.trans (hb5.mono (by omega)))
      have hz5 := hb5.size
      have HCv := hid (ValueFault_any w5 B a len cap l lim k2 n2 s2 (hW.below (hB5.out.mono hB)) (by omega) HL.out hl)
      have hl0 : w.heap.size < w4.heap.size := by omega
      have hl2 : w.heap.size + 2 < w4.heap.size := by omega
      obtain ⟨x0, x1, t0, t1, t2, v0, v1, v2, r0, r1, f0, f1⟩ := K4
      clear hw5 hb5 hb4 hB4
      go_wp2_with fail
      rw [← H5.out]
      have hcall := HCv.out
      go_fit hcall
      clear hcall
      rintro e w6 ⟨r6, rfl, hr6, hb6⟩
      have hr6' := cv_of hok hr6
      have HK6 := hid (HK5.out.below hb6 (by omega))
      have hB6 := hid (hB5.out.trans (hb6.mono (by omega)))
      have hz6 := hb6.size
      clear hb6 hr6 x0 x1 t0 t1 t2 v0 v1 v2 r0 r1 f0 f1
      obtain ⟨x0, x1, t0, t1, t2, v0, v1, v2, r0, r1, f0, f1⟩ := HK6.out
      rcases hcase with ⟨h, _⟩ | ⟨_, hv2, rfl, rfl, rfl⟩ | ⟨_, hv2, rfl, rfl, q', hq', hqq, rfl⟩
      · exact absurd trivial h
      · rw [hv2] at hr6'
        simp at hr6'
        subst hr6'
        go_wp2_with fail
        refine bodyPost_ret (v := .tuple #[.agg #[.slice none 0 0, .int .i64 0], .int .i64 3]) (by simp [results, Try.results18, go_sem, r0, r1]) rfl ⟨none, 0, rfl, wds_nil _ _ _, below_set2s hB6.out (by omega)⟩
      · rw [hv2] at hr6'
        simp at hr6'
        subst hr6'
        obtain rfl : q = q' := by omega
        rcases hpr with ⟨_, _, h⟩ | ⟨h5, m, f, e, hm, hml, htr, ⟨c1, c2, c3, _⟩ | ⟨_, _, h⟩⟩
        · cases h
        · subst h5
          have hat : atI ms 5 n = m := by unfold atI; rw [if_pos rfl]; exact hm
          have hcall := where_any w6 B a len cap l (hW.below (hB6.out.mono hB)) (by omega) HL.out acc ms hok.ways 5 n s (fun _ => val_ref hv rfl)
          rw [hat] at hcall
          have HWh := hid hcall
          have hl6 : len ≤ 60000 := by have := hok.hi; have := hok.room; have := HL.out; omega
          have hle := tRef_le htr
          obtain ⟨E, hE⟩ : ∃ E : Nat, e = m + E := ⟨e - m, by omega⟩
          obtain ⟨F, hF⟩ : ∃ F : Nat, f = m + F := ⟨f - m, by omega⟩
          have hE1 : (e : Int) - m = E := by omega
          have hF1 : (f : Int) - m = F := by omega
          have hqi : (m : Int) + F + i = q := by omega
          have hl7 : l.length ≤ 60000 := by have := HL.out; omega
          clear hcall hok hv hm hat
          go_wp2_with fail
          have hcall := HWh.out
          go_fit hcall
          clear hcall
          rintro e' w7 ⟨rfl, hb7⟩
          have K7 := HK6.out.below hb7 (by omega)
          have hB7 := hid (hB6.out.trans (hb7.mono (by omega)))
          have hz7 := hb7.size
          obtain ⟨w8, hw8⟩ : ∃ w8, w8 = w7.alloc (.cells #[.int .i64 5, .int .i64 (m : Int), .string s] 30) := ⟨_, rfl⟩
          obtain ⟨⟨u0, u1, u2⟩, _, hz8, hb8⟩ := box3 w7 _ _ _ _ w8 hw8
          have H8 := hid hw8
          have HK8 := hid (K7.below hb8 (by omega))
          have hB8 := hid (hB7.out.trans (hb8.mono (by omega)))
          have hcall := thing_any w8 B a l len cap m HL.out hl6 (by have := HL.out; omega) (by omega) (hW.below (hB8.out.mono hB))
          rw [htr] at hcall
          dsimp only [thV] at hcall
          rw [hE1, hF1] at hcall
          have HTh := hid hcall
          have hl0 : w.heap.size < w7.heap.size := by omega
          clear hcall hw8 hb8 hb7 hE1 hF1 htr x0 x1 t0 t1 t2 v0 v1 v2 r0 r1 f0 f1
          obtain ⟨x0, x1, t0, t1, t2, v0, v1, v2, r0, r1, f0, f1⟩ := K7
          have HZ8 := hid hz8
          clear hz8
          go_wp2_with fail
          rw [← H8.out]
          have hcall := HTh.out
          go_fit hcall
          clear hcall
          rintro e' w9 ⟨rfl, hb9⟩
          have hsz8 := HZ8.out
          have HK9 := hid (HK8.out.below hb9 (by omega))
          have hB9 := hid (hB8.out.trans (hb9.mono (by omega)))
          have hz9 := hb9.size
          have y1 := (hb9.cell (p := ⟨w7.heap.size, 1, none⟩) (by dsimp only; omega)).trans u1
          clear hb9 x0 x1 t0 t1 t2 v0 v1 v2 r0 r1 f0 f1 u0 u1 u2
          obtain ⟨x0, x1, t0, t1, t2, v0, v1, v2, r0, r1, f0, f1⟩ := HK9.out
          have HG := hid (show w.heap.size + 4 ≤ w9.heap.size ∧ w7.heap.size < w9.heap.size by omega)
          clear hsz8 hz9
          have HCp := hid (fun w' g (hb : Below w9.heap.size w9 w') (hg : g < w'.heap.size) (hc : w'.cell? ⟨g, 0, none⟩ = some (.slice a len cap)) => (wordsCopy_one w' g a len cap l (((hW.below ((hB9.out.trans (hb.mono (by have := HG.out.1; omega))).mono hB))).mono (by have := hb.size; have := HG.out.1; omega)) HL.out hl6 hg hc).mono (fun e w'' (h : ∃ a' cap', e = .returned (.slice a' len cap') ∧ Below w'.heap.size w' w'' ∧ Wds w'' w''.heap.size a' l ∧ NewAt w'.heap.size a' ∧ Free w'' a' l) => (by
            obtain ⟨a', cap', h1, h2, h3, h4, h5⟩ := h
            exact ⟨a', cap', h1, hb.trans (h2.mono hb.size), (hb.trans (h2.mono hb.size)).size, h2, h3, h4, h5⟩ : ∃ a' cap', e = .returned (.slice a' len cap') ∧ Below w9.heap.size w9 w'' ∧ w9.heap.size ≤ w''.heap.size ∧ Below w'.heap.size w' w'' ∧ Wds w'' w''.heap.size a' l ∧ NewAt w'.heap.size a' ∧ Free w'' a' l)))
          have HS := hid (fun w' (hb : Below w9.heap.size w9 w') => (⟨hb, (hb.cell (p := ⟨w.heap.size, 0, none⟩) (by have := HG.out.1; dsimp only; omega)).trans x0, (hb.cell (p := ⟨w.heap.size, 1, none⟩) (by have := HG.out.1; dsimp only; omega)).trans x1⟩ : Below w9.heap.size w9 w' ∧ w'.cell? ⟨w.heap.size, 0, none⟩ = some (.slice a len cap) ∧ w'.cell? ⟨w.heap.size, 1, none⟩ = some (.int .i64 lim')))
          go_wp2_with fail
          go_cut [15] (fun x wx => ∃ g a' cap', x = .pointer (some ⟨g, 0, none⟩) ∧ CutO w9 wx g a' cap' len lim' l)
          case first =>
            go_region_held3 (fun w' => Below w9.heap.size w9 w' ∧ w'.cell? ⟨w.heap.size, 0, none⟩ = some (.slice a len cap) ∧ w'.cell? ⟨w.heap.size, 1, none⟩ = some (.int .i64 lim'))
              ((refine HS.out _ ?_; first | assumption | (repeat (first | exact bdrew (Below.refl _ _) 1 | exact bdrew ((Below.refl _ _).alloc (Nat.le_refl _) _) 1 | exact bdrew (((Below.refl _ _).alloc (Nat.le_refl _) _).alloc (by simp) _) 1 | assumption | refine below_set2s ?_ (by first | exact Nat.le_refl _ | assumption | (simp; done) | (simp; omega)) | refine Below.alloc ?_ (by first | exact Nat.le_refl _ | assumption | (simp; omega)) _))))
              (first
              | (go_at_call 34; refine (HCp.out _ _ (by first | exact bdrew ((Below.refl _ _).alloc (Nat.le_refl _) _) 1 | exact bdrew (((Below.refl _ _).alloc (Nat.le_refl _) _).alloc (by simp) _) 1) (by simp <;> omega) (by go_simp)).mono ?_; rintro e w10 ⟨a', cap', rfl, hb10, hz10, hbx, hW10, hN10, hF10⟩; first | (have bx := bx_first hbx; obtain ⟨⟨b0, b1⟩, ⟨e0, e1⟩, bl⟩ := bx) | (have bx := bx_second hbx; obtain ⟨⟨b0, b1⟩, ⟨e0, e1⟩, bl⟩ := bx) | skip))
            all_goals (go_wp2_with fail; go_meet)
            · exact ⟨_, a', cap', rfl, cutO_alloc hb10 hz10 hW10 hN10 (by simp) hF10 hq⟩
            · exact ⟨_, a', cap', rfl, cutO_set hb10 hW10 hN10 (by simp) hF10 bl (by omega) b0 b1⟩
            · exact ⟨_, a', cap', rfl, cutO_set hb10 hW10 hN10 (by simp <;> omega) hF10 bl (Nat.le_refl _) b0 b1⟩
          case rest =>
            obtain ⟨g, a', cap', rfl, hc⟩ := hcut
            have hG := HG.out
            have hgl := hc.glt
            have hgg := hc.gge
            have g0 := hc.c0
            have g1 := hc.c1
            have y2 := (hc.bel.cell (p := ⟨w7.heap.size, 1, none⟩) (by dsimp only; omega)).trans y1
            have hBc := hid (hB9.out.trans (hc.bel.mono (by omega)))
            have KC := HK9.out.below hc.bel (by omega)
            clear x0 x1 t0 t1 t2 v0 v1 v2 r0 r1 f0 f1 y1
            obtain ⟨x0, x1, t0, t1, t2, v0, v1, v2, r0, r1, f0, f1⟩ := KC
            obtain ⟨bb, o, rfl, hbb, d0, d1, d2⟩ := hc.wds q hq
            obtain ⟨hnew, hng⟩ : w9.heap.size ≤ bb ∧ ¬ bb = g := hc.new _ rfl
            have e0 : wc.frozen? ⟨bb, o + q * 3, none⟩ = false := hc.free _ rfl (q * 3) (by omega)
            have e1 : wc.frozen? ⟨bb, o + q * 3 + 1, none⟩ = false := hc.free _ rfl (q * 3 + 1) (by omega)
            have e2 : wc.frozen? ⟨bb, o + q * 3 + 2, none⟩ = false := hc.free _ rfl (q * 3 + 2) (by omega)
            have hd3 : ¬ bb = w.heap.size + 3 := by omega
            have hd2 : ¬ bb = w.heap.size + 2 := by omega
            have hd7 : ¬ bb = w7.heap.size := by omega
            have HP0 := hid (hc.wds.put hq ⟨k2, n2, s2⟩)
            have HP := hid (wds_past (g := w.heap.size + 3) HP0.out (by simp) hd3 (.slice (some ⟨bb, o, none⟩) len cap') (.int .i64 lim'))
            have HBB := hid (below_set2s (g := w.heap.size + 3) (((hBc.out.setCell (p := ⟨bb, o + q * 3, none⟩) (by dsimp only; omega) (.int .i64 k2)).setCell (p := ⟨bb, o + q * 3 + 1, none⟩) (by dsimp only; omega) (.int .i64 n2)).setCell (p := ⟨bb, o + q * 3 + 2, none⟩) (by dsimp only; omega) (.string s2)) (by omega) (x0 := .slice (some ⟨bb, o, none⟩) len cap') (x1 := .int .i64 lim'))
            have hq2 : (q : Int) < len := by have := HL.out; omega
            have hm6 : (m : Int) ≤ 60000 := by omega
            have hF6 : (F : Int) ≤ 60000 := by omega
            have hgs : ¬ g = w.heap.size + 3 := by omega
            have hi6 : i ≤ 60000 := by omega
            have hq6 : (q : Int) ≤ 60000 := by omega
            clear c2 c3 hle hE hF
            generalize l[q].k = ok at d0
            generalize l[q].n = on at d1
            generalize l[q].s = os at d2
            clear hc HP0 hG hnew hbb HK9 HS HCp
            go_wp2_with fail
            refine bodyPost_ret (v := .tuple #[.agg #[.slice (some ⟨bb, o, none⟩) len cap', .int .i64 lim'], .int .i64 0]) (by simp [results, Try.results18, go_sem, r0, r1]) rfl ⟨some ⟨bb, o, none⟩, ⟨cap', by rw [← HL.out]⟩, HP.out, HBB.out⟩
        · cases h
    · rcases hcase with ⟨_, rfl, rfl, rfl⟩ | ⟨h, _⟩ | ⟨h, _⟩
      · have hcall := HP.out 0 0 ⟨#[]⟩ r (Or.inl ⟨acc, ms, hok, hv, y, hpr, Or.inl ⟨hr0, rfl, rfl, rfl⟩⟩)
        have hrb : (r != 0) = true := by simp [hr0]
        have hrb2 : (r == 0) = false := by simp [hr0]
        go_fit hcall
        clear hcall
        rintro e w4 ⟨rfl, hb4⟩
        obtain ⟨⟨x0, x1, t0, t1, t2, v0, v1, v2, r0, r1, f0, f1⟩, hz4, hB4⟩ := HFail.out w4 hb4
        have HB4 := hid hB4
        have hl3 : w.heap.size + 3 < w4.heap.size := by omega
        clear hb4 hB4
        go_wp2_with fail
        refine bodyPost_ret (v := .tuple #[.agg #[.slice none 0 0, .int .i64 0], .int .i64 r]) (by simp [results, Try.results18, go_sem, hl3, r0, r1]) rfl ⟨none, 0, rfl, wds_nil _ _ _, (below_set2s (g := w.heap.size + 3) HB4.out (by omega)).alloc (by simp; omega) _⟩
      · exact absurd h hr0
      · exact absurd h hr0
  · have hr0 : ¬ r = 0 := by rcases hno with ⟨rfl, _⟩ | ⟨rfl, _⟩ <;> omega
    have hcall := HP.out 0 0 ⟨#[]⟩ r (Or.inr ⟨⟨rfl, rfl, rfl⟩, hno⟩)
    have hrb : (r != 0) = true := by simp [hr0]
    have hrb2 : (r == 0) = false := by simp [hr0]
    clear hno
    go_fit hcall
    clear hcall
    rintro e w4 ⟨rfl, hb4⟩
    obtain ⟨⟨x0, x1, t0, t1, t2, v0, v1, v2, r0, r1, f0, f1⟩, hz4, hB4⟩ := HFail.out w4 hb4
    have HB4 := hid hB4
    have hl3 : w.heap.size + 3 < w4.heap.size := by omega
    clear hb4 hB4
    go_wp2_with fail
    refine bodyPost_ret (v := .tuple #[.agg #[.slice none 0 0, .int .i64 0], .int .i64 r]) (by simp [results, Try.results18, go_sem, hl3, r0, r1]) rfl ⟨none, 0, rfl, wds_nil _ _ _, (below_set2s (g := w.heap.size + 3) HB4.out (by omega)).alloc (by simp; omega) _⟩
end Go.Proofs.Ytdeefckneailpaa

/- heap.Collect: what the roots reach is kept: P3.7. -/
import Derived.Test.YtfjfobpdlmdddaaHCollW
import Derived.Test.YtfjfobpdlmdddaaHFor
namespace Go.Proofs.Ytfjfobpdlmdddaa
set_option maxRecDepth 100000
open Go.RowKit Go.Maps
/-- What a collection tells. -/
def CoI (lim : Int) (l R l' : List Wd) (lim' : Int) (R' : List Wd) (r : Int) : Prop :=
  (r = 9 ∧ BadC lim l ∧ l' = [] ∧ lim' = 0 ∧ R' = []) ∨ (r = 3 ∧ (∃ acc ms, OkC lim l acc ms ∧ allB (plOf acc) R = false) ∧ l' = [] ∧ lim' = 0 ∧ R' = []) ∨
  (r = 0 ∧ ∃ acc ms, OkC lim l acc ms ∧ allB (plOf acc) R = true ∧ l' = (partsV l ms 60001 (brgs l ms ⟨[], []⟩ R).1 0).ws ∧ lim' = lim ∧ R' = (brgs l ms ⟨[], []⟩ R).2)
theorem all_refs {acc : List Th} {R : List Wd} (h : allB (plOf acc) R = true) : ∀ x ∈ R, x.k = 5 → hasI (plOf acc) x.n = true := by
  intro x hx hk
  unfold allB at h
  have h1 := List.all_eq_true.1 h x hx
  unfold valB at h1
  rw [hk] at h1
  simp at h1
  exact h1.1
theorem brM_born {w : World} {B : Nat} {a : Option Addr} {len cap : Nat} {l : List Wd} {v : Value} {acc : List Th} {pb mb : Nat} {ms : List (Int × Int)} (h : ChartV w B a l v acc pb mb ms) (W : World)
    (hW : W = (w.alloc (.map #[] 0)).alloc (.cells #[.slice a len cap, v, .map (some pb), .map (some mb), .slice none 0 0, .map (some w.heap.size)] 62)) :
    BrM W B (w.heap.size + 1) a len cap l v acc pb mb ms w.heap.size (.slice none 0 0) ⟨[], []⟩ ∧ Below w.heap.size w W ∧ W.heap.size = w.heap.size + 2 := by
  have hb : Below w.heap.size w W := by rw [hW]; exact ((Below.refl _ _).alloc (Nat.le_refl _) _).alloc (by simp) _
  have hz : W.heap.size = w.heap.size + 2 := by rw [hW]; simp
  have hV := h.below hb
  have hp := h.pl.lt
  have hm := h.mv.lt
  have hBp := h.hpb
  have hown := fun g (hg : v.ownBlock = some g) => (h.row.own_lt hg).2
  have hnb : W.heap[w.heap.size]? = some (.map #[] 0) := by
    have e : W.heap[w.heap.size]? = (w.alloc (.map #[] 0)).heap[w.heap.size]? := by
      rw [hW]
      exact ((Below.refl (w.heap.size + 1) (w.alloc (.map #[] 0))).alloc (by simp) _).block _ (by omega)
    rw [e]; exact World.alloc_heap_new w _
  refine ⟨⟨⟨hV.wds, ?_, ?_, ?_, ?_, ?_, hV.row, hV.pl, hV.mv, by omega, h.hpb, h.hmb, by omega, by omega, h.n3, fun g hg => ⟨by have := hown g hg; omega, h.n4 g hg⟩⟩, ?_, ?_, ?_, WdL.nil _ _, ownsI_born hnb, by omega, ⟨by omega, by omega, by omega⟩, fun g hg => by have := hown g hg; omega, fun g hg => by cases hg⟩, hb, hz⟩
  all_goals (rw [hW]; go_simp)
theorem bx22 {w w1 : World} {v0 v1 r0 r1 : Value} {t t' : TypeId} (hb : Below (w.heap.size + 2) ((w.alloc (.cells #[v0, v1] t)).alloc (.cells #[r0, r1] t')) w1) :
    w1.cell? ⟨w.heap.size, 0, none⟩ = some v0 ∧ w1.cell? ⟨w.heap.size, 1, none⟩ = some v1 ∧ w1.cell? ⟨w.heap.size + 1, 0, none⟩ = some r0 ∧ w1.cell? ⟨w.heap.size + 1, 1, none⟩ = some r1 ∧ w1.frozen? ⟨w.heap.size + 1, 0, none⟩ = false ∧ w1.frozen? ⟨w.heap.size + 1, 1, none⟩ = false := by
  refine ⟨?_, ?_, ?_, ?_, ?_, ?_⟩
  · rw [hb.cell (p := ⟨w.heap.size, 0, none⟩) (show w.heap.size < w.heap.size + 2 by omega)]; go_simp
  · rw [hb.cell (p := ⟨w.heap.size, 1, none⟩) (show w.heap.size < w.heap.size + 2 by omega)]; go_simp
  · rw [hb.cell (p := ⟨w.heap.size + 1, 0, none⟩) (show w.heap.size + 1 < w.heap.size + 2 by omega)]; go_simp
  · rw [hb.cell (p := ⟨w.heap.size + 1, 1, none⟩) (show w.heap.size + 1 < w.heap.size + 2 by omega)]; go_simp
  · rw [hb.frozen (p := ⟨w.heap.size + 1, 0, none⟩) (show w.heap.size + 1 < w.heap.size + 2 by omega)]; go_simp
  · rw [hb.frozen (p := ⟨w.heap.size + 1, 1, none⟩) (show w.heap.size + 1 < w.heap.size + 2 by omega)]; go_simp
set_option maxHeartbeats 4000000 in
theorem Collect_any (w : World) (B : Nat) (a : Option Addr) (len cap : Nat) (l : List Wd) (lim : Int) (hW : Wds w B a l) (hB : B ≤ w.heap.size) (hlen : len = l.length) (hcap : len ≤ cap) (hl : len ≤ 9223372036854775807) (hwf : wfL l)
    (ra : Option Addr) (rl rc : Nat) (R : List Wd) (hR : Wds w B ra R) (hrl : rl = R.length) (hrb : rl * 32 ≤ 140737488355328) (hwfR : wfL R) :
    Calls Try.prog 11 #[.agg #[.slice a len cap, .int .i64 lim], .slice ra rl rc] w fun e w' => ∃ l' lim' R' r a' cap' ra' rcap', e = .returned (.tuple #[.agg #[.slice a' (List.length l') cap', .int .i64 lim'], .slice ra' (List.length R') rcap', .int .i64 r]) ∧ CoI lim l R l' lim' R' r ∧ l'.length ≤ cap' ∧ Wds w' w'.heap.size a' l' ∧ Wds w' w'.heap.size ra' R' ∧ Below w.heap.size w w' := by
  have HL := hid hlen
  have HRl := hid hrl
  clear hlen hrl
  obtain ⟨w2, hw2⟩ : ∃ w2, w2 = (w.alloc (.cells #[.slice a len cap, .int .i64 lim] 24)).alloc (.cells #[.slice none 0 0, .int .i64 0] 24) := ⟨_, rfl⟩
  have hb2 : Below w.heap.size w w2 := by rw [hw2]; exact below_2 _ _ _
  have hz2 : w2.heap.size = w.heap.size + 2 := by rw [hw2]; simp
  have HBx := hid (fun w' (h : Below (w.heap.size + 2) w2 w') => bx22 (v0 := .slice a len cap) (v1 := .int .i64 lim) (r0 := .slice none 0 0) (r1 := .int .i64 0) (t := 24) (t' := 24) (by rw [← hw2]; exact h))
  have hrl9 : rl ≤ 9223372036854775807 := by omega
  have hC := chartFor_any w2 B a len cap l lim (hW.below (hb2.mono hB)) (by omega) HL.out hcap hl hwf ra rl rc R (hR.below (hb2.mono hB)) HRl.out hrl9 hwfR
  rw [hz2, hw2] at hC
  have HC := hid hC
  have H2 := hid hw2
  have HB2 := hid hb2
  have HZ2 := hid hz2
  clear hC hw2 hb2 hz2
  go_enter Try.func11, Try.ntmps11
  go_wp2_with fail
  have hcall := HC.out
  go_fit hcall
  clear hcall
  rw [← H2.out]
  rintro e w3 ⟨hb3, ⟨v, acc, pb, mb, ms, rfl, hok, hall, hV⟩ | ⟨rfl, hbad⟩ | ⟨rfl, hbad⟩⟩
  · obtain ⟨av, capv, hve, _, _⟩ := hV.row.cells
    subst hve
    have hz3 := hb3.size
    have hz := HZ2.out
    have hmm := @run_makeMap Try.prog
    obtain ⟨w4, hw4⟩ : ∃ w4, w4 = w3.alloc (.cells #[.slice a len cap, .slice av acc.length capv, .map (some pb), .map (some mb)] 58) := ⟨_, rfl⟩
    have hb4 : Below w3.heap.size w3 w4 := by rw [hw4]; exact (Below.refl _ _).alloc (Nat.le_refl _) _
    have hz4 : w4.heap.size = w3.heap.size + 1 := by rw [hw4]; simp
    obtain ⟨w5, hw5⟩ : ∃ w5, w5 = (w4.alloc (.map #[] 0)).alloc (.cells #[.slice a len cap, .slice av acc.length capv, .map (some pb), .map (some mb), .slice none 0 0, .map (some w4.heap.size)] 62) := ⟨_, rfl⟩
    obtain ⟨hM5, hb5, hz5⟩ := brM_born (len := len) (cap := cap) (hV.below hb4) w5 hw5
    rw [hz4] at hM5 hw5
    have hb25 : Below (w.heap.size + 2) w2 w5 := (hb3.trans (hb4.mono (by omega))).trans (hb5.mono (by omega))
    have hbw5 : Below w.heap.size w w5 := HB2.out.trans (hb25.mono (by omega))
    obtain ⟨ord1, hI1⟩ := Inv.brgs hok R ⟨[], []⟩ [] (Inv.empty l acc) (all_refs hall)
    have hR5 := bringRoots_any w5 (w.heap.size + 2) (w3.heap.size + 1 + 1) a len cap l (.slice av acc.length capv) acc pb mb ms (w3.heap.size + 1) (.slice none 0 0) ⟨[], []⟩ lim hM5 hok HL.out hcap [] (Inv.empty l acc) ra rl rc R ((hR.below (hbw5.mono hB)).mono (by omega)) HRl.out hrb hwfR (all_refs hall)
    rw [hw5, hw4] at hR5
    have HR5 := hid hR5
    have H4 := hid hw4
    have H5 := hid hw5
    have HB25 := hid hb25
    have HBw5 := hid hbw5
    have HCo := hid (show CoI lim l R (partsV l ms 60001 (brgs l ms ⟨[], []⟩ R).1 0).ws lim (brgs l ms ⟨[], []⟩ R).2 0 from Or.inr (Or.inr ⟨rfl, acc, ms, hok, hall, rfl, rfl, rfl⟩))
    have HI1 := hid hI1
    have HOk := hid hok
    have HWf := hid hwf
    obtain ⟨x0, x1, r0, r1, f0, f1⟩ := HBx.out _ hb3
    have hlx : w.heap.size + 1 < w3.heap.size := by omega
    have hlx0 : w.heap.size < w3.heap.size := by omega
    have HZ4 := hid hz4
    clear hR5 hw4 hw5 hb25 hbw5 hI1 hM5 hb5 hb4 hV hall hok hwf hz5 hz4
    go_wp2_with fail
    have hcall := HR5.out
    go_fit hcall
    clear hcall
    rw [← H4.out, ← H5.out]
    rintro e w6 ⟨vr, u1, rfl, hvr, hM6, hsep, hb6⟩
    have hb26 := HB25.out.trans hb6
    have HP := hid (bringParts_any w6 (w.heap.size + 2) (w3.heap.size + 1 + 1) a len cap l (.slice av acc.length capv) acc pb mb ms (w3.heap.size + 1) u1 (brgs l ms ⟨[], []⟩ R).1 lim hM6 HOk.out HL.out hcap HWf.out ord1 HI1.out)
    have HVr := hid hvr
    have HSep := hid hsep
    have HB26 := hid hb26
    clear hvr hsep hb26 hM6 hb6 x0 x1 r0 r1 f0 f1
    go_wp2_with fail
    have hcall := HP.out
    go_fit hcall
    clear hcall
    rintro e w7 ⟨rfl, u7, hP7⟩
    have hb27 := HB26.out.trans hP7.bel
    obtain ⟨x0, x1, r0, r1, f0, f1⟩ := HBx.out _ hb27
    have hz27 := hb27.size
    have hv7 := HVr.out.keep (w' := w7) (fun g hg => hP7.keep g (HVr.out.own_lt hg).2 (HSep.out g hg).1 (HSep.out g hg).2.2.2.1 (HSep.out g hg).2.2.2.2.2)
    have hr7 := hP7.M.row
    have c4 := hP7.M.c4
    have hcb7 := hP7.M.ch.lt
    obtain ⟨a7, cap7, hu7, hc7, _, _, _⟩ := hr7.cells
    obtain ⟨ra7, rcap7, hvre, _, _, _, _⟩ := hv7.cells
    subst hu7 hvre
    have HR7 := hid hr7
    have HV7 := hid hv7
    have HB27 := hid hb27
    clear hr7 hv7 hb27 hP7 HVr HSep HP HR5 HI1
    generalize (partsV l ms 60001 (brgs l ms ⟨[], []⟩ R).1 0).ws = L7 at *
    generalize (brgs l ms ⟨[], []⟩ R).2 = R7 at *
    generalize hl7 : L7.length = n7 at *
    generalize hr7 : R7.length = m7 at *
    have HL7 := hid hl7
    have HM7 := hid hr7
    clear hl7 hr7
    have hlx7 : w.heap.size + 1 < w7.heap.size := by omega
    have hne7 : ¬ w.heap.size + 1 = w3.heap.size + 1 + 1 := by omega
    go_wp2_with fail
    refine bodyPost_ret (v := .tuple #[.agg #[.slice a7 n7 cap7, .int .i64 lim], .slice ra7 m7 rcap7, .int .i64 0]) (by simp [results, Try.results11, go_sem, r0, r1]) rfl ?_
    have hoth : ∀ b, w.heap.size + 2 ≤ b → ((w7.setCell ⟨w.heap.size + 1, 0, none⟩ (.slice a7 n7 cap7)).setCell ⟨w.heap.size + 1, 1, none⟩ (.int .i64 lim)).heap[b]? = w7.heap[b]? := fun b hb => by
      rw [Below.heap_setCell _ _ _ _ (by dsimp only; omega), Below.heap_setCell _ _ _ _ (by dsimp only; omega)]
    have h1 := HR7.out.keep (w' := (w7.setCell ⟨w.heap.size + 1, 0, none⟩ (.slice a7 n7 cap7)).setCell ⟨w.heap.size + 1, 1, none⟩ (.int .i64 lim)) (fun b hb => hoth b (HR7.out.own_lt hb).1)
    have h2 := HV7.out.keep (w' := (w7.setCell ⟨w.heap.size + 1, 0, none⟩ (.slice a7 n7 cap7)).setCell ⟨w.heap.size + 1, 1, none⟩ (.int .i64 lim)) (fun b hb => hoth b (HV7.out.own_lt hb).1)
    obtain ⟨a8, c8, e8, _, h3, _, _⟩ := h1.cells
    obtain ⟨a9, c9, e9, _, h4, _, _⟩ := h2.cells
    injection e8 with e81 e82 e83
    injection e9 with e91 e92 e93
    subst e81 e91
    refine ⟨L7, lim, R7, 0, a7, cap7, ra7, rcap7, by rw [HL7.out, HM7.out], HCo.out, by rw [HL7.out]; exact hc7, h3, h4, ?_⟩
    exact ((HB2.out.trans (HB27.out.mono (by omega))).setCell (p := ⟨w.heap.size + 1, 0, none⟩) (by dsimp only; omega) _).setCell (p := ⟨w.heap.size + 1, 1, none⟩) (by dsimp only; omega) _
  · obtain ⟨x0, x1, r0, r1, f0, f1⟩ := HBx.out _ hb3
    have hz3 := hb3.size
    have HB3 := hid (HB2.out.trans (hb3.mono (by omega)))
    have hz := HZ2.out
    have hlx : w.heap.size + 1 < w3.heap.size := by omega
    have HBad := hid hbad
    clear hbad
    go_wp2_with fail
    refine bodyPost_ret (v := .tuple #[.agg #[.slice none 0 0, .int .i64 0], .slice none 0 0, .int .i64 3]) (by simp [results, Try.results11, go_sem, r0, r1, hlx]) rfl ?_
    refine ⟨[], 0, [], 3, none, 0, none, 0, rfl, Or.inr (Or.inl ⟨rfl, HBad.out, rfl, rfl, rfl⟩), Nat.le_refl _, fun i hi => absurd hi (by simp), fun i hi => absurd hi (by simp), ?_⟩
    exact ((HB3.out.setCell (p := ⟨w.heap.size + 1, 0, none⟩) (by dsimp only; omega) _).setCell (p := ⟨w.heap.size + 1, 1, none⟩) (by dsimp only; omega) _).alloc (by simp; omega) _
  · obtain ⟨x0, x1, r0, r1, f0, f1⟩ := HBx.out _ hb3
    have hz3 := hb3.size
    have HB3 := hid (HB2.out.trans (hb3.mono (by omega)))
    have hz := HZ2.out
    have hlx : w.heap.size + 1 < w3.heap.size := by omega
    have HBad := hid hbad
    clear hbad
    go_wp2_with fail
    refine bodyPost_ret (v := .tuple #[.agg #[.slice none 0 0, .int .i64 0], .slice none 0 0, .int .i64 9]) (by simp [results, Try.results11, go_sem, r0, r1, hlx]) rfl ?_
    refine ⟨[], 0, [], 9, none, 0, none, 0, rfl, Or.inl ⟨rfl, HBad.out, rfl, rfl, rfl⟩, Nat.le_refl _, fun i hi => absurd hi (by simp), fun i hi => absurd hi (by simp), ?_⟩
    exact ((HB3.out.setCell (p := ⟨w.heap.size + 1, 0, none⟩) (by dsimp only; omega) _).setCell (p := ⟨w.heap.size + 1, 1, none⟩) (by dsimp only; omega) _).alloc (by simp; omega) _
end Go.Proofs.Ytfjfobpdlmdddaa

/- What the roots reach is as it was behind a collection, and stays when it is collected again: CollectKeeps returns true for all raw things and numbers that can be read, and leaves them as they were. No condition. -/
import Derived.Test.YtfjfobpdlmdddaaRows
import Derived.Test.YtfjfobpdlmdddaaHKpA
import Derived.Test.YtfjfobpdlmdddaaHKpE
import Derived.Test.YtfjfobpdlmdddaaHKpI
import Derived.Deep.RegionHeld3
import Derived.Deep.QuietTactic
import Derived.BigQuiet
namespace Go.Proofs.Ytfjfobpdlmdddaa
set_option maxRecDepth 100000
open Go.ChangeShapes Go.WideShapes Go.ChangeAt Go.RowKit
set_option maxHeartbeats 4000000 in
theorem keeps_walk (ar : Option Addr) (R : List Rw4) (nr cr : Nat) (ai : Option Addr) (I : List Int) (ni ci : Nat) (w : World) (hnr : nr = R.length) (hnb : nr ≤ 9223372036854775807) (hR : RawS w w.heap.size ar R) (hni : ni = I.length) (_hnib : ni ≤ 9223372036854775807) (hI : IntS w w.heap.size ai I) :
    Calls Try.prog 6 #[.slice ar nr cr, .slice ai ni ci] w fun e w' => e = .returned (.bool true) ∧ Below w.heap.size w w' := by
  have HC := hid (built_any w w.heap.size ar nr cr R 30 hR (Nat.le_refl _) hnr hnb (by omega))
  have HNi := hid hni
  clear hR hnr hnb hni
  go_enter Try.func6, Try.ntmps6
  go_wp2_with fail
  have hcall := HC.out
  rw [show ((30 : Nat) : Int) = 30 from rfl] at hcall
  go_fit hcall
  clear hcall
  rintro e w3 ⟨l, M, a, cap, am, capm, rfl, hmade, hcap, hW, hWm, hwf, hwfM, h2, h40, hcapm, h5, hb3⟩
  obtain ⟨acc, ms, hok, hno, hval, _⟩ := hmade
  obtain rfl := no_moved hok hno
  have hz3 := hb3.size
  obtain ⟨L, hL⟩ : ∃ L, L = l.length := ⟨_, rfl⟩
  obtain ⟨mL, hmL⟩ : ∃ mL, mL = M.length := ⟨_, rfl⟩
  have hL4 : L ≤ 400 := by omega
  rw [← hmL, ← hL]
  rw [← hL] at hcap h5
  rw [← hmL] at h2 h40 hcapm h5
  have HL := hid hL
  have HmL := hid hmL
  obtain ⟨w4, hw4⟩ : ∃ w4, w4 = w3.alloc (.cells #[.slice a L cap, .int .i64 600] 24) := ⟨_, rfl⟩
  have hb4 : Below w3.heap.size w3 w4 := by rw [hw4]; exact (Below.refl _ _).alloc (Nat.le_refl _) _
  have hz4 : w4.heap.size = w3.heap.size + 1 := by rw [hw4]; simp
  have s0 : w4.cell? ⟨w3.heap.size, 0, none⟩ = some (.slice a L cap) := by rw [hw4]; go_simp
  have s1 : w4.cell? ⟨w3.heap.size, 1, none⟩ = some (.int .i64 600) := by rw [hw4]; go_simp
  have HBw4 := hid (hb3.trans (hb4.mono hz3))
  have HW4 := hid ((hW.below hb4).mono (show w3.heap.size ≤ w4.heap.size by omega))
  have HWm4 := hid ((hWm.below hb4).mono (show w3.heap.size ≤ w4.heap.size by omega))
  have HS4 := hid (fun (w' : World) (h : Below w4.heap.size w4 w') => (⟨(h.cell (p := ⟨w3.heap.size, 0, none⟩) (by dsimp only; omega)).trans s0, (h.cell (p := ⟨w3.heap.size, 1, none⟩) (by dsimp only; omega)).trans s1⟩ : w'.cell? ⟨w3.heap.size, 0, none⟩ = some (.slice a L cap) ∧ w'.cell? ⟨w3.heap.size, 1, none⟩ = some (.int .i64 600)))
  have H4 := hid hw4
  have HOk := hid hok
  have HVal := hid hval
  have HWf := hid hwf
  have HWfM := hid hwfM
  have hzw4 : w.heap.size ≤ w4.heap.size := by omega
  have hb34 : w3.heap.size < w4.heap.size := by omega
  obtain ⟨i0, hi, iz0, iz1, iz2⟩ := info_parts infoWd
  have HI := hid hi
  have HZ0 := hid iz0
  have HZ1 := hid iz1
  have HZ2 := hid iz2
  clear hi iz0 iz1 iz2 hok hno hval hW hWm hwf hwfM hL hmL hb3 hb4 hw4 s0 s1
  go_wp2_with fail
  go_upto_region 4 with fail
  rw [← H4.out]
  go_loopw [7, 8] (fun z7 z8 wr => ∃ (q : Nat) (rs : List Wd), q ≤ 4 ∧ z8 = .int .i64 (q : Int) ∧ WdL wr w4.heap.size z7 rs ∧ rs.length = q ∧ (∀ x ∈ rs, x ∈ M) ∧ Below w4.heap.size w4 wr) (fun _ z8 _ => 5 - (intOf z8).toNat)
  case atStart => exact ⟨0, [], by omega, rfl, WdL.nil _ _, rfl, (fun x hx => by cases hx), Below.refl _ _⟩
  case round =>
    obtain ⟨q, rs, hq4, rfl, hrow, hrl, hmem, hbr⟩ := hrel
    have hzr := hbr.size
    have HRow := hid hrow
    have HRl := hid hrl
    have HMem := hid hmem
    have HBr := hid hbr
    by_cases hlt : q < ni ∧ q < 4
    · have hlt1 : (q : Int) < ni := by omega
      have hlt2 : (q : Int) < 4 := by omega
      have hqI : q < I.length := by have := HNi.out; omega
      obtain ⟨⟨bi, oi, rfl, hbi, ci0⟩, hi64⟩ := (hI.below (HBw4.out.trans (hbr.mono hzw4))) q hqI
      obtain ⟨hp0, hp1⟩ := pick_range I[q] mL (by omega)
      have HPk := hid (fun w' => picked_any I[q] mL w' hi64.1 hi64.2 (by omega) (by omega))
      obtain ⟨j, hj⟩ := Int.eq_ofNat_of_zero_le hp0
      rw [hj] at HPk hp1
      have hjM : j < M.length := by have := HmL.out; omega
      have hjm : (j : Int) < mL := hp1
      obtain ⟨bm, om, rfl, hbm, c0, c1, c2⟩ := (HWm4.out.below hbr) j hjM
      have HMj := hid (List.getElem_mem hjM)
      generalize I[q] = iq at *
      generalize M[j] = v at *
      obtain ⟨vk, vn, vs⟩ := v
      dsimp only at c0 c1 c2
      obtain ⟨w7, hw7⟩ : ∃ w7, w7 = wr.alloc (.cells #[.int .i64 vk, .int .i64 vn, .string vs] 37) := ⟨_, rfl⟩
      have hb7 : Below wr.heap.size wr w7 := by rw [hw7]; exact (Below.refl _ _).alloc (Nat.le_refl _) _
      have hz7 : w7.heap.size = wr.heap.size + 1 := by rw [hw7]; simp
      have hnews : ∀ j x, [Value.int .i64 vk, .int .i64 vn, .string vs][j]? = some x → w7.cell? ((⟨wr.heap.size, 0, none⟩ : Addr).add j) = some x := by rw [hw7]; exact news3v _ _ _ _ _
      have hv3 := hrow.keep (w' := w7) (fun g hg => hb7.block g (hrow.own_lt hg).2)
      have HOwn : Hid (World.ownsRow w7 w4.heap.size 37 3 u7 q (wcs rs)) := hid (by rw [← hrl]; exact hv3)
      have HLt := hid (fun g (hg : u7.ownBlock = some g) => (hv3.own_lt hg))
      have HBB := hid (hbr.trans (hb7.mono hzr))
      have HNews := hid hnews
      have H7 := hid hw7
      have hB7 : w4.heap.size ≤ w7.heap.size := by omega
      clear hrow hrl hmem hbr hw7 hb7 hz7 hnews hv3 hp0 hj hi64 hqI hjM
      go_wp2_with fail
      have hcall := HPk.out wr
      go_fit hcall
      clear hcall
      rintro e w0 ⟨rfl, h0⟩; subst w0
      go_wp2_with (at_builtin; rw [← H7.out]; refine wpList_append_lies _ rfl _ _ 22 rfl w4.heap.size 37 i0 (.agg #[.int .i64 0, .int .i64 0, .string ⟨#[]⟩]) 3 32 Try.underlying22 HI.out HZ0.out HZ1.out HZ2.out rfl (by decide) _ q (wcs rs) rfl HOwn.out ⟨wr.heap.size, 0, none⟩ 1 1 [.int .i64 vk, .int .i64 vn, .string vs] rfl rfl HNews.out (by simp [Value.oneCell']) (by decide) (by unfold maxLen; omega) (by omega) hB7 _ rfl ?_; intro g3 cap3 w8 hown8 hgrow8 hat8 hlt8)
      go_wp2_with fail
      go_roundw
      case rel =>
        refine ⟨q + 1, rs ++ [⟨vk, vn, vs⟩], by omega, by go_num, ?_, by rw [List.length_append, HRl.out]; rfl, fun x hx => ?_, HBB.out.trans ((Below.refl _ _).grown hgrow8 hB7 (fun j hj => (HLt.out j hj).1))⟩
        · unfold WdL
          rw [wcs_append, List.length_append, HRl.out]
          exact hown8
        · rcases List.mem_append.1 hx with h | h
          · exact HMem.out x h
          · rw [List.mem_singleton] at h; rw [h]; exact HMj.out
      case measure => simp [intOf]; omega
    · obtain ⟨a7, cap7, he7, hc7, hW7, _, _⟩ := hrow.cells
      have hcond : (¬ (q : Int) < ni) ∨ ((q : Int) < ni ∧ ¬ (q : Int) < 4) := by omega
      obtain ⟨w5, rfl⟩ : ∃ w5, w5 = wr := ⟨_, rfl⟩
      rw [hrl] at he7 hc7
      subst he7
      obtain ⟨y0, y1⟩ := HS4.out w5 hbr
      have hall : allB (plOf acc) rs = true := by
        unfold allB
        exact List.all_eq_true.2 fun x hx => HVal.out x (hmem x hx)
      have hwfr : wfL rs := fun i hi => by
        obtain ⟨k, hk, e⟩ := List.getElem_of_mem (hmem _ (List.getElem_mem hi))
        rw [← e]; exact HWfM.out k hk
      have HW5 := hid ((HW4.out.below hbr).mono hzr)
      have HRs5 := hid hW7
      have HAll := hid hall
      have HWfr := hid hwfr
      have HCo := hid ((Collect_any w5 w5.heap.size a L cap l 600 HW5.out (Nat.le_refl _) HL.out hcap (by omega) HWf.out a7 q cap7 rs hW7 hrl.symm (by omega) hwfr).mono (fun e w' h => (by
        obtain ⟨g, lim', R', r, a1, cap1, x1, xcap1, h1, h2, h3, h4, h5, h6⟩ := h
        obtain ⟨rfl, rfl, k3, k4, ord, k5, k6, k7, k8, k9⟩ := kept_all HOk.out hall h2
        rw [k3, hrl] at h1
        have hg6 : g.length ≤ 60000 := by have := HL.out; omega
        have hwR : wfL R' := fun i hi => ren_wf (k8 i (by omega) hi) (hwfr i (by omega)) (by rw [← k5.len]; exact hg6)
        exact ⟨g, g.length, R', a1, cap1, x1, xcap1, h1, ⟨rfl, by have := HL.out; omega, k3.trans hrl, k5.wf HWf.out hg6, hwR, ord, ⟨HOk.out, k7, k5, k6⟩, k8, k9⟩, h3, h4, h5, h6⟩ : ∃ g n1 R' a1 cap1 x1 xcap1, e = .returned (.tuple #[.agg #[.slice a1 n1 cap1, .int .i64 600], .slice x1 q xcap1, .int .i64 0]) ∧ Hid (n1 = g.length ∧ n1 ≤ L ∧ R'.length = q ∧ wfL g ∧ wfL R' ∧ ∃ ord, Twin 600 l g acc ord ∧ (∀ i (h1 : i < rs.length) (h2 : i < R'.length), RenR ord [] rs[i] R'[i]) ∧ ∀ g2 R2 lim2 r2, CoI 600 g R' g2 lim2 R2 r2 → r2 = 0 ∧ g2 = g ∧ R2 = R' ∧ lim2 = 600) ∧ n1 ≤ cap1 ∧ Wds w' w'.heap.size a1 g ∧ Wds w' w'.heap.size x1 R' ∧ Below w5.heap.size w5 w')))
      have HB5 := hid (HBw4.out.trans (hbr.mono hzw4))
      have hzw5 : w.heap.size ≤ w5.heap.size := by omega
      have hl35 : w3.heap.size < w5.heap.size := by omega
      clear hrow hrl hmem hbr hW7 hall hwfr HRow HBr HMem
      rcases hcond with hcd | ⟨hcd, hcd2⟩
      all_goals
        go_wp2_with fail
        have hcall := HCo.out
        go_fit hcall
        clear hcall
        rintro e w6 ⟨g, n1, R', a1, cap1, x1, xcap1, rfl, hk, hc1, hWg, hX1, hb6⟩
        obtain ⟨hn1, hn1L, hRl', hwg, hwR, ord, hTw, hRen, hAg⟩ := hk.out
        have hz6 := hb6.size
        obtain ⟨w7, hw7⟩ : ∃ w7, w7 = w6.alloc (.cells #[.slice a1 n1 cap1, .int .i64 600] 24) := ⟨_, rfl⟩
        have hb7 : Below w6.heap.size w6 w7 := by rw [hw7]; exact (Below.refl _ _).alloc (Nat.le_refl _) _
        have hz7 : w7.heap.size = w6.heap.size + 1 := by rw [hw7]; simp
        have t0 : w7.cell? ⟨w6.heap.size, 0, none⟩ = some (.slice a1 n1 cap1) := by rw [hw7]; go_simp
        have t1 : w7.cell? ⟨w6.heap.size, 1, none⟩ = some (.int .i64 600) := by rw [hw7]; go_simp
        have HWg7 := hid ((hWg.below hb7).mono (show w6.heap.size ≤ w7.heap.size by omega))
        have HX7 := hid ((hX1.below hb7).mono (show w6.heap.size ≤ w7.heap.size by omega))
        have HCo2 := hid ((Collect_any w7 w7.heap.size a1 n1 cap1 g 600 HWg7.out (Nat.le_refl _) hn1 hc1 (by omega) hwg x1 q xcap1 R' HX7.out hRl'.symm (by omega) hwR).mono (fun e w' h => (by
          obtain ⟨g2, lim2, R2, r2, a2, cap2, x2, xcap2, h1, h2, h3, h4, h5, h6⟩ := h
          obtain ⟨rfl, rfl, rfl, rfl⟩ := hAg _ _ _ _ h2
          rw [hRl', ← hn1] at h1
          exact ⟨a2, cap2, x2, xcap2, h1, h4, h5, h6⟩ : ∃ a2 cap2 x2 xcap2, e = .returned (.tuple #[.agg #[.slice a2 n1 cap2, .int .i64 600], .slice x2 q xcap2, .int .i64 0]) ∧ Wds w' w'.heap.size a2 g ∧ Wds w' w'.heap.size x2 R' ∧ Below w7.heap.size w7 w')))
        have H7 := hid hw7
        rw [hw7] at HCo2
        have hb57 := hb6.trans (hb7.mono hz6)
        have y06 := (hb6.cell (p := ⟨w3.heap.size, 0, none⟩) hl35).trans y0
        have y16 := (hb6.cell (p := ⟨w3.heap.size, 1, none⟩) hl35).trans y1
        have HTw := hid hTw
        have HRen := hid hRen
        have Hn1 := hid hn1
        have HRl' := hid hRl'
        have Hwg := hid hwg
        have HB57 := hid hb57
        have HZ7 := hid hz7
        have hl36 : w3.heap.size < w6.heap.size := by omega
        clear hk hTw hRen hAg hn1 hRl' hwg hwR hb6 hb7 hz7 hw7 hWg hX1 hb57
        go_wp2_with fail
        have hcall := HCo2.out
        go_fit hcall
        clear hcall
        rw [← H7.out]
        rintro e w8 ⟨a2, cap2, x2, xcap2, rfl, hWg2, hX2, hb8⟩
        have hz8 := hb8.size
        have hz7 := HZ7.out
        have hl67 : w6.heap.size < w7.heap.size := by omega
        have t08 := (hb8.cell (p := ⟨w6.heap.size, 0, none⟩) hl67).trans t0
        have t18 := (hb8.cell (p := ⟨w6.heap.size, 1, none⟩) hl67).trans t1
        obtain ⟨w9, hw9⟩ : ∃ w9, w9 = w8.alloc (.cells #[.slice a2 n1 cap2, .int .i64 600] 24) := ⟨_, rfl⟩
        have hb9 : Below w8.heap.size w8 w9 := by rw [hw9]; exact (Below.refl _ _).alloc (Nat.le_refl _) _
        have hz9 : w9.heap.size = w8.heap.size + 1 := by rw [hw9]; simp
        have v0 : w9.cell? ⟨w8.heap.size, 0, none⟩ = some (.slice a2 n1 cap2) := by rw [hw9]; go_simp
        have hb79 := hb8.trans (hb9.mono hz8)
        have hb59 := HB57.out.trans (hb79.mono (by omega))
        have HW59 := hid (fun w' (h : Below w9.heap.size w9 w') => (hb59.trans (h.mono (by omega)) : Below w5.heap.size w5 w'))
        have HWg9 := hid (fun w' (h : Below w9.heap.size w9 w') => (((HWg7.out.below (hb79.trans (h.mono (by omega))))).mono (by have := h.size; omega) : Wds w' w'.heap.size a1 g))
        have HX9 := hid (fun w' (h : Below w9.heap.size w9 w') => (((HX7.out.below (hb79.trans (h.mono (by omega))))).mono (by have := h.size; omega) : Wds w' w'.heap.size x1 R'))
        have HWg29 := hid (fun w' (h : Below w9.heap.size w9 w') => (((hWg2.below (hb9.trans (h.mono (by omega))))).mono (by have := h.size; omega) : Wds w' w'.heap.size a2 g))
        have HX29 := hid (fun w' (h : Below w9.heap.size w9 w') => (((hX2.below (hb9.trans (h.mono (by omega))))).mono (by have := h.size; omega) : Wds w' w'.heap.size x2 R'))
        have HCl := hid (fun w' (h : Below w9.heap.size w9 w') => (by
          have h5 := hb59.trans (h.mono (by omega))
          have h7 := hb79.trans (h.mono (by omega))
          exact ⟨(h5.cell (p := ⟨w3.heap.size, 0, none⟩) hl35).trans y0, (h5.cell (p := ⟨w3.heap.size, 1, none⟩) hl35).trans y1, (h7.cell (p := ⟨w6.heap.size, 0, none⟩) hl67).trans t0, (h7.cell (p := ⟨w6.heap.size, 1, none⟩) hl67).trans t1, (h.cell (p := ⟨w8.heap.size, 0, none⟩) (by dsimp only; omega)).trans v0, by have := h.size; omega⟩ : w'.cell? ⟨w3.heap.size, 0, none⟩ = some (.slice a L cap) ∧ w'.cell? ⟨w3.heap.size, 1, none⟩ = some (.int .i64 600) ∧ w'.cell? ⟨w6.heap.size, 0, none⟩ = some (.slice a1 n1 cap1) ∧ w'.cell? ⟨w6.heap.size, 1, none⟩ = some (.int .i64 600) ∧ w'.cell? ⟨w8.heap.size, 0, none⟩ = some (.slice a2 n1 cap2) ∧ w8.heap.size < w'.heap.size))
        have HCk := hid ((Check_any w9 w9.heap.size a1 n1 cap1 g 600 (HWg9.out w9 (Below.refl _ _)) (Nat.le_refl _) Hn1.out hc1 (by omega) Hwg.out).mono (fun e w' h => (by
          obtain ⟨r, h1, h2, h3⟩ := h
          rcases h2 with ⟨rfl, _⟩ | ⟨_, h2⟩
          · exact ⟨h1, h3⟩
          · exact absurd h2 HTw.out.okg.not_bad : e = .returned (.int .i64 0) ∧ Below w9.heap.size w9 w')))
        have H9 := hid hw9
        rw [hw9] at HCk
        have HZ9 := hid hz9
        have hl68 : w6.heap.size < w8.heap.size := by omega
        have hnL : ¬ (n1 : Int) > L := by omega
        have hnL2 : ¬ L < n1 := by omega
        have hnL3 : decide (L < n1) = false := by simpa using hnL2
        clear hb8 hb9 hz9 hw9 hb79 hb59 hWg2 hX2 v0 t0 t1 y06 y16 hz7
        go_wp2_with fail
        have hcall := HCk.out
        go_fit hcall
        clear hcall t08 t18
        rw [← H9.out]
        rintro e w10 ⟨rfl, hb10⟩
        have hz10 := hb10.size
        obtain ⟨q0, q1, q2, q3, q4, hs10⟩ := HCl.out w10 hb10
        have HE1 := hid (Equal_true w10 w10.heap.size a1 a2 n1 cap1 cap2 g (HWg9.out w10 hb10) (HWg29.out w10 hb10) (Nat.le_refl _) Hn1.out (by omega))
        have HB10 := hid hb10
        have l310 : w3.heap.size < w10.heap.size := by omega
        have l610 : w6.heap.size < w10.heap.size := by omega
        clear hb10
        go_wp2_with fail
        have hcall := HE1.out
        go_fit hcall
        clear hcall q0 q1 q2 q3 q4
        rintro e w11 ⟨rfl, hb11⟩
        have hz11 := hb11.size
        have hb911 := HB10.out.trans (hb11.mono hz10)
        have HE2 := hid (Equal_true w11 w11.heap.size x1 x2 q xcap1 xcap2 R' (HX9.out w11 hb911) (HX29.out w11 hb911) (Nat.le_refl _) HRl'.out.symm (by omega))
        have HB911 := hid hb911
        clear hb11 hb911
        go_wp2_with fail
        have hcall := HE2.out
        go_fit hcall
        clear hcall
        rintro e w12 ⟨rfl, hb12⟩
        have hz12 := hb12.size
        have HB12 := hid (HB911.out.trans (hb12.mono (by omega)))
        clear hb12
        go_wp2_with fail
        go_loopw [101] (fun z wr => ∃ p : Nat, p ≤ q ∧ z = .int .i64 (p : Int) ∧ Below w12.heap.size w12 wr) (fun z _ => q + 1 - (intOf z).toNat)
        case atStart => exact ⟨0, Nat.zero_le _, rfl, Below.refl _ _⟩
        case round =>
          obtain ⟨p, hp, rfl, hbr⟩ := hrel
          have hzr := hbr.size
          have hb9r := HB12.out.trans (hbr.mono (by omega))
          have hzz9 := HB12.out.size
          by_cases hpq : p < q
          · have hpq2 : (p : Int) < q := by omega
            obtain ⟨x0, x1', g0, g1, _, hs⟩ := HCl.out wr hb9r
            have hb5r := HW59.out wr hb9r
            have hpr : p < rs.length := by have := HRl.out; omega
            have hpR : p < R'.length := by have := HRl'.out; omega
            obtain ⟨bq, oq, rfl, hbq, c0, c1, c2⟩ := (HRs5.out.below hb5r) p hpr
            obtain ⟨bx, ox, rfl, hbx, d0, d1, d2⟩ := (HX9.out wr hb9r) p hpR
            have hvp : valB (plOf acc) rs[p].k rs[p].n rs[p].s = true := List.all_eq_true.1 HAll.out _ (List.getElem_mem hpr)
            have hrp := HRen.out p hpr hpR
            generalize rs[p] = x at *
            generalize R'[p] = y at *
            obtain ⟨xk, xn, xs⟩ := x
            obtain ⟨yk, yn, ys⟩ := y
            dsimp only at c0 c1 c2 d0 d1 d2 hvp
            have HAl := hid (fun w' (h : Below wr.heap.size wr w') => (by
              have h9 := hb9r.trans (h.mono (by omega))
              have hz := h.size
              have k := alike_any HTw.out HWf.out Hwg.out 6 (by omega) w' w'.heap.size a L cap a1 n1 cap1 ⟨xk, xn, xs⟩ ⟨yk, yn, ys⟩ ((HW5.out.below (HW59.out w' h9)).mono (by have := (HW59.out w' h9).size; omega)) (HWg9.out w' h9) (Nat.le_refl _) HL.out Hn1.out hcap hc1 hvp hrp
              rw [show ((6 : Nat) : Int) = 6 from rfl] at k
              exact k.mono (fun e w'' h' => ⟨h'.1, h.trans (h'.2.mono hz)⟩) : Calls Try.prog 24 #[.agg #[.slice a L cap, .int .i64 600], .agg #[.int .i64 xk, .int .i64 xn, .string xs], .agg #[.slice a1 n1 cap1, .int .i64 600], .agg #[.int .i64 yk, .int .i64 yn, .string ys], .int .i64 6] w' fun e w'' => e = .returned (.bool true) ∧ Below wr.heap.size wr w''))
            have hbqr : bq < wr.heap.size := by have := hb5r.size; omega
            have l3r : w3.heap.size < wr.heap.size := by omega
            have l6r : w6.heap.size < wr.heap.size := by omega
            have HS := hid (fun w' (h : Below wr.heap.size wr w') => (⟨(h.cell (p := ⟨w3.heap.size, 0, none⟩) l3r).trans x0, (h.cell (p := ⟨w3.heap.size, 1, none⟩) l3r).trans x1', (h.cell (p := ⟨w6.heap.size, 0, none⟩) l6r).trans g0, (h.cell (p := ⟨w6.heap.size, 1, none⟩) l6r).trans g1, (h.cell (p := ⟨bq, _, none⟩) hbqr).trans c0, (h.cell (p := ⟨bq, _, none⟩) hbqr).trans c1, (h.cell (p := ⟨bq, _, none⟩) hbqr).trans c2, (h.cell (p := ⟨bx, _, none⟩) hbx).trans d0, (h.cell (p := ⟨bx, _, none⟩) hbx).trans d1, (h.cell (p := ⟨bx, _, none⟩) hbx).trans d2⟩ : w'.cell? ⟨w3.heap.size, 0, none⟩ = some (.slice a L cap) ∧ w'.cell? ⟨w3.heap.size, 1, none⟩ = some (.int .i64 600) ∧ w'.cell? ⟨w6.heap.size, 0, none⟩ = some (.slice a1 n1 cap1) ∧ w'.cell? ⟨w6.heap.size, 1, none⟩ = some (.int .i64 600) ∧ w'.cell? ⟨bq, oq + p * 3, none⟩ = some (.int .i64 xk) ∧ w'.cell? ⟨bq, oq + p * 3 + 1, none⟩ = some (.int .i64 xn) ∧ w'.cell? ⟨bq, oq + p * 3 + 2, none⟩ = some (.string xs) ∧ w'.cell? ⟨bx, ox + p * 3, none⟩ = some (.int .i64 yk) ∧ w'.cell? ⟨bx, ox + p * 3 + 1, none⟩ = some (.int .i64 yn) ∧ w'.cell? ⟨bx, ox + p * 3 + 2, none⟩ = some (.string ys)))
            have HBr := hid hbr
            clear hbr hb9r hb5r hvp hrp
            go_wp2_with fail
            go_upto_region 14 with fail
            go_region_held3 (fun w' => w'.cell? ⟨w3.heap.size, 0, none⟩ = some (.slice a L cap) ∧ w'.cell? ⟨w3.heap.size, 1, none⟩ = some (.int .i64 600) ∧ w'.cell? ⟨w6.heap.size, 0, none⟩ = some (.slice a1 n1 cap1) ∧ w'.cell? ⟨w6.heap.size, 1, none⟩ = some (.int .i64 600) ∧ w'.cell? ⟨bq, oq + p * 3, none⟩ = some (.int .i64 xk) ∧ w'.cell? ⟨bq, oq + p * 3 + 1, none⟩ = some (.int .i64 xn) ∧ w'.cell? ⟨bq, oq + p * 3 + 2, none⟩ = some (.string xs) ∧ w'.cell? ⟨bx, ox + p * 3, none⟩ = some (.int .i64 yk) ∧ w'.cell? ⟨bx, ox + p * 3 + 1, none⟩ = some (.int .i64 yn) ∧ w'.cell? ⟨bx, ox + p * 3 + 2, none⟩ = some (.string ys))
              ((refine HS.out _ ?_; first | assumption | exact bdrew (Below.refl _ _) 1 | exact Below.refl _ _))
              (first
              | (go_at_call 24; refine (HAl.out _ (by first | exact bdrew (Below.refl _ _) 1 | exact Below.refl _ _)).mono ?_; rintro e w13 ⟨rfl, hb13⟩))
            all_goals
              have HBa := hid (HBr.out.trans (hb13.mono hzr))
              clear hb13 x0 x1' g0 g1 c0 c1 c2 d0 d1 d2
              go_wp2_with fail
              go_roundw
              case rel => exact ⟨p + 1, by omega, by go_num, HBa.out⟩
              case measure => simp [intOf]; omega
          · have hpq2 : ¬ (p : Int) < q := by omega
            have HFi := hid (HB5.out.trans ((HW59.out wr hb9r).mono hzw5))
            clear hbr hb9r
            go_wp2_with fail
            go_ret
            exact ⟨rfl, HFi.out⟩
set_option maxRecDepth 100000 in
theorem collectKeeps_lifted (os : Os) (started : os.Started) (H : Type) (enc : TypeId × Value → H) :
    ReturnsInHanded {} Try.checked os 6 .any (Rows.collectKeepsSpec.pre6 enc Try.prog Try.f6 Rows.collectKeepsRow.domain false) (Rows.collectKeepsSpec.post enc Try.prog Try.f6 false true false false) := by
  refine returnsInHanded_of_change_sized (C := Try.checked) own started (by kernel_rfl) Try.func6
    (ChangeSpec.witness6 (enc := enc) (C := Try.checked) false ⟨#[], #[.slice none 0 0, .slice none 0 0], []⟩ 8 (by kernel_rfl) (by kernel_rfl) (by kernel_rfl) (by kernel_rfl)) ?_
  intro W base args ds gs before hval0 hW hcnd hsz0 _
  have hval : ∀ (j : Nat) t v, Try.f6.params[j]? = some t → args[j]? = some v → Value.okWide Try.prog W .any base t v := hval0
  have hsz : (DataW.weightsEach Try.prog (Try.f6.params.toList ++ Rows.collectKeepsSpec.plain.varTypes Try.prog) (ds ++ gs)).all (· ≤ reachBytes) = true := hsz0
  have hW' := hW
  obtain ⟨p, q, hA0, hV, rfl, hfz, hnd⟩ := hW
  have hA : DataW.TrodAll enc Try.prog W 0 (fun _ => true) true Try.f6.params.toList args.toList ds p := hA0
  rw [Try.params6] at hA hval hsz
  obtain ⟨v0, vs0, d0, ds0, p0, q0, hargs0, rfl, rfl, h0, r0⟩ := trodAll_cons hA
  obtain ⟨v1, vs1, d1, ds1, p1, q1, hargs1, rfl, rfl, h1, r1⟩ := trodAll_cons r0
  obtain ⟨rfl, rfl, rfl⟩ := trodAll_nil r1
  obtain rfl : args = #[v0, v1] := by cases args; simp_all
  obtain ⟨rfl, rfl⟩ := trodVars_none hV
  have k0 := h0
  have lt0 : ∀ x ∈ p0, x.block < W.heap.size := by obtain ⟨m, hm⟩ := k0; exact DataW.trod_lt m _ _ _ hm
  obtain ⟨a0, cap0, R0, rfl, gm0, hRw0⟩ := raws_in (hval 0 33 v0 rfl rfl) h0
  have k1 := h1
  have lt1 : ∀ x ∈ p1, x.block < W.heap.size := by obtain ⟨m, hm⟩ := k1; exact DataW.trod_lt m _ _ _ hm
  obtain ⟨a1, cap1, I1, rfl, gm1, hIs1⟩ := ints_in (hval 1 50 v1 rfl rfl) h1
  clear hA0 hval0 hsz0 hsz
  refine (keeps_walk a0 R0 R0.length cap0 a1 I1 I1.length cap1 W rfl gm0 hRw0 rfl gm1 hIs1).mono fun e W' ⟨he, bel⟩ => ?_
  subst he
  exact ⟨_, rfl, _, _, _, [], _, [], hW', trodAll_mk1 (shut_bool Try.underlying4 _), (trodAll_cons_mk (Below.trod laidOut (by kernel_rfl) (of_decide_eq_true (by kernel_rfl)) k0 bel lt0) (trodAll_cons_mk (Below.trod laidOut (by kernel_rfl) (of_decide_eq_true (by kernel_rfl)) k1 bel lt1) trodAll_mk0)), rfl, bel.frame _, fun h => by cases h⟩
theorem collectKeeps_holds : Rows.CollectKeepsSaid :=
  OpenClaim.holds_of_wide 6 Try.f6 rfl rfl rfl rfl rfl rfl rfl ⟨rfl, rfl, rfl, rfl, rfl⟩ rfl rfl rfl rfl rfl (by kernel_rfl) Try.func6 (by kernel_rfl)
    (of_decide_eq_true (by kernel_rfl)) (by unfold Func.isWrapper; first | (rw [if_pos (by decide +kernel)]; kernel_rfl) | (rw [if_neg (by decide +kernel)]; exact ⟨rfl, rfl⟩))
    (fun os started H enc _ => collectKeeps_lifted os started H enc)
#print axioms collectKeeps_holds
end Go.Proofs.Ytfjfobpdlmdddaa

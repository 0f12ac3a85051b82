/- What was moved is found where it is now, however often it was moved, and a collection leaves the old out: MoveFinds returns true for all raw things and numbers that can be read, and leaves them as they were. No condition. -/
import Derived.Test.YtghaididbhjpaaaRows
import Derived.Test.YtghaididbhjpaaaHMvR
import Derived.Deep.QuietTactic
import Derived.BigQuiet
namespace Go.Proofs.Ytghaididbhjpaaa
set_option maxRecDepth 100000
open Go.ChangeShapes Go.WideShapes Go.ChangeAt Go.RowKit
set_option maxHeartbeats 4000000 in
theorem moves_walk (ar : Option Addr) (R : List Rw4) (nr cr : Nat) (n : Int) (w : World) (hnr : nr = R.length) (hnb : nr ≤ 9223372036854775807) (hR : RawS w w.heap.size ar R) (hn0 : wfI n) :
    Calls Try.prog 3 #[.slice ar nr cr, .int .i64 n] w fun e w' => e = .returned (.bool true) ∧ Below w.heap.size w w' := by
  have hn := i64_of hn0
  have hmf : ∀ (fn : Fn) (first cap : Array Value) (w : World), (Instr.makeFunc fn first cap).run Try.prog w = .ok (.func fn first cap) w := fun _ _ _ _ => rfl
  have HC := hid (built_any w w.heap.size ar nr cr R 15 hR (Nat.le_refl _) hnr hnb (by omega))
  obtain ⟨hq0, hq1⟩ := pick_range n 6 (by omega)
  have HPk := hid (fun w' => picked_any n 6 w' hn.1 hn.2 (by omega) (by omega))
  obtain ⟨pq, hpq⟩ := Int.eq_ofNat_of_zero_le hq0
  rw [hpq] at HPk hq1
  obtain ⟨K, hK⟩ : ∃ K, K = pq + 1 := ⟨_, rfl⟩
  have hKe : (1 : Int) + (pq : Int) = (K : Int) := by omega
  have hK7 : (K : Int) ≤ 6 := by omega
  have hK0 : 0 < K := by omega
  clear hR hnr hnb hq0 hq1 hpq hK hn0 hn
  have jK : IntKind.i64.wrap (K : Int) = (K : Int) := by simp [IntKind.wrap, IntKind.bits, IntKind.signed]; omega
  go_enter Try.func3, Try.ntmps3
  go_wp2_with fail
  have hcall := HC.out
  rw [show ((15 : Nat) : Int) = 15 from rfl] at hcall
  go_fit hcall
  clear hcall
  rintro e w3 ⟨l, M, a, cap, am, capm, rfl, hmade, hcap, hW, hWm, hwf, hwfM, h2, h40, hcapm, h5, hb3⟩
  obtain ⟨acc, ms, hok, hno, hval, _⟩ := hmade
  have hz3 := hb3.size
  obtain ⟨L, hL⟩ : ∃ L, L = l.length := ⟨_, rfl⟩
  obtain ⟨mL, hmL⟩ : ∃ mL, mL = M.length := ⟨_, rfl⟩
  have hL4 : L ≤ 400 := by omega
  have HL := hid hL
  have HmL := hid hmL
  rw [← hmL, ← hL]
  rw [← hL] at hcap h5
  rw [← hmL] at h2 h40 hcapm h5
  obtain ⟨hb, hhb⟩ : ∃ hb, hb = w3.heap.size := ⟨_, rfl⟩
  obtain ⟨w5, hw5⟩ : ∃ w5, w5 = (w3.alloc (.cells #[.slice a L cap, .int .i64 600] 25)).alloc (.cells #[.slice am mL capm] 23) := ⟨_, rfl⟩
  have hb5 : Below w3.heap.size w3 w5 := by rw [hw5]; exact below_2 _ _ _
  have hz5 : w5.heap.size = hb + 2 := by rw [hw5, hhb]; simp
  have hWm5 := hWm.below hb5
  have hS5 : MvW w5 w5 hb l := by
    refine ⟨Below.refl _ _, rfl, ⟨a, cap, by rw [hw5, hhb, ← hL]; go_simp, by rw [← hL]; exact hcap, (hW.below hb5).mono (by omega), fun A hA hl => ?_⟩, by rw [hw5, hhb]; go_simp, by rw [hw5, hhb]; go_simp, by rw [hw5, hhb]; go_simp, by omega⟩
    have := hW.block_lt hl hA
    omega
  have hgm : w5.cell? ⟨hb + 1, 0, none⟩ = some (.slice am mL capm) := by rw [hw5, hhb]; go_simp
  have hbw : hb + 1 < w5.heap.size := by omega
  have HBw5 := hid (hb3.trans (hb5.mono hz3))
  have HRc := hid (fun (wx : World) (l' : List Wd) (h : MvW w5 wx hb l') (w' : World) (hw' : Below wx.heap.size wx w') (k : Int) (hk0 : 0 ≤ k) (hk1 : k ≤ 10) => (by
    have hz := hw'.size
    have hs := h.sz
    have hgx := (World.cell?_of_block (w := w5) (a := ⟨hb + 1, 0, none⟩) h.made).trans hgm
    exact (rec_any w' (hb + 1) am mL capm M k (by omega) ((hw'.cell (p := ⟨hb + 1, 0, none⟩) (by dsimp only; omega)).trans hgx) (((hWm5.below (by rw [← hhb]; exact h.bel)).below (hw'.mono (by omega))).mono (by omega)) HmL.out h2 (by omega) hk0 hk1).mono (fun e w'' ⟨v, g6, q1, q2, q3, q4⟩ => ⟨v, g6, q1, q2, hw'.trans (q3.mono hz), (hw'.trans (q3.mono hz)).size, q3, q4⟩) : Calls Try.prog 8 #[.int .i64 k, .pointer (some ⟨hb + 1, 0, none⟩)] w' fun e w'' => ∃ v g6, e = .returned (.slice (some ⟨g6, 0, none⟩) 4 4) ∧ v ∈ M ∧ Below wx.heap.size wx w'' ∧ wx.heap.size ≤ w''.heap.size ∧ Below w'.heap.size w' w'' ∧ Wds w'' w''.heap.size (some ⟨g6, 0, none⟩) (recw k v)))
  have HWv := hid (fun v (hv : v ∈ M) => (by
    obtain ⟨i, hi, rfl⟩ := List.getElem_of_mem hv
    exact ⟨hval _ hv, hwfM i hi⟩ : valB (plOf acc) v.k v.n v.s = true ∧ wfI v.n ∧ v.s.size ≤ 9223372036854775807))
  have HP0 := hid (fun (w' : World) (v : Wd) (g6 : Nat) (hw' : Below w5.heap.size w5 w') (hv : v ∈ M) (h6 : Wds w' w'.heap.size (some ⟨g6, 0, none⟩) (recw 0 v)) => (by
    have hz := hw'.size
    obtain ⟨a0, cap0, q1, q2, q3, _⟩ := (hS5.below hw').c0
    have q1' := (hw'.cell (p := ⟨hb, 0, none⟩) (by dsimp only; omega)).trans (show w5.cell? ⟨hb, 0, none⟩ = some (.slice a L cap) by rw [hw5, hhb]; go_simp)
    rw [q1'] at q1
    injection q1 with q1
    injection q1 with r1 r2 r3
    subst r1 r3
    refine (Put_any w' w'.heap.size a L cap l 600 (some ⟨g6, 0, none⟩) 4 4 (recw 0 v) q3 (Nat.le_refl _) HL.out hcap (by omega) hwf h6 rfl (wf_rec (by decide) (HWv.out v hv).2) (by omega)).mono (fun e w'' h => ?_)
    obtain ⟨l', lim', p, r, a1, cap1, e1, hpu, hc1, hW1, hB1, hN1⟩ := h
    obtain ⟨rfl, rfl, rfl, rfl⟩ := put_rec hok (by omega) (Int.le_refl _) (by omega) (HWv.out v hv).1 hpu
    rw [List.length_append, ← HL.out] at e1 hc1
    exact ⟨a1, cap1, e1, hc1, hw'.trans (hB1.mono hz), hW1, fun A hA => by have := hN1 A hA; omega⟩ : Calls Try.prog 10 #[.agg #[.slice a L cap, .int .i64 600], .slice (some ⟨g6, 0, none⟩) 4 4] w' fun e w'' => ∃ a1 cap1, e = .returned (.tuple #[.agg #[.slice a1 (L + 4) cap1, .int .i64 600], .int .i64 (L : Int), .int .i64 0]) ∧ L + 4 ≤ cap1 ∧ Below w5.heap.size w5 w'' ∧ Wds w'' w''.heap.size a1 (l ++ recw 0 v) ∧ ∀ A, a1 = some A → ¬ A.block = hb))
  have HFirst := hid (fun v (hv : v ∈ M) => (by rw [HL.out]; exact mvS_first hok hno (by omega) (HWv.out v hv).1 : MvS (l ++ recw 0 v) acc L 0))
  have HWf0 := hid (fun v (hv : v ∈ M) => wfL_app hwf (wf_rec (k := 0) (by decide) (HWv.out v hv).2))
  have HS5 := hid hS5
  have HK5 := hid (fun (w' : World) (hw' : Below w5.heap.size w5 w') => (⟨(hw'.cell (p := ⟨hb, 0, none⟩) (by dsimp only; omega)).trans (by rw [hw5, hhb]; go_simp), (hw'.cell (p := ⟨hb, 1, none⟩) (by dsimp only; omega)).trans (by rw [hw5, hhb]; go_simp), (hw'.frozen (p := ⟨hb, 0, none⟩) (by dsimp only; omega)).trans (by rw [hw5, hhb]; go_simp), (hw'.frozen (p := ⟨hb, 1, none⟩) (by dsimp only; omega)).trans (by rw [hw5, hhb]; go_simp)⟩ : w'.cell? ⟨hb, 0, none⟩ = some (.slice a L cap) ∧ w'.cell? ⟨hb, 1, none⟩ = some (.int .i64 600) ∧ w'.frozen? ⟨hb, 0, none⟩ = false ∧ w'.frozen? ⟨hb, 1, none⟩ = false))
  obtain ⟨s0, s1, t0, t1⟩ := HK5.out w5 (Below.refl _ _)
  have H5 := hid hw5
  have HHb := hid hhb
  have HNew := hid (fun (w' : World) (a1 : Option Addr) (hw' : Below w5.heap.size w5 w') (hN : NewAt w'.heap.size a1) A (hA : a1 = some A) => (by have := hN A hA; have := hw'.size; omega : ¬ A.block = hb))
  clear hok hno hval hW hWm hWm5 hwf hwfM hL hmL hw5 hb5 hb3 hS5 hhb
  go_wp2_with fail
  go_upto_region 3 with fail
  rw [← H5.out]
  rw [← HHb.out]
  go_cut [8, 9] (fun z8 z9 wx => ∃ v l1, v ∈ M ∧ l1 = l ++ recw 0 v ∧ z8 = .int .i64 (L : Int) ∧ z9 = .int .i64 0 ∧ MvW w5 wx hb l1)
  case first =>
    go_region_with (first
      | (go_at_call 8; refine (HRc.out w5 l HS5.out _ (by first | exact bdrew (Below.refl _ _) 1 | exact Below.refl _ _) 0 (by omega) (by omega)).mono ?_; rintro e w6 ⟨v, g6, rfl, hv, hb6, hz6, _, hW6⟩; obtain ⟨c0, c1, e0, e1⟩ := HK5.out _ hb6)
      | (go_at_call 10; refine (HP0.out _ v g6 (by first | exact hb6 | exact bdrew hb6 1) hv (by first | exact hW6 | exact hW6.below (bdrew (Below.refl _ _) 1))).mono ?_; rintro e w7 ⟨a1, cap1, rfl, hc7, hb7, hW7, hN7⟩; obtain ⟨d0, d1, g0, g1⟩ := HK5.out _ hb7))
    all_goals (go_wp2_with fail; go_meet)
    all_goals exact ⟨v, _, hv, rfl, rfl, rfl, (HS5.out.below hb7).set hW7 hc7 (by rw [List.length_append, ← HL.out]; rfl) hN7⟩
  case rest =>
    obtain ⟨wa, rfl⟩ : ∃ wa, wa = wc := ⟨_, rfl⟩
    obtain ⟨v0, l1, hv0, hl1, rfl, rfl, hS⟩ := hcut
    have HM0 := hid (by rw [hl1]; exact HFirst.out v0 hv0 : MvS l1 acc L 0)
    have HWf1 := hid (by rw [hl1]; exact HWf0.out v0 hv0 : wfL l1)
    have HSa := hid hS
    clear hl1 hS HP0 HFirst HWf0 HK5 s0 s1 t0 t1 hgm
    go_wp2_with fail
    have hcall := HPk.out wa
    go_fit hcall
    clear hcall
    rintro e w0 ⟨rfl, h0⟩; subst w0
    go_wp2_with fail
    go_loopw [10, 12] (fun z10 z12 wr => ∃ (i at0 i1 : Nat) (l' : List Wd), i ≤ K ∧ Hid (at0 = L + 4 * i) ∧ Hid (i1 = i + 1) ∧ z10 = .int .i64 (at0 : Int) ∧ z12 = .int .i64 (i1 : Int) ∧ MvS l' acc L i ∧ wfL l' ∧ MvW w5 wr hb l') (fun _ z12 _ => K + 1 - (intOf z12).toNat)
    case atStart => exact ⟨0, L, 1, l1, Nat.zero_le _, rfl, rfl, rfl, rfl, HM0.out, HWf1.out, HSa.out⟩
    case round =>
      obtain ⟨i, at0, i1, l', hiK, HAt, HI1, rfl, rfl, hS', hwf', hW'⟩ := hrel
      obtain ⟨a', cap', c0, hcp, hWd, hfar⟩ := hW'.c0
      have c1 := hW'.c1
      have d0 := hW'.f0
      have d1 := hW'.f1
      have hsz := hW'.sz
      obtain ⟨nl, hnl⟩ : ∃ nl, nl = L + 4 * i + 4 := ⟨_, rfl⟩
      have hlen := hS'.len
      rw [hlen, ← hnl] at c0 hcp
      have HNl := hid hnl
      have HLen := hid hlen
      have HSi := hid hS'
      have HWi := hid hW'
      have HWfi := hid hwf'
      have HWdi := hid hWd
      have hhl : hb < wr.heap.size := by omega
      by_cases hlt : i < K
      · have hle1 : (i1 : Int) ≤ (K : Int) := by have := HI1.out; omega
        have hi11 : i1 ≤ 10 := by have := HI1.out; omega
        have hi10 : i < 10 := by omega
        have HRi := hid (fun (w' : World) (hw' : Below wr.heap.size wr w') => HRc.out wr l' HWi.out w' hw' (i1 : Int) (by omega) (by omega))
        have HPi := hid (fun (w' : World) (v : Wd) (g6 : Nat) (hw' : Below wr.heap.size wr w') (hv : v ∈ M) (h6 : Wds w' w'.heap.size (some ⟨g6, 0, none⟩) (recw (i1 : Int) v)) => (by
          have hz := hw'.size
          obtain ⟨ms2, hok2⟩ := HSi.out.ok
          refine (Put_any w' w'.heap.size a' nl cap' l' 600 (some ⟨g6, 0, none⟩) 4 4 (recw (i1 : Int) v) ((HWdi.out.below hw').mono hz) (Nat.le_refl _) (by rw [HNl.out, HLen.out]) hcp (by have := HNl.out; omega) HWfi.out h6 rfl (wf_rec (wfI_nat (by omega)) (HWv.out v hv).2) (by omega)).mono (fun e w'' h => ?_)
          obtain ⟨l2, lim', p, r, a1, cap1, e1, hpu, hc1, hW1, hB1, hN1⟩ := h
          obtain ⟨rfl, rfl, rfl, rfl⟩ := put_rec hok2 (by have := HLen.out; omega) (by omega) (by omega) (valB_mvA (HWv.out v hv).1 _) hpu
          rw [List.length_append, HLen.out, ← HNl.out] at e1
          rw [List.length_append, HLen.out, ← HNl.out] at hc1
          exact ⟨a1, cap1, e1, hc1, hw'.trans (hB1.mono hz), (hw'.trans (hB1.mono hz)).size, hB1, hW1, hN1⟩ : Calls Try.prog 10 #[.agg #[.slice a' nl cap', .int .i64 600], .slice (some ⟨g6, 0, none⟩) 4 4] w' fun e w'' => ∃ a1 cap1, e = .returned (.tuple #[.agg #[.slice a1 (nl + 4) cap1, .int .i64 600], .int .i64 (nl : Int), .int .i64 0]) ∧ nl + 4 ≤ cap1 ∧ Below wr.heap.size wr w'' ∧ wr.heap.size ≤ w''.heap.size ∧ Below w'.heap.size w' w'' ∧ Wds w'' w''.heap.size a1 (l' ++ recw (i1 : Int) v) ∧ NewAt w'.heap.size a1))
        have HS := hid (fun w' (hb' : Below wr.heap.size wr w') => (⟨(hb'.cell (p := ⟨hb, 0, none⟩) hhl).trans c0, (hb'.cell (p := ⟨hb, 1, none⟩) hhl).trans c1⟩ : w'.cell? ⟨hb, 0, none⟩ = some (.slice a' nl cap') ∧ w'.cell? ⟨hb, 1, none⟩ = some (.int .i64 600)))
        clear hS' hW' hWd hwf' hlen hnl hfar c0 c1 d0 d1
        go_wp2_with fail
        go_upto_region 9 with fail
        go_cut [13, 14, 15] (fun z13 z14 z15 wx => ∃ g v a1 cap1 l2, v ∈ M ∧ l2 = l' ++ recw (i1 : Int) v ∧ z13 = .pointer (some ⟨g, 0, none⟩) ∧ z14 = .int .i64 (nl : Int) ∧ z15 = .int .i64 0 ∧ nl + 4 ≤ cap1 ∧ PutG wr wx g a1 cap1 (nl + 4) l2)
        case first =>
          go_region_held3 (fun w' => w'.cell? ⟨hb, 0, none⟩ = some (.slice a' nl cap') ∧ w'.cell? ⟨hb, 1, none⟩ = some (.int .i64 600))
            ((refine HS.out _ ?_; first | assumption | (repeat (first | exact bdrew (Below.refl _ _) 1 | exact bdrew ((Below.refl _ _).alloc (Nat.le_refl _) _) 1 | assumption | refine below_set2s ?_ (by first | exact Nat.le_refl _ | assumption | (simp; done) | (simp; omega)) | refine Below.alloc ?_ (by first | exact Nat.le_refl _ | assumption | (simp; omega)) _))))
            (first
            | (go_at_call 8; refine (HRi.out _ (by first | exact bdrew (Below.refl _ _) 1 | exact bdrew ((Below.refl _ _).alloc (Nat.le_refl _) _) 1)).mono ?_; rintro e w6 ⟨v, g6, rfl, hv, hb6, hz6, hbx6, hW6⟩; first | (have bx := bx_one (u0 := .slice none 0 0) (u1 := .int .i64 0) hbx6; obtain ⟨⟨b0, b1⟩, ⟨e0, e1⟩, bl⟩ := bx) | skip)
            | (go_at_call 10; refine (HPi.out _ v g6 (by first | exact hb6 | exact hb6.alloc hz6 _) hv (by first | exact hW6 | exact (hW6.below ((Below.refl _ _).alloc (Nat.le_refl _) _)).mono (by simp))).mono ?_; rintro e w7 ⟨a1, cap1, rfl, hc7, hb7, hz7, hbx7, hW7, hN7⟩; first | (have bx := bx_plain (u0 := .slice none 0 0) (u1 := .int .i64 0) hbx7; obtain ⟨⟨b0, b1⟩, ⟨e0, e1⟩, bl⟩ := bx) | (have bx := bx_carry b0 b1 e0 e1 bl hbx7; clear b0 b1 e0 e1; obtain ⟨⟨b0, b1⟩, ⟨e0, e1⟩, bl7⟩ := bx) | skip))
          all_goals (go_wp2_with fail; go_meet)
          all_goals first
            | exact ⟨_, v, a1, cap1, _, hv, rfl, rfl, rfl, rfl, hc7, putG_alloc hb7 hW7⟩
            | exact ⟨_, v, a1, cap1, _, hv, rfl, rfl, rfl, rfl, hc7, putG_set hb7 hW7 hN7 (by simp) bl (by omega) b0 b1 e0 e1⟩
            | exact ⟨_, v, a1, cap1, _, hv, rfl, rfl, rfl, rfl, hc7, putG_set hb7 hW7 hN7 bl bl7 (Nat.le_refl _) b0 b1 e0 e1⟩
        case rest =>
          obtain ⟨wb, rfl⟩ : ∃ wb, wb = wc := ⟨_, rfl⟩
          obtain ⟨g, v, a1, cap1, l2, hv, hl2, rfl, rfl, rfl, hc1, hG⟩ := hcut
          have g0 := hG.c0
          have g1 := hG.c1
          have hgl := hG.glt
          have hgg := hG.gge
          have hzb := hG.bel.size
          have HG := hid hG
          have HMv := hid (by
            have hll : nl + 4 = l2.length := by rw [hl2, List.length_append, HLen.out, ← HNl.out]; rfl
            have hwf2 : wfL l2 := by rw [hl2]; exact wfL_app HWfi.out (wf_rec (wfI_nat (by omega)) (HWv.out v hv).2)
            refine (Move_anyN wb wb.heap.size a1 (nl + 4) cap1 l2 600 (at0 : Int) (nl : Int) hG.wds (Nat.le_refl _) hll hc1 (by have := HNl.out; omega) hwf2 (wfI_nat (by have := HAt.out; omega)) (wfI_nat (by have := HNl.out; omega))).mono (fun e w'' h => ?_)
            obtain ⟨l3, lim', r, a9, cap9, e1, hm, hc9, hW9, hB9, hN9⟩ := h
            rw [hl2, HI1.out, HAt.out, HNl.out] at hm
            obtain ⟨m1, rfl, rfl, m4⟩ := HSi.out.move hi10 hL4 (HWv.out v hv).1 hm
            have hl3 : l3.length = nl + 4 := by rw [m1.len, HNl.out]; omega
            rw [hl3] at e1 hc9
            exact ⟨l3, a9, cap9, e1, ⟨m1, by rw [m4, ← HI1.out, ← hl2]; exact wfL_leave hwf2 (wfI_nat (by omega))⟩, hc9, hW9, hB9, hN9⟩ : Calls Try.prog 11 #[.agg #[.slice a1 (nl + 4) cap1, .int .i64 600], .int .i64 (at0 : Int), .int .i64 (nl : Int)] wb fun e w'' => ∃ l3 a9 cap9, e = .returned (.tuple #[.agg #[.slice a9 (nl + 4) cap9, .int .i64 600], .int .i64 0]) ∧ Hid (MvS l3 acc L (i + 1) ∧ wfL l3) ∧ nl + 4 ≤ cap9 ∧ Wds w'' w''.heap.size a9 l3 ∧ Below wb.heap.size wb w'' ∧ NewAt wb.heap.size a9)
          clear hG hl2 HS HPi HRi
          go_wp2_with fail
          have hcall := HMv.out
          go_fit hcall
          clear hcall g0 g1
          rintro e w8 ⟨l3, a9, cap9, rfl, hM3, hc9, hW9, hB9, hN9⟩
          have hz8 := hB9.size
          have g0 := (hB9.cell (p := ⟨g, 0, none⟩) hgl).trans HG.out.c0
          have g1 := (hB9.cell (p := ⟨g, 1, none⟩) hgl).trans HG.out.c1
          have q0 := (hB9.frozen (p := ⟨g, 0, none⟩) hgl).trans HG.out.f0
          have q1 := (hB9.frozen (p := ⟨g, 1, none⟩) hgl).trans HG.out.f1
          have hW8 := (HWi.out.below HG.out.bel).below hB9
          obtain ⟨_, _, k0, _⟩ := hW8.c0
          have k1 := hW8.c1
          have p0 := hW8.f0
          have p1 := hW8.f1
          have hne : ¬ g = hb := by omega
          have hne2 : ¬ hb = g := by omega
          have HEnd := hid (hW8.set2 (g := g) (by omega) hW9 hc9 (by rw [hM3.out.1.len, HNl.out]; omega) (fun A hA => by have := hN9 A hA; omega))
          have HM3 := hid hM3
          clear hW8 hW9 hB9 hN9 hM3
          go_wp2_with fail
          go_roundw
          case rel => exact ⟨i + 1, nl, i1 + 1, l3, by omega, by have := HNl.out; exact (by omega : nl = L + 4 * (i + 1)), by have := HI1.out; exact (by omega : i1 + 1 = i + 1 + 1), rfl, by go_num, HM3.out.out.1, HM3.out.out.2, HEnd.out⟩
          case measure => have := HI1.out; simp [intOf]; omega
      · obtain rfl : K = i := by omega
        have hle1 : ¬ (i1 : Int) ≤ (K : Int) := by have := HI1.out; omega
        have HFd := hid (by
          refine (Find_any wr wr.heap.size a' nl cap' l' 600 5 (L : Int) ⟨#[]⟩ hWd (Nat.le_refl _) (by rw [hnl, hlen]) hcp (by omega) hwf' (wfI_nat (by omega)) (by decide)).mono (fun e w'' h => ?_)
          obtain ⟨k', n', s', r, e1, hf, hB⟩ := h
          obtain ⟨rfl, rfl, rfl, rfl⟩ := hS'.find hf
          rw [← HAt.out] at e1
          exact ⟨e1, hB⟩ : Calls Try.prog 12 #[.agg #[.slice a' nl cap', .int .i64 600], .agg #[.int .i64 5, .int .i64 (L : Int), .string ⟨#[]⟩]] wr fun e w'' => e = .returned (.tuple #[.agg #[.int .i64 5, .int .i64 (at0 : Int), .string ⟨#[]⟩], .int .i64 0]) ∧ Below wr.heap.size wr w'')
        have hbelw := hW'.bel
        have hwz : w.heap.size ≤ hb := by have := HHb.out; omega
        have HBr := hid (HBw5.out.trans (hbelw.mono (by omega)))
        have hnl5 : nl ≤ 500 := by omega
        have hHN : nl = l'.length := by rw [hnl, hlen]
        have HHN := hid hHN
        clear hS' hW' hWd hwf' hlen hnl hfar hbelw hHN
        go_wp2_with fail
        have hcall := HFd.out
        go_fit hcall
        clear hcall
        rintro e w9 ⟨rfl, hb9⟩
        have hz9 := hb9.size
        have y0 := (hb9.cell (p := ⟨hb, 0, none⟩) hhl).trans c0
        have y1 := (hb9.cell (p := ⟨hb, 1, none⟩) hhl).trans c1
        obtain ⟨w11, hw11⟩ : ∃ w11, w11 = (w9.alloc (.cells #[.int .i64 5, .int .i64 (at0 : Int), .string ⟨#[]⟩] 29)).alloc (.cells #[.int .i64 5, .int .i64 (L : Int), .string ⟨#[]⟩, .int .i64 5, .int .i64 (at0 : Int), .string ⟨#[]⟩] 29) := ⟨_, rfl⟩
        have hb11 : Below w9.heap.size w9 w11 := by rw [hw11]; exact below_2 _ _ _
        have hz11 : w11.heap.size = w9.heap.size + 2 := by rw [hw11]; simp
        have hX : Wds w11 w11.heap.size (some ⟨w9.heap.size + 1, 0, none⟩) [⟨5, (L : Int), ⟨#[]⟩⟩, ⟨5, (at0 : Int), ⟨#[]⟩⟩] := by
          have h := wds_two (w9.alloc (.cells #[.int .i64 5, .int .i64 (at0 : Int), .string ⟨#[]⟩] 29)) (L : Int) (at0 : Int) 29
          rw [← hw11] at h
          have e : (w9.alloc (.cells #[.int .i64 5, .int .i64 (at0 : Int), .string ⟨#[]⟩] 29)).heap.size = w9.heap.size + 1 := by simp
          rw [e] at h
          exact h.mono (by omega)
        have n0 : w11.cell? ⟨w9.heap.size, 0, none⟩ = some (.int .i64 5) := by rw [hw11]; go_simp
        have n1 : w11.cell? ⟨w9.heap.size, 1, none⟩ = some (.int .i64 (at0 : Int)) := by rw [hw11]; go_simp
        have n2 : w11.cell? ⟨w9.heap.size, 2, none⟩ = some (.string ⟨#[]⟩) := by rw [hw11]; go_simp
        have hbr11 := hb9.trans (hb11.mono hz9)
        have HWd11 := hid ((HWdi.out.below hbr11).mono (show wr.heap.size ≤ w11.heap.size by omega))
        have HCo := hid (by
          refine (Collect_any w11 w11.heap.size a' nl cap' l' 600 HWd11.out (Nat.le_refl _) HHN.out hcp (by omega) HWfi.out (some ⟨w9.heap.size + 1, 0, none⟩) 2 2 [⟨5, (L : Int), ⟨#[]⟩⟩, ⟨5, (at0 : Int), ⟨#[]⟩⟩] hX rfl (by omega) (wfL_cons ⟨wfI_nat (by omega), Nat.zero_le _⟩ (wfL_cons ⟨wfI_nat (by have := HAt.out; omega), Nat.zero_le _⟩ wfL_nil0))).mono (fun e w'' h => ?_)
          obtain ⟨l9, lim9, R9, r9, a9, cap9, x9, xcap9, e1, hco, _, hW9, hX9, hB9⟩ := h
          rw [HAt.out] at hco
          obtain ⟨rfl, rfl, hnum⟩ := HSi.out.coll HWfi.out hco
          obtain ⟨hl9, hnum2⟩ := List.getElem?_eq_some_iff.1 hnum
          obtain ⟨g9, o9, rfl, hg9, _, q1, _⟩ := hW9 1 hl9
          obtain ⟨gx, ox, rfl, hgx, p0, p1, p2⟩ := hX9 0 (by simp)
          obtain ⟨gx', ox', e', _, p3, p4, p5⟩ := hX9 1 (by simp)
          injection e' with e'; injection e' with e2 e3; subst e2 e3
          rw [hnum2] at q1
          simp only [List.getElem_cons_zero, List.getElem_cons_succ, Nat.zero_mul, Nat.add_zero, Nat.one_mul] at q1 p0 p1 p2 p3 p4 p5
          exact ⟨l9.length, lim9, g9, o9, cap9, gx, ox, xcap9, e1, hl9, hg9, q1, hgx, p0, p1, p2, p3, p4, p5, hB9⟩ : Calls Try.prog 13 #[.agg #[.slice a' nl cap', .int .i64 600], .slice (some ⟨w9.heap.size + 1, 0, none⟩) 2 2] w11 fun e w'' => ∃ n9 lim9 g9 o9 cap9 gx ox xcap9, e = .returned (.tuple #[.agg #[.slice (some ⟨g9, o9, none⟩) n9 cap9, .int .i64 lim9], .slice (some ⟨gx, ox, none⟩) 2 xcap9, .int .i64 0]) ∧ 1 < n9 ∧ g9 < w''.heap.size ∧ w''.cell? ⟨g9, o9 + 3 + 1, none⟩ = some (.int .i64 (K : Int)) ∧ gx < w''.heap.size ∧ w''.cell? ⟨gx, ox, none⟩ = some (.int .i64 5) ∧ w''.cell? ⟨gx, ox + 1, none⟩ = some (.int .i64 0) ∧ w''.cell? ⟨gx, ox + 2, none⟩ = some (.string ⟨#[]⟩) ∧ w''.cell? ⟨gx, ox + 3, none⟩ = some (.int .i64 5) ∧ w''.cell? ⟨gx, ox + 3 + 1, none⟩ = some (.int .i64 0) ∧ w''.cell? ⟨gx, ox + 3 + 2, none⟩ = some (.string ⟨#[]⟩) ∧ Below w11.heap.size w11 w'')
        have HB11 := hid (HBr.out.trans (hbr11.mono (by omega)))
        have Hbr11 := hid hbr11
        have H11 := hid hw11
        have hl9 : hb < w9.heap.size := by omega
        have HZ11 := hid hz11
        clear hX hw11 hb11 hb9 hbr11 hz11
        go_wp2_with fail
        rw [← H11.out]
        have hcall := HCo.out
        go_fit hcall
        clear hcall y0 y1
        rintro e w12 ⟨n9, lim9, g9, o9, cap9, gx, ox, xcap9, rfl, hn9, hg9, q1, hgx, p0, p1, p2, p3, p4, p5, hb12⟩
        have hz12 := hb12.size
        have hz11 := HZ11.out
        have hbr12 := Hbr11.out.trans (hb12.mono (by omega))
        have y0 := (hbr12.cell (p := ⟨hb, 0, none⟩) hhl).trans c0
        have y1 := (hbr12.cell (p := ⟨hb, 1, none⟩) hhl).trans c1
        have m0 := (hb12.cell (p := ⟨w9.heap.size, 0, none⟩) (by dsimp only; omega)).trans n0
        have m1 := (hb12.cell (p := ⟨w9.heap.size, 1, none⟩) (by dsimp only; omega)).trans n1
        have m2 := (hb12.cell (p := ⟨w9.heap.size, 2, none⟩) (by dsimp only; omega)).trans n2
        obtain ⟨w13, hw13⟩ : ∃ w13, w13 = w12.alloc (.cells #[.slice (some ⟨g9, o9, none⟩) n9 cap9, .int .i64 lim9] 25) := ⟨_, rfl⟩
        have hb13 : Below w12.heap.size w12 w13 := by rw [hw13]; exact (Below.refl _ _).alloc (Nat.le_refl _) _
        have hz13 : w13.heap.size = w12.heap.size + 1 := by rw [hw13]; simp
        have v0 : w13.cell? ⟨w12.heap.size, 0, none⟩ = some (.slice (some ⟨g9, o9, none⟩) n9 cap9) := by rw [hw13]; go_simp
        have HWd13 := hid ((HWdi.out.below (hbr12.trans (hb13.mono (by omega)))).mono (show wr.heap.size ≤ w13.heap.size by omega))
        have HMv := hid (by
          refine (Move_any w13 w13.heap.size a' nl cap' l' 600 (L : Int) (at0 : Int) HWd13.out (Nat.le_refl _) HHN.out hcp (by omega) HWfi.out (wfI_nat (by omega)) (wfI_nat (by have := HAt.out; omega))).mono (fun e w'' h => ?_)
          obtain ⟨l3, lim', r, a9, cap9, e1, hm, _, _, hB9⟩ := h
          obtain rfl := HSi.out.again hK0 hm
          exact ⟨l3.length, lim', a9, cap9, e1, hB9⟩ : Calls Try.prog 11 #[.agg #[.slice a' nl cap', .int .i64 600], .int .i64 (L : Int), .int .i64 (at0 : Int)] w13 fun e w'' => ∃ n3 lim' a3 cap3, e = .returned (.tuple #[.agg #[.slice a3 n3 cap3, .int .i64 lim'], .int .i64 3]) ∧ Below w13.heap.size w13 w'')
        have H13 := hid hw13
        have HB13 := hid (HBr.out.trans ((hbr12.trans (hb13.mono (by omega))).mono (by omega)))
        have hl12 : hb < w12.heap.size := by omega
        have HCells := hid (fun w14 (hb14 : Below w13.heap.size w13 w14) => (by
          have h := hb13.trans (hb14.mono (by omega))
          exact ⟨(h.cell (p := ⟨w9.heap.size, 0, none⟩) (by dsimp only; omega)).trans m0, (h.cell (p := ⟨w9.heap.size, 1, none⟩) (by dsimp only; omega)).trans m1, (h.cell (p := ⟨w9.heap.size, 2, none⟩) (by dsimp only; omega)).trans m2, (h.cell (p := ⟨g9, o9 + 3 + 1, none⟩) hg9).trans q1, (h.cell (p := ⟨gx, ox, none⟩) hgx).trans p0, (h.cell (p := ⟨gx, ox + 1, none⟩) hgx).trans p1, (h.cell (p := ⟨gx, ox + 2, none⟩) hgx).trans p2, (h.cell (p := ⟨gx, ox + 3, none⟩) hgx).trans p3, (h.cell (p := ⟨gx, ox + 3 + 1, none⟩) hgx).trans p4, (h.cell (p := ⟨gx, ox + 3 + 2, none⟩) hgx).trans p5, (hb14.cell (p := ⟨w12.heap.size, 0, none⟩) (by dsimp only; omega)).trans v0⟩ : w14.cell? ⟨w9.heap.size, 0, none⟩ = some (.int .i64 5) ∧ w14.cell? ⟨w9.heap.size, 1, none⟩ = some (.int .i64 (at0 : Int)) ∧ w14.cell? ⟨w9.heap.size, 2, none⟩ = some (.string ⟨#[]⟩) ∧ w14.cell? ⟨g9, o9 + 3 + 1, none⟩ = some (.int .i64 (K : Int)) ∧ w14.cell? ⟨gx, ox, none⟩ = some (.int .i64 5) ∧ w14.cell? ⟨gx, ox + 1, none⟩ = some (.int .i64 0) ∧ w14.cell? ⟨gx, ox + 2, none⟩ = some (.string ⟨#[]⟩) ∧ w14.cell? ⟨gx, ox + 3, none⟩ = some (.int .i64 5) ∧ w14.cell? ⟨gx, ox + 3 + 1, none⟩ = some (.int .i64 0) ∧ w14.cell? ⟨gx, ox + 3 + 2, none⟩ = some (.string ⟨#[]⟩) ∧ w14.cell? ⟨w12.heap.size, 0, none⟩ = some (.slice (some ⟨g9, o9, none⟩) n9 cap9)))
        have HZ := hid (show w9.heap.size < w13.heap.size ∧ g9 < w13.heap.size ∧ gx < w13.heap.size ∧ w12.heap.size < w13.heap.size ∧ w.heap.size ≤ w13.heap.size by omega)
        clear hb12 hbr12 hz11 hb13 hz13 hw13 v0 n0 n1 n2 m0 m1 m2 q1 p0 p1 p2 p3 p4 p5
        go_wp2_with fail
        rw [← H13.out]
        have hcall := HMv.out
        go_fit hcall
        clear hcall y0 y1
        rintro e w14 ⟨n3, lim3, a3, cap3, rfl, hb14⟩
        have hz14 := hb14.size
        obtain ⟨zz1, zz2, zz3, zz4, zz5⟩ := HZ.out
        obtain ⟨m0, m1, m2, q1, p0, p1, p2, p3, p4, p5, v0⟩ := HCells.out w14 hb14
        have l1' : w9.heap.size < w14.heap.size := by omega
        have l2' : g9 < w14.heap.size := by omega
        have l3' : gx < w14.heap.size := by omega
        have l4' : w12.heap.size < w14.heap.size := by omega
        have hn9i : (1 : Int) < n9 := by omega
        have HB14 := hid (HB13.out.trans (hb14.mono zz5))
        have hzw14 : w.heap.size ≤ w14.heap.size := by omega
        clear hb14
        go_wp2_with fail
        go_quiet (fail)
        go_wp2_with fail
        go_ret
        exact ⟨by simp, bdrew (HB14.out.alloc hzw14 _) _⟩
set_option maxRecDepth 100000 in
theorem moveFinds_lifted (os : Os) (started : os.Started) (H : Type) (enc : TypeId × Value → H) :
    ReturnsInHanded {} Try.checked os 3 .any (Rows.moveFindsSpec.pre6 enc Try.prog Try.f3 Rows.moveFindsRow.domain false) (Rows.moveFindsSpec.post enc Try.prog Try.f3 false true false false) := by
  refine returnsInHanded_of_change_sized (C := Try.checked) own started (by kernel_rfl) Try.func3
    (ChangeSpec.witness6 (enc := enc) (C := Try.checked) false ⟨#[], #[.slice none 0 0, .int .i64 0], []⟩ 8 (by kernel_rfl) (by kernel_rfl) (by kernel_rfl) (by kernel_rfl)) ?_
  intro W base args ds gs before hval0 hW hcnd hsz0 _
  have hval : ∀ (j : Nat) t v, Try.f3.params[j]? = some t → args[j]? = some v → Value.okWide Try.prog W .any base t v := hval0
  have hsz : (DataW.weightsEach Try.prog (Try.f3.params.toList ++ Rows.moveFindsSpec.plain.varTypes Try.prog) (ds ++ gs)).all (· ≤ reachBytes) = true := hsz0
  have hW' := hW
  obtain ⟨p, q, hA0, hV, rfl, hfz, hnd⟩ := hW
  have hA : DataW.TrodAll enc Try.prog W 0 (fun _ => true) true Try.f3.params.toList args.toList ds p := hA0
  rw [Try.params3] at hA hval hsz
  obtain ⟨v0, vs0, d0, ds0, p0, q0, hargs0, rfl, rfl, h0, r0⟩ := trodAll_cons hA
  obtain ⟨v1, vs1, d1, ds1, p1, q1, hargs1, rfl, rfl, h1, r1⟩ := trodAll_cons r0
  obtain ⟨rfl, rfl, rfl⟩ := trodAll_nil r1
  obtain rfl : args = #[v0, v1] := by cases args; simp_all
  obtain ⟨rfl, rfl⟩ := trodVars_none hV
  have k0 := h0
  have lt0 : ∀ x ∈ p0, x.block < W.heap.size := by obtain ⟨m, hm⟩ := k0; exact DataW.trod_lt m _ _ _ hm
  obtain ⟨a0, cap0, R0, rfl, gm0, hRw0⟩ := raws_in (hval 0 22 v0 rfl rfl) h0
  obtain ⟨i1, rfl, rfl, rfl, wn1⟩ := open_int Try.underlying3 (hval 1 3 v1 rfl rfl) h1
  clear hA0 hval0 hsz0 hsz
  refine (moves_walk a0 R0 R0.length cap0 i1 W rfl gm0 hRw0 wn1).mono fun e W' ⟨he, bel⟩ => ?_
  subst he
  exact ⟨_, rfl, _, _, _, [], _, [], hW', trodAll_mk1 (shut_bool Try.underlying4 _), (trodAll_cons_mk (Below.trod laidOut (by kernel_rfl) (of_decide_eq_true (by kernel_rfl)) k0 bel lt0) (trodAll_cons_mk (shut_int Try.underlying3 wn1) trodAll_mk0)), rfl, bel.frame _, fun h => by cases h⟩
theorem moveFinds_holds : Rows.MoveFindsSaid :=
  OpenClaim.holds_of_wide 3 Try.f3 rfl rfl rfl rfl rfl rfl rfl ⟨rfl, rfl, rfl, rfl, rfl⟩ rfl rfl rfl rfl rfl (by kernel_rfl) Try.func3 (by kernel_rfl)
    (of_decide_eq_true (by kernel_rfl)) (by unfold Func.isWrapper; first | (rw [if_pos (by decide +kernel)]; kernel_rfl) | (rw [if_neg (by decide +kernel)]; exact ⟨rfl, rfl⟩))
    (fun os started H enc _ => moveFinds_lifted os started H enc)
#print axioms moveFinds_holds
end Go.Proofs.Ytghaididbhjpaaa

/- A record that is moved: heap's leave. -/
import Derived.Test.YtghaididbhjpaaaHMoveP
namespace Go.Proofs.Ytghaididbhjpaaa
set_option maxRecDepth 100000
open Go.RowKit Go.Maps
set_option maxHeartbeats 2000000 in
theorem leave_any (w : World) (bb o len cap : Nat) (l : List Wd) (h f e : Nat) (b : Int) (hW : Wds w w.heap.size (some ⟨bb, o, none⟩) l) (hF : Free w (some ⟨bb, o, none⟩) l) (hlen : len = l.length) (hl : len ≤ 60000) (hhf : h + 1 < f) (hfe : f ≤ e) (hel : e ≤ len) :
    Calls Try.prog 26 #[.slice (some ⟨bb, o, none⟩) len cap, .agg #[.int .i64 h, .int .i64 f, .int .i64 e], .int .i64 b] w fun e' w' => e' = .returned (.tuple #[]) ∧ Wn w w' bb o (leaveL l h f e b) := by
  have HL := hid hlen
  have hq1 : h < l.length := by omega
  have hq2 : h + 1 < l.length := by omega
  clear hlen
  have hbb : bb < w.heap.size := hW.block_lt hq1 rfl
  obtain ⟨w1, hw1⟩ : ∃ w1, w1 = w.alloc (.cells #[.int .i64 h, .int .i64 f, .int .i64 e] 64) := ⟨_, rfl⟩
  obtain ⟨⟨t0, t1, t2⟩, _, hz1, hb1⟩ := box3 w _ _ _ _ w1 hw1
  have N1 : Wn w w1 bb o l := ⟨(hW.below hb1).mono (show w.heap.size ≤ w1.heap.size by omega), hF.kept (fun A hA => hb1.block _ (by injection hA with hA; subst hA; exact hbb)), Wr.of hb1 (by omega)⟩
  obtain ⟨w2, hw2⟩ : ∃ w2, w2 = ((w1.setCell ⟨bb, o + h * 3, none⟩ (.int .i64 10)).setCell ⟨bb, o + h * 3 + 1, none⟩ (.int .i64 b)).setCell ⟨bb, o + h * 3 + 2, none⟩ (.string ⟨#[]⟩) := ⟨_, rfl⟩
  obtain ⟨N2, hz2, k2⟩ := N1.put hq1 ⟨10, b, ⟨#[]⟩⟩ w2 hw2
  obtain ⟨w3, hw3⟩ : ∃ w3, w3 = ((w2.setCell ⟨bb, o + (h + 1) * 3, none⟩ (.int .i64 1)).setCell ⟨bb, o + (h + 1) * 3 + 1, none⟩ (.int .i64 0)).setCell ⟨bb, o + (h + 1) * 3 + 2, none⟩ (.string ⟨#[]⟩) := ⟨_, rfl⟩
  obtain ⟨N3, hz3, k3⟩ := N2.put (q := h + 1) (by simpa using hq2) ⟨1, 0, ⟨#[]⟩⟩ w3 hw3
  obtain ⟨⟨u0, u1, u2, c0, c1, c2⟩, d0, d1, d2⟩ := N1.at hq1
  obtain ⟨⟨u3, u4, u5, c3, c4, c5⟩, d3, d4, d5⟩ := N2.at (q := h + 1) (by simpa using hq2)
  have hne : ¬ w.heap.size = bb := by omega
  have T0 := (k2 w.heap.size 0 hne).trans t0
  have T1 := (k3 w.heap.size 1 hne).trans ((k2 w.heap.size 1 hne).trans t1)
  have T2 := (k3 w.heap.size 2 hne).trans ((k2 w.heap.size 2 hne).trans t2)
  have H1 := hid hw1
  have H2 := hid hw2
  have H3 := hid hw3
  have HN3 := hid N3
  have hlt1 : (h : Int) < len := by omega
  have hlt2 : (h : Int) + 1 < len := by omega
  clear hw1 hw2 hw3 N1 N2 N3 k2 k3 hW hF hb1 hz1 hz2 hz3
  go_enter Try.func26, Try.ntmps26
  go_upto_region 1 with fail
  rw [← H1.out]
  go_upto_region 2 with fail
  rw [← H2.out]
  go_upto_region 3 with fail
  rw [← H3.out]
  clear c0 c1 c2 d0 d1 d2 c3 c4 c5 d3 d4 d5 t0 t1 t2 T0
  go_wp2_with fail
  go_loopw [6] (fun i wr => ∃ k : Nat, k ≤ e - f ∧ i = .int .i64 ((f + k : Nat) : Int) ∧ Wn w wr bb o (nilN (headL l h b) f k) ∧ wr.cell? ⟨w.heap.size, 2, none⟩ = some (.int .i64 e)) (fun i _ => e - (intOf i).toNat)
  case atStart => exact ⟨0, Nat.zero_le _, rfl, HN3.out, T2⟩
  case round =>
    obtain ⟨k, hk, rfl, hN, hT⟩ := hrel
    clear T1 T2
    have HN := hid hN
    by_cases hlt : f + k < e
    · have hq : f + k < (nilN (headL l h b) f k).length := by rw [nilN_length, headL_length, ← HL.out]; omega
      obtain ⟨⟨u0, u1, u2, c0, c1, c2⟩, d0, d1, d2⟩ := hN.at hq
      obtain ⟨w4, hw4⟩ : ∃ w4, w4 = ((wr.setCell ⟨bb, o + (f + k) * 3, none⟩ (.int .i64 3)).setCell ⟨bb, o + (f + k) * 3 + 1, none⟩ (.int .i64 0)).setCell ⟨bb, o + (f + k) * 3 + 2, none⟩ (.string ⟨#[]⟩) := ⟨_, rfl⟩
      obtain ⟨N4, hz4, k4⟩ := hN.put hq nilW w4 hw4
      have HN4 := hid N4
      have T4 := hid ((k4 w.heap.size 2 hne).trans hT)
      have H4 := hid hw4
      obtain ⟨m, hm⟩ : ∃ m, m = f + k := ⟨_, rfl⟩
      have HM := hid hm
      rw [← hm] at c0 c1 c2 d0 d1 d2 H4 hlt ⊢
      have hlt3 : (m : Int) < e := by omega
      have hlt4 : (m : Int) < len := by omega
      clear hN hw4 N4 k4 hm hq hz4
      go_wp2_with fail
      rw [← H4.out]
      go_roundw
      case rel => exact ⟨k + 1, by have := HM.out; omega, by have := HM.out; go_num, HN4.out, T4.out⟩
      case measure => simp [intOf]; omega
    · have hk2 : e - f = k := by omega
      have HN5 := hid (show Wn w wr bb o (leaveL l h f e b) by unfold leaveL; rw [hk2]; exact hN)
      have hlt3 : ¬ ((f + k : Nat) : Int) < e := by omega
      generalize f + k = m at *
      clear hN hk2 HN
      go_wp2_with fail
      go_end0
      exact ⟨rfl, HN5.out⟩
end Go.Proofs.Ytghaididbhjpaaa

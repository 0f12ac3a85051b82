/- The document's EnvFault: P2.3. -/
import Derived.Test.YtgdeomdnpgedbabUEnv
namespace Go.Proofs.Ytgdeomdnpgedbab
open Go.RowKit Go.WideMaps Go.Maps
set_option maxHeartbeats 2000000 in
theorem EnvFault_any (W : World) (B : Nat) (ga sa : Option Addr) (gs : List ByteArray) (l : List Sh) (gl gc sl sc : Nat) (w : World) (hgl : gl = gs.length) (hsl : sl = l.length) (hg : gl ≤ 9223372036854775807) (hs : sl ≤ 9223372036854775807) (hgc : gl ≤ gc) (hsc : sl ≤ sc)
    (hB : Below B W w) (hBw : B ≤ w.heap.size) (hG : Strs W B ga gs) (hS : Shs W B sa l) :
    Calls Try.prog 9 #[.agg #[.slice ga gl gc, .slice sa sl sc]] w fun e w' => e = .returned (.int .i64 (envI gs l)) ∧ Below w.heap.size w w' := by
  have hb0 := hid ((Below.refl w.heap.size w).alloc (Nat.le_refl _) (.cells #[.slice ga gl gc, .slice sa sl sc] 30))
  have HG := hid hgl
  have HS := hid hsl
  clear hgl hsl
  by_cases hm1 : 40 < gl
  · have HE := hid (envI_many (gs := gs) (l := l) (Or.inl (by rw [← HG.out]; exact hm1)))
    have hm2 : (40 : Int) < gl := by omega
    go_enter Try.func9, Try.ntmps9
    go_wp2_with fail
    go_ret
    exact ⟨ret_int HE.out.symm, hb0.out⟩
  by_cases hm3 : 8 < sl
  · have HE := hid (envI_many (gs := gs) (l := l) (Or.inr (by rw [← HS.out]; exact hm3)))
    have hm2 : ¬ (40 : Int) < gl := by omega
    have hm4 : (8 : Int) < sl := by omega
    go_enter Try.func9, Try.ntmps9
    go_wp2_with fail
    go_ret
    exact ⟨ret_int HE.out.symm, hb0.out⟩
  have hno : Hid (¬ (40 < gs.length ∨ 8 < l.length)) := hid (by rw [← HG.out, ← HS.out]; omega)
  have hm2 : ¬ (40 : Int) < gl := by omega
  have hm4 : ¬ (8 : Int) < sl := by omega
  go_enter Try.func9, Try.ntmps9
  go_wp2_with fail
  go_loopw [3] (fun i wr => ∃ j : Nat, j ≤ gl ∧ i = .int .i64 j ∧ firstI (globI gs) 0 gs.length = firstI (globI gs) j (gs.length - j) ∧ Below (w.heap.size + 1) (w.alloc (.cells #[.slice ga gl gc, .slice sa sl sc] 30)) wr) (fun i _ => gl - (intOf i).toNat)
  case atStart => exact ⟨0, Nat.zero_le _, rfl, rfl, Below.refl _ _⟩
  case round =>
    obtain ⟨j, hj, rfl, hfi, hbr⟩ := hrel
    have HF := hid hfi
    have hBr := hid ((hB.trans (hb0.out.mono hBw)).trans (hbr.mono (by omega)))
    have hsz := hbr.size
    simp at hsz
    clear hfi
    obtain ⟨g2, g3⟩ := box22 hbr
    by_cases hlt : j < gl
    · have hj2 : j < gs.length := by rw [← HG.out]; exact hlt
      have hlt2 : (j : Int) < gl := by omega
      have hjc : j ≤ gc := by omega
      have hjc2 : (j : Int) ≤ gc := by omega
      obtain ⟨hss, b, o, rfl, hbB, hc⟩ := (hG.below hBr.out) j hj2
      have HX := hid (globI_at gs j hj2)
      have HSt := hid (firstI_step (globI gs) gs.length j hj2)
      have HT := hid (firstI_stop (globI gs) gs.length j hj2)
      have hss2 : gs[j].size ≤ 9223372036854775807 := by unfold maxLen at hss; omega
      have hS2 := hid (hG.below hBr.out)
      generalize hy : gs[j] = y at HX hc hss hss2
      clear hy
      cases hnm : freeB y.data.toList
      · have e4 := HX.out
        rw [if_pos hnm] at e4
        have HTT := hid (HT.out (by rw [e4]; decide))
        have HE := hid (envI_glob (l := l) hno.out (by rw [HF.out, HTT.out, e4]; decide))
        go_wp2_with (go_at_call 15; refine (freeName_any _ _ hss2).mono ?_; rintro e w2 ⟨rfl, hb2⟩)
        go_ret
        exact ⟨ret_int (by rw [HE.out, HF.out, HTT.out, e4]), hb0.out.trans ((hbr.mono (by omega)).trans (hb2.mono (by omega)))⟩
      · cases hcn : hasS (gs.take j) y
        · have e0 := HX.out
          rw [if_neg (by simp [hnm]), if_neg (by simp [hcn])] at e0
          have HSS := hid (HSt.out e0)
          clear e0 HX HSt HT
          have hcall := hid (fun (w' : World) (h : Strs w' B (some ⟨b, o, none⟩) gs) => isIn_any w' B _ gs j gc y h (by omega) (by omega))
          rw [hcn] at hcall
          go_wp2_with (go_at_call 15; refine (freeName_any _ _ hss2).mono ?_; rintro e w2 ⟨rfl, hb2⟩; have hbr2 := hid (hbr.trans (hb2.mono (by omega))); obtain ⟨x2, x3⟩ := box22 hbr2.out; have hc2 := (hb2.cell (p := ⟨b, o + j, none⟩) (by show b < _; omega)).trans hc; have hS3 := hid (hS2.out.below (hb2.mono (by omega))))
          go_quiet (first | (go_at_call 17; exact Calls.quiet_of_same (hcall.out _ (hS3.out.below (bdrew (Below.refl _ _) _)))))
          go_wp2
          go_roundw
          case rel => exact ⟨j + 1, by omega, by go_num, HF.out.trans HSS.out, bdrew hbr2.out _⟩
          case measure => simp [intOf]; omega
        · have e7 := HX.out
          rw [if_neg (by simp [hnm]), if_pos hcn] at e7
          have HTT := hid (HT.out (by rw [e7]; decide))
          have HE := hid (envI_glob (l := l) hno.out (by rw [HF.out, HTT.out, e7]; decide))
          clear HX HSt HT
          have hcall := hid (fun (w' : World) (h : Strs w' B (some ⟨b, o, none⟩) gs) => isIn_any w' B _ gs j gc y h (by omega) (by omega))
          rw [hcn] at hcall
          go_wp2_with (go_at_call 15; refine (freeName_any _ _ hss2).mono ?_; rintro e w2 ⟨rfl, hb2⟩; have hbr2 := hid (hbr.trans (hb2.mono (by omega))); obtain ⟨x2, x3⟩ := box22 hbr2.out; have hc2 := (hb2.cell (p := ⟨b, o + j, none⟩) (by show b < _; omega)).trans hc; have hS3 := hid (hS2.out.below (hb2.mono (by omega))))
          go_quiet (first | (go_at_call 17; exact Calls.quiet_of_same (hcall.out _ (hS3.out.below (bdrew (Below.refl _ _) _)))))
          go_wp2
          go_ret
          exact ⟨ret_int (by rw [HE.out, HF.out, HTT.out, e7]), hb0.out.trans (bdrew (hbr2.out.mono (by omega)) _)⟩
    · have HTT := hid (firstI_end (globI gs) gs.length j (by rw [← HG.out]; exact hlt))
      have HE := hid (envI_rec hno.out (HF.out.trans HTT.out))
      clear HF HTT hBr
      go_wp2_with fail
      go_loopw [4] (fun i wr => ∃ j : Nat, j ≤ sl ∧ i = .int .i64 j ∧ firstI (recI l) 0 l.length = firstI (recI l) j (l.length - j) ∧ Below (w.heap.size + 1) (w.alloc (.cells #[.slice ga gl gc, .slice sa sl sc] 30)) wr) (fun i _ => sl - (intOf i).toNat)
      case atStart => exact ⟨0, Nat.zero_le _, rfl, rfl, hbr⟩
      case round =>
        clear g2 g3 hbr hsz hlt hj
        obtain ⟨i, hi, rfl, hfi, hbr⟩ := hrel
        have HF := hid hfi
        have hBr := hid ((hB.trans (hb0.out.mono hBw)).trans (hbr.mono (by omega)))
        have hsz := hbr.size
        simp at hsz
        clear hfi
        obtain ⟨g2, g3⟩ := box22 hbr
        by_cases hlt : i < sl
        · have hj2 : i < l.length := by rw [← HS.out]; exact hlt
          have hlt2 : (i : Int) < sl := by omega
          have hjc : i ≤ sc := by omega
          have hjc2 : (i : Int) ≤ sc := by omega
          obtain ⟨b, o, rfl, hbB, c0, c1, hn1, hn2, hn3, hn4⟩ := (hS.below hBr.out) i hj2
          have HX := hid (recI_at l i hj2)
          have HSt := hid (firstI_step (recI l) l.length i hj2)
          have HT := hid (firstI_stop (recI l) l.length i hj2)
          generalize (l[i]'hj2).name = y at HX c0 hn1
          generalize (l[i]'hj2).adr = ya at c1 hn4
          generalize (l[i]'hj2).fs = yf at HX c1 hn2 hn3 hn4
          generalize (l[i]'hj2).cap = yc at c1 hn2
          generalize hyl : yf.length = yl at c1
          have hyl2 : yl ≤ yc := by omega
          have hyl3 : yl ≤ 9223372036854775807 := by unfold maxLen at hn3; omega
          have HY := hid hyl
          clear hyl hn2 hn3
          have hS2 := hid (hS.below hBr.out)
          by_cases hse : shapeI y yf = 0
          · have e1 := HX.out
            rw [if_neg (by simpa using hse)] at e1
            have HX1 := hid e1
            clear e1 HX
            go_wp2_with fail
            have hcall := ShapeFault_any wr B y ya yf yl yc wr hn1 HY.out.symm hyl3 hyl2 (Below.refl _ _) (by omega) hn4
            rw [hse] at hcall
            go_fit hcall
            clear hcall
            rintro e w2 ⟨rfl, hb2⟩
            have hz2 := hb2.size
            have hbr2 := hid (hbr.trans (hb2.mono (by omega)))
            obtain ⟨x2, x3⟩ := box22 hbr2.out
            have c2 := (hb2.cell (p := ⟨b, o + i * 2, none⟩) (by show b < _; omega)).trans c0
            have hS3 := hid (hS2.out.below (hb2.mono (by omega)))
            have hcall := hid (fun (w' : World) (h : Shs w' B (some ⟨b, o, none⟩) l) => shapeAt_any B _ l i sc y w' h (by omega) (by omega))
            clear g2 g3 c0 c1 hbr hb2
            rcases pos_cases l i y (by omega) with hpos | ⟨q, hq, hpos⟩
            · have e0 := HX1.out
              rw [if_neg (by omega)] at e0
              have HSS := hid (HSt.out e0)
              rw [hpos] at hcall
              clear e0 HX1 HSt HT hpos
              go_wp2_with fail
              go_quiet (first | (go_at_call 19; exact Calls.quiet_of_same (hcall.out _ (hS3.out.below (bdrew (Below.refl _ _) _)))))
              go_wp2
              go_roundw
              case rel => exact ⟨i + 1, by omega, by go_num, HF.out.trans HSS.out, bdrew hbr2.out _⟩
              case measure => simp [intOf]; omega
            · have e7 := HX1.out
              rw [if_pos (by omega)] at e7
              have HTT := hid (HT.out (by rw [e7]; decide))
              have HE7 := hid e7
              rw [hpos] at hcall
              clear HX1 HSt HT hpos e7
              go_wp2_with fail
              go_quiet (first | (go_at_call 19; exact Calls.quiet_of_same (hcall.out _ (hS3.out.below (bdrew (Below.refl _ _) _)))))
              go_wp2
              go_ret
              exact ⟨ret_int (by rw [HE.out, HF.out, HTT.out, HE7.out]), hb0.out.trans (bdrew (hbr2.out.mono (by omega)) _)⟩
          · have e1 := HX.out
            rw [if_pos hse] at e1
            have HTT := hid (HT.out (by rw [e1]; exact hse))
            clear HX HT HSt
            generalize hr : shapeI y yf = r at hse e1
            have HR := hid hr
            have HE1 := hid e1
            clear hr e1
            go_wp2_with fail
            have hcall := ShapeFault_any wr B y ya yf yl yc wr hn1 HY.out.symm hyl3 hyl2 (Below.refl _ _) (by omega) hn4
            rw [HR.out] at hcall
            go_fit hcall
            clear hcall
            rintro e w2 ⟨rfl, hb2⟩
            go_wp2_with fail
            go_ret
            exact ⟨ret_int (by rw [HE.out, HF.out, HTT.out, HE1.out]), hb0.out.trans ((hbr.mono (by omega)).trans (hb2.mono (by omega)))⟩
        · have HTT := hid (firstI_end (recI l) l.length i (by rw [← HS.out]; exact hlt))
          go_wp2_with fail
          go_ret
          exact ⟨ret_int (by rw [HE.out, HF.out, HTT.out]), hb0.out.trans (hbr.mono (by omega))⟩
end Go.Proofs.Ytgdeomdnpgedbab

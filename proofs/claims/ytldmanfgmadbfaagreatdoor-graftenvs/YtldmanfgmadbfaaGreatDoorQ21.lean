/- The document's ShapeFault: P2.3. -/
import Derived.Test.YtldmanfgmadbfaaGreatDoorQ07
import Derived.Deep.QuietTactic
import Derived.BigQuiet
namespace Go.Proofs.YtldmanfgmadbfaaGreatDoor.UU
set_option maxRecDepth 100000
open Go.RowKit Go.WideMaps Go.Maps
set_option maxHeartbeats 2000000 in
theorem ShapeFault_any (W : World) (B : Nat) (n : ByteArray) (a : Option Addr) (ss : List ByteArray) (len cap : Nat) (w : World) (hn : n.size ≤ maxLen) (hlen : len = ss.length) (hl : len ≤ 9223372036854775807) (hcap : len ≤ cap)
    (hB : Below B W w) (hBw : B ≤ w.heap.size) (hS : Strs W B a ss) :
    Calls Tryz.prog 39 #[.agg #[.string n, .slice a len cap]] w fun e w' => e = .returned (.int .i64 (shapeI n ss)) ∧ Below w.heap.size w w' := by
  have hb0 := hid ((Below.refl w.heap.size w).alloc (Nat.le_refl _) (.cells #[.string n, .slice a len cap] 65))
  have hL := hid hlen
  have hn2 : n.size ≤ 9223372036854775807 := by unfold maxLen at hn; omega
  clear hlen
  cases hf : freeB n.data.toList
  · have HE := hid (shapeI_free (ss := ss) hf)
    go_enter Tryz.func39, Tryz.ntmps39
    go_wp2_with (go_at_call 13; refine (freeName_any _ _ hn2).mono ?_; rintro e w1 ⟨rfl, hb⟩)
    go_ret
    exact ⟨ret_int HE.out.symm, hb0.out.trans (hb.mono (by simp))⟩
  · by_cases hm : 6 < len
    · have HE := hid (shapeI_many (ss := ss) hf (by rw [← hL.out]; exact hm))
      have hm2 : (6 : Int) < len := by omega
      go_enter Tryz.func39, Tryz.ntmps39
      go_wp2_with (go_at_call 13; refine (freeName_any _ _ hn2).mono ?_; rintro e w1 ⟨rfl, hb⟩; have hb1 := hb.mono (show w.heap.size + 1 ≤ _ by simp); obtain ⟨g2, g3⟩ := box22 hb1)
      go_ret
      exact ⟨ret_int HE.out.symm, hb0.out.trans (hb1.mono (by omega))⟩
    · have HE := hid (shapeI_loop (ss := ss) hf (by rw [← hL.out]; exact hm))
      have hm2 : ¬ (6 : Int) < len := by omega
      go_enter Tryz.func39, Tryz.ntmps39
      go_wp2_with (go_at_call 13; refine (freeName_any _ _ hn2).mono ?_; rintro e w1 ⟨rfl, hb⟩; have hb1 := hb.mono (show w.heap.size + 1 ≤ _ by simp); obtain ⟨g2, g3⟩ := box22 hb1)
      go_loopw [3] (fun i wr => ∃ j : Nat, j ≤ len ∧ i = .int .i64 j ∧ firstI (fieldI ss) 0 ss.length = firstI (fieldI ss) j (ss.length - j) ∧ Below (w.heap.size + 1) (w.alloc (.cells #[.string n, .slice a len cap] 65)) wr) (fun i _ => len - (intOf i).toNat)
      case atStart => exact ⟨0, Nat.zero_le _, rfl, rfl, hb1⟩
      case round =>
        obtain ⟨j, hj, rfl, hfi, hbr⟩ := hrel
        have HF := hid hfi
        have hBr := hid ((hB.trans (hb0.out.mono hBw)).trans (hbr.mono (by omega)))
        have hsz := hbr.size
        simp at hsz
        clear hfi g2 g3 hb1
        obtain ⟨g2, g3⟩ := box22 hbr
        by_cases hlt : j < len
        · have hj2 : j < ss.length := by rw [← hL.out]; exact hlt
          have hlt2 : (j : Int) < len := by omega
          have hjc : j ≤ cap := by omega
          have hjc2 : (j : Int) ≤ cap := by omega
          obtain ⟨hss, b, o, rfl, hbB, hc⟩ := (hS.below hBr.out) j hj2
          have HX := hid (fieldI_at ss j hj2)
          have HS := hid (firstI_step (fieldI ss) ss.length j hj2)
          have HT := hid (firstI_stop (fieldI ss) ss.length j hj2)
          have hss2 : ss[j].size ≤ 9223372036854775807 := by unfold maxLen at hss; omega
          have hS2 := hid (hS.below hBr.out)
          generalize hy : ss[j] = y at HX hc hss hss2
          have HY := hid hy
          clear hy
          cases hnm : nameB y.data.toList
          · have e4 := HX.out
            rw [if_pos hnm] at e4
            have HTT := hid (HT.out (by rw [e4]; decide))
            go_wp2_with (go_at_call 36; refine (NameMay_any _ _ hss2).mono ?_; rintro e w1 ⟨rfl, nd, rfl⟩)
            go_ret
            exact ⟨ret_int (by rw [HE.out, HF.out, HTT.out, e4]), hb0.out.trans (bdrew (hbr.mono (by omega)) _)⟩
          · cases hcn : hasS (ss.take j) y
            · have e0 := HX.out
              rw [if_neg (by simp [hnm]), if_neg (by simp [hcn])] at e0
              have HSS := hid (HS.out e0)
              clear e0 HX HS HT
              have hcall := hid (fun (w' : World) (h : Strs w' B (some ⟨b, o, none⟩) ss) => isIn_any w' B _ ss j cap y h (by omega) (by omega))
              rw [hcn] at hcall
              go_wp2_with (go_at_call 36; refine (NameMay_any _ _ hss2).mono ?_; rintro e w2 ⟨rfl, nd, hw2⟩; have hbr1 := hid (bdrew hbr nd); have hc2 := hc; have hS3 := hid hS2.out; obtain ⟨x2, x3⟩ := box22 hbr1.out; change (wr.drewN nd).cell? _ = _ at hc2; change Hid (Strs (wr.drewN nd) B _ ss) at hS3; rw [← hw2] at hbr1 hc2 x2 x3 hS3; clear hw2)
              go_quiet (first | (go_at_call 62; exact Calls.quiet_of_same (hcall.out _ (hS3.out.below (bdrew (Below.refl _ _) _)))))
              go_wp2
              go_roundw
              case rel => exact ⟨j + 1, by omega, by go_num, HF.out.trans HSS.out, bdrew hbr1.out _⟩
              case measure => simp [intOf]; omega
            · have e7 := HX.out
              rw [if_neg (by simp [hnm]), if_pos hcn] at e7
              have HTT := hid (HT.out (by rw [e7]; decide))
              clear HX HS HT
              have hcall := hid (fun (w' : World) (h : Strs w' B (some ⟨b, o, none⟩) ss) => isIn_any w' B _ ss j cap y h (by omega) (by omega))
              rw [hcn] at hcall
              go_wp2_with (go_at_call 36; refine (NameMay_any _ _ hss2).mono ?_; rintro e w2 ⟨rfl, nd, hw2⟩; have hbr1 := hid (bdrew hbr nd); have hc2 := hc; have hS3 := hid hS2.out; obtain ⟨x2, x3⟩ := box22 hbr1.out; change (wr.drewN nd).cell? _ = _ at hc2; change Hid (Strs (wr.drewN nd) B _ ss) at hS3; rw [← hw2] at hbr1 hc2 x2 x3 hS3; clear hw2)
              go_quiet (first | (go_at_call 62; exact Calls.quiet_of_same (hcall.out _ (hS3.out.below (bdrew (Below.refl _ _) _)))))
              go_wp2
              go_ret
              exact ⟨ret_int (by rw [HE.out, HF.out, HTT.out, e7]), hb0.out.trans (bdrew (hbr1.out.mono (by omega)) _)⟩
        · have HTT := hid (firstI_end (fieldI ss) ss.length j (by rw [← hL.out]; exact hlt))
          go_wp2_with fail
          go_ret
          exact ⟨ret_int (by rw [HE.out, HF.out, HTT.out]), hb0.out.trans (hbr.mono (by omega))⟩
end Go.Proofs.YtldmanfgmadbfaaGreatDoor.UU

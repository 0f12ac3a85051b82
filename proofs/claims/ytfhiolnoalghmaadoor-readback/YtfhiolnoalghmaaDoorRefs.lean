/- The document's datumFault: the loop over what is in a datum. -/
import Derived.Test.YtfhiolnoalghmaaDoorRef
namespace Go.Proofs.YtfhiolnoalghmaaDoor
open Go.RowKit
theorem box_cell {w wr : World} {v0 v1 v2 v3 : Value} {t : TypeId} (hbr : Below (w.heap.size + 1) (w.alloc (.cells #[v0, v1, v2, v3] t)) wr) : wr.cell? ⟨w.heap.size, 3, none⟩ = some v3 := by
  rw [hbr.cell (p := ⟨w.heap.size, 3, none⟩) (show w.heap.size < w.heap.size + 1 by omega)]
  go_simp
set_option maxHeartbeats 2000000 in
theorem fault_any (W : World) (B : Nat) (d : Nat) : ∀ (k n : Int) (s : ByteArray) (a : Option Addr) (len cap : Nat) (l : Int) (w : World), 1 ≤ l → l + d = 41 → Below B W w → B ≤ w.heap.size → Fine W B d s a len →
    Calls Tryd.prog 35 #[.agg #[.int .i64 k, .int .i64 n, .string s, .slice a len cap], .int .i64 l] w fun e w' => e = .returned (.int .i64 (fltI W d k n s a len)) ∧ Below w.heap.size w w' := by
  induction d with
  | zero =>
    intro k n s a len cap l w hl1 hd hW hB hF
    obtain rfl : l = 41 := by simpa using hd
    exact fault_bad k n s a len cap 41 w hF.size (alone_deep k n s len)
  | succ d ih =>
    intro k n s a len cap l w hl1 hd hW hB hF
    have hs := hF.size
    have hl := hF.len
    obtain rfl : l = 40 - (d : Int) := by omega
    by_cases hE : aloneI k n s len (39 - d) = 0
    · obtain ⟨ho, hcase⟩ := alone_zero _ _ _ _ _ hE
      have HE := hid hE
      clear hE
      have hi1 : inI 1 1 4 = true := rfl
      have hi2 : inI 1 2 4 = true := rfl
      have hi3 : inI 1 3 4 = true := rfl
      have hi4 : inI 1 4 4 = true := rfl
      have hlev : ¬ (40 : Int) < 40 - (d : Int) := by omega
      rcases hcase with ⟨rfl, hn, hs0, rfl⟩ | ⟨rfl, hn, hs0, rfl⟩ | ⟨rfl, hn, rfl, rfl⟩ | ⟨rfl, rfl, hs0⟩
      all_goals
        go_enter Tryd.func35, Tryd.ntmps35
        go_wp2_with (first | (go_at_call 52; refine (In_any _ _ _ _).mono ?_; rintro e w' ⟨rfl, hw⟩; obtain rfl := hw.symm) | (go_at_call 42; refine (NameMay_any _ _ hs).mono ?_; rintro e w' ⟨rfl, nd, rfl⟩))
      · go_loopw [5] (fun i wr => i = .int .i64 0 ∧ Below (w.heap.size + 1) (w.alloc (.cells #[.int .i64 1, .int .i64 n, .string s, .slice a 0 cap] 24)) wr) (fun _ _ => 0)
        case atStart => exact ⟨rfl, Below.refl _ _⟩
        case round =>
          obtain ⟨rfl, hbr⟩ := hrel
          have gx := box_cell hbr
          go_wp2_with fail
          go_ret
          exact ⟨ret_int (fltI_pos W d 1 n s _ 0 HE.out).symm, ((Below.refl _ _).alloc (Nat.le_refl _) _).trans (hbr.mono (by omega))⟩
      · go_loopw [5] (fun i wr => i = .int .i64 0 ∧ Below (w.heap.size + 1) (w.alloc (.cells #[.int .i64 2, .int .i64 n, .string s, .slice a 0 cap] 24)) wr) (fun _ _ => 0)
        case atStart => exact ⟨rfl, Below.refl _ _⟩
        case round =>
          obtain ⟨rfl, hbr⟩ := hrel
          have gx := box_cell hbr
          go_wp2_with fail
          go_ret
          exact ⟨ret_int (fltI_pos W d 2 n s _ 0 HE.out).symm, ((Below.refl _ _).alloc (Nat.le_refl _) _).trans (hbr.mono (by omega))⟩
      · go_loopw [5] (fun i wr => i = .int .i64 0 ∧ Below (w.heap.size + 1) (w.alloc (.cells #[.int .i64 3, .int .i64 0, .string s, .slice a 0 cap] 24)) wr) (fun _ _ => 0)
        case atStart => exact ⟨rfl, below_drewN (Below.refl _ _) _⟩
        case round =>
          obtain ⟨rfl, hbr⟩ := hrel
          have gx := box_cell hbr
          go_wp2_with fail
          go_ret
          exact ⟨ret_int (fltI_pos W d 3 0 s _ 0 HE.out).symm, ((Below.refl _ _).alloc (Nat.le_refl _) _).trans (hbr.mono (by omega))⟩
      · go_loopw [5] (fun i wr => ∃ j : Nat, j ≤ len ∧ i = .int .i64 j ∧ firstI (elemI W (fltI W d) a) 0 len = firstI (elemI W (fltI W d) a) j (len - j) ∧ Below (w.heap.size + 1) (w.alloc (.cells #[.int .i64 4, .int .i64 0, .string s, .slice a len cap] 24)) wr) (fun i _ => len - (intOf i).toNat)
        case atStart => exact ⟨0, Nat.zero_le _, rfl, rfl, Below.refl _ _⟩
        case round =>
          obtain ⟨j, hj, rfl, hfi, hbr⟩ := hrel
          have HF := hid hfi
          clear hfi
          have gx := box_cell hbr
          by_cases hlt : j < len
          · obtain ⟨b, q, k', n', s', a', len', cap', rfl, hbB, c0, c1, c2, c3, hF'⟩ := hF.2.2 j hlt
            have hsz := hbr.size
            simp at hsz
            have hrd : ∀ x, wr.cell? ⟨b, x, none⟩ = W.cell? ⟨b, x, none⟩ := fun x => by
              rw [hbr.cell (p := ⟨b, x, none⟩) (show b < w.heap.size + 1 by omega), (((Below.refl _ _).alloc (Nat.le_refl _) _ : Below w.heap.size w (w.alloc _))).cell (p := ⟨b, x, none⟩) (show b < w.heap.size by omega), hW.cell (p := ⟨b, x, none⟩) hbB]
            have g0 := (hrd _).trans c0
            have g1 := (hrd _).trans c1
            have g2 := (hrd _).trans c2
            have g3 := (hrd _).trans c3
            clear hrd
            have HI := hid (ih k' n' s' a' len' cap')
            have HX := hid (elemI_eq (fltI W d) c0 c1 c2 c3)
            have HS := hid (firstI_step (elemI W (fltI W d) (some ⟨b, q, none⟩)) len j hlt)
            have HT := hid (firstI_stop (elemI W (fltI W d) (some ⟨b, q, none⟩)) len j hlt)
            rw [HX.out] at HS HT
            have HW : Hid (Below B W wr) := (hW.alloc hB _).trans (hbr.mono (by omega))
            clear c0 c1 c2 c3
            generalize fltI W d k' n' s' a' len' = r at HI HX HS HT
            go_wp2_with fail
            have hcall := HI.out (40 - ↑d + 1) _ (by omega) (by omega) HW.out (by omega) hF'
            go_fit hcall
            rintro e w2 ⟨rfl, hb2⟩
            by_cases hr : r = 0
            · have HSS := hid (HS.out hr)
              go_wp2_with fail
              go_roundw
              case rel => exact ⟨j + 1, by omega, by go_num, HF.out.trans HSS.out, hbr.trans (hb2.mono (by omega))⟩
              case measure => simp [intOf]; omega
            · have HTT := hid (HT.out hr)
              go_wp2_with fail
              go_ret
              exact ⟨ret_int ((fltI_pos W d 4 0 s _ len HE.out).trans (HF.out.trans HTT.out)).symm, ((Below.refl _ _).alloc (Nat.le_refl _) _).trans ((hbr.trans (hb2.mono (by omega))).mono (by omega))⟩
          · have HTT := hid (firstI_end (elemI W (fltI W d) a) len j hlt)
            go_wp2_with fail
            go_ret
            exact ⟨ret_int ((fltI_pos W d 4 0 s _ len HE.out).trans (HF.out.trans HTT.out)).symm, ((Below.refl _ _).alloc (Nat.le_refl _) _).trans (hbr.mono (by omega))⟩
    · have h := fault_bad k n s a len cap (40 - d) w hs (by rw [show (40 - (d : Int) - 1) = 39 - d from by omega]; exact hE)
      rw [show (40 - (d : Int) - 1) = 39 - d from by omega] at h
      rw [fltI_neg W d k n s a len hE]
      exact h
end Go.Proofs.YtfhiolnoalghmaaDoor

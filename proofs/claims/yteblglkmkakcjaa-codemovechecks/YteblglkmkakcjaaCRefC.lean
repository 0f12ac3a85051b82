/- The document's exprFault at a Make and an Is. -/
import Derived.Test.YteblglkmkakcjaaCRefP
namespace Go.Proofs.Yteblglkmkakcjaa
set_option maxRecDepth 100000
open Go.RowKit Go.WideMaps Go.Maps
set_option maxHeartbeats 4000000 in
theorem rf_11 (W : World) (B : Nat) (pu : Bool) (olds ro : Int) (hro : RoOk pu olds ro) (d : Nat) (ih : ∀ y l, RfAt W B pu olds ro d y l) (x : Xn) (ks : List Ex) (hk : x.k = 11) : RfAt W B pu olds ro (d + 1) x ks := by
  intro ba bs bl bc w hW hB hF hbs hbl hb40 hbc
  have HBl := hid hbl
  clear hbl
  have hO := hF.1
  have HKs := hid hF.kids
  obtain ⟨m, hml⟩ : ∃ m, m = ks.length := ⟨_, rfl⟩
  rw [← hml] at hO HKs ⊢
  have hb0 := hid ((Below.refl w.heap.size w).alloc (Nat.le_refl _) (.cells (xcs x m) 28))
  have HBx := hid (fun (w' : World) (h : Below (w.heap.size + 1) (w.alloc (.cells (xcs x m) 28)) w') => lies_new h)
  have hm := hO.alen
  have hnl := hO.nlen
  have hs := hO.size
  have hs2 : x.s.size ≤ 9223372036854775807 := by have : maxLen = 9223372036854775807 := rfl; omega
  have HST := hid hO.strs
  have HFine := hid hO.fine
  have HBs := hid hbs
  have HX := hid (exI_is (W := W) (pure := pu) (olds := olds) (d := d) (scope := bs) (x := x) hml)
  have HMany := hid (fun j t => @kid_many (exI W pu olds d) bs x ks m j t hml)
  have HKin := hid (fun j t => @kid_in (exI W pu olds d) bs x ks m j t hml)
  have HKout := hid (fun j t => @kid_out (exI W pu olds d) bs x ks m j t hml)
  rw [← HBl.out] at HMany HKin
  generalize exI W pu olds (d + 1) bs (.mk x ks) = R at HX ⊢
  generalize kidI (exI W pu olds d) bs x ks = kf at *
  have HF := hid (fun j => firstI_step kf m j)
  have HS := hid (fun j => firstI_stop kf m j)
  have HEn := hid (fun j => firstI_end kf m j)
  clear hO hbs hF hml
  unfold xaloneI at HX
  obtain ⟨k, dk, dn, ds, da, dl, dc, s, n, na, ns, nc, aa, ac⟩ := x
  dsimp only [xv, xcs] at *
  subst hk
  generalize hnn : ns.length = nl at *
  have HNl := hid hnn
  clear hnn
  have hm2 : (m : Int) ≤ 9223372036854775807 := by have : maxLen = 9223372036854775807 := rfl; omega
  have hm3 : (0 : Int) ≤ m := by omega
  have hn2 : (nl : Int) ≤ 1000000000000000 := by omega
  have hRo : (pu = false ∧ olds = 0 ∧ ro = -1) ∨ (pu = true ∧ ro = olds ∧ 0 ≤ olds ∧ olds ≤ 6) := hro
  clear hro
  by_cases hc : (m : Int) ≤ 6
  · have HC1 := hid (show countB 11 s ns m = true by simp [countB]; omega)
    cases hfr : freeB s.data.toList
    · have HR0 := hid (show R = 6 by rw [HX.out, HC1.out]; simp [namedB, hfr])
      go_enter Try.func11, Try.ntmps11
      go_wp2_with fail
      have hcall := freeName_any s (w.alloc (.cells #[.int .i64 11, .int .i64 dk, .int .i64 dn, .string ds, .slice da dl dc, .string s, .int .i64 n, .slice na nl nc, .slice aa m ac] 28)) hs2
      rw [hfr] at hcall
      go_fit hcall
      clear hcall
      rintro e w1 ⟨rfl, hb1⟩
      have Hst : Hid (Below (w.heap.size + 1) (w.alloc (.cells #[.int .i64 11, .int .i64 dk, .int .i64 dn, .string ds, .slice da dl dc, .string s, .int .i64 n, .slice na nl nc, .slice aa m ac] 28)) w1) := hid (hb1.mono (by simp))
      obtain ⟨c0, c1, c2, c3, c4, c5, c6, c7, c8⟩ := HBx.out _ Hst.out
      dsimp only at c0 c1 c2 c3 c4 c5 c6 c7 c8; rw [HNl.out] at c7
      go_wp2_with fail
      go_ret
      exact ⟨ret_int HR0.out.symm, hb0.out.trans (Hst.out.mono (by omega))⟩
    · have HN1 := hid (show namedB 11 s n ns bs = true by simp [namedB, hfr])
      rcases hRo with ⟨hpu, hol, hr⟩ | ⟨hpu, hr, hr0, hr6⟩
      · obtain rfl : ro = -1 := hr
        have HPu := hid hpu
        clear hpu hol
        have HR0 := hid (show R = firstI kf 0 m by rw [HX.out, HC1.out, HN1.out, HPu.out]; simp)
        go_enter Try.func11, Try.ntmps11
        go_wp2_with fail
        have hcall := freeName_any s (w.alloc (.cells #[.int .i64 11, .int .i64 dk, .int .i64 dn, .string ds, .slice da dl dc, .string s, .int .i64 n, .slice na nl nc, .slice aa m ac] 28)) hs2
        rw [hfr] at hcall
        go_fit hcall
        clear hcall
        rintro e w1 ⟨rfl, hb1⟩
        have Hst : Hid (Below (w.heap.size + 1) (w.alloc (.cells #[.int .i64 11, .int .i64 dk, .int .i64 dn, .string ds, .slice da dl dc, .string s, .int .i64 n, .slice na nl nc, .slice aa m ac] 28)) w1) := hid (hb1.mono (by simp))
        obtain ⟨c0, c1, c2, c3, c4, c5, c6, c7, c8⟩ := HBx.out _ Hst.out
        dsimp only at c0 c1 c2 c3 c4 c5 c6 c7 c8; rw [HNl.out] at c7
        go_wp2_with fail
        go_loopw [10] (fun i wr => ∃ j : Nat, j ≤ m ∧ i = .int .i64 j ∧ R = firstI kf j (m - j) ∧ Below (w.heap.size + 1) (w.alloc (.cells #[.int .i64 11, .int .i64 dk, .int .i64 dn, .string ds, .slice da dl dc, .string s, .int .i64 n, .slice na nl nc, .slice aa m ac] 28)) wr) (fun i _ => m - (intOf i).toNat)
        case atStart => exact ⟨0, Nat.zero_le _, rfl, HR0.out, Hst.out⟩
        case round =>
          obtain ⟨j, hj, rfl, hfi, hbr⟩ := hrel
          have HFi := hid hfi
          clear hfi
          have hzr := hbr.size
          simp at hzr
          obtain ⟨c0, c1, c2, c3, c4, c5, c6, c7, c8⟩ := HBx.out _ hbr
          dsimp only at c0 c1 c2 c3 c4 c5 c6 c7 c8; rw [HNl.out] at c7
          have HWr := hid ((hW.trans (hb0.out.mono hB)).trans (hbr.mono (by omega)))
          have HBw := hid (hb0.out.trans (hbr.mono (by omega)))
          have HBr := hid hbr
          clear hbr
          by_cases hlt : j < m
          · have hlt2 : (j : Int) < m := by omega
            obtain ⟨y, l, b, o, hget, rfl, hbB, hL, hFk⟩ := HKs.out j hlt
            have HKj := hid (HKout.out j _ hget (by simp [bindsB]))
            have HFj := hid (HF.out j hlt)
            have HSj := hid (HS.out j hlt)
            rw [HKj.out] at HFj HSj
            obtain ⟨l0, l1, l2, l3, l4, l5, l6, l7, l8⟩ := hL.below HWr.out hbB
            have HC := hid (ih y l ba bs bl bc wr HWr.out (by omega) hFk ((HBs.out.below HBw.out).mono (by omega)) HBl.out hb40 hbc)
            generalize exI W pu olds d bs (.mk y l) = r at HC HFj HSj HKj
            clear hL hget hFk
            generalize l.length = ml at *
            obtain ⟨k', dk', dn', ds', da', dl', dc', s', n', na', ns', nc', aa', ac'⟩ := y
            dsimp only [xv, xcs] at *
            generalize ns'.length = nl' at *
            go_wp2_with fail
            have hcall := HC.out
            go_fit hcall
            clear hcall
            rintro e w4 ⟨rfl, hb4⟩
            by_cases hr : r = 0
            · have HSS := hid (HFj.out hr)
              go_wp2_with fail
              go_roundw
              case rel => exact ⟨j + 1, by omega, by go_num, HFi.out.trans HSS.out, HBr.out.trans (hb4.mono (by omega))⟩
              case measure => simp [intOf]; omega
            · have hrb : (r == 0) = false := by simpa using hr
              have HTT := hid (HFi.out.trans (HSj.out hr))
              go_wp2_with fail
              go_ret
              exact ⟨ret_int HTT.out.symm, HBw.out.trans (hb4.mono (by omega))⟩
          · have hlt2 : ¬ (j : Int) < m := by omega
            have HE2 := hid (HFi.out.trans (HEn.out j hlt))
            go_wp2_with fail
            go_ret
            exact ⟨ret_int HE2.out.symm, HBw.out⟩
      · have HPu := hid hpu
        have hr7 : ¬ ro < 0 := by omega
        clear hpu hr hr6
        have HR0 := hid (show R = 15 by rw [HX.out, HC1.out, HN1.out, HPu.out]; simp [pureB])
        go_enter Try.func11, Try.ntmps11
        go_wp2_with fail
        have hcall := freeName_any s (w.alloc (.cells #[.int .i64 11, .int .i64 dk, .int .i64 dn, .string ds, .slice da dl dc, .string s, .int .i64 n, .slice na nl nc, .slice aa m ac] 28)) hs2
        rw [hfr] at hcall
        go_fit hcall
        clear hcall
        rintro e w1 ⟨rfl, hb1⟩
        have Hst : Hid (Below (w.heap.size + 1) (w.alloc (.cells #[.int .i64 11, .int .i64 dk, .int .i64 dn, .string ds, .slice da dl dc, .string s, .int .i64 n, .slice na nl nc, .slice aa m ac] 28)) w1) := hid (hb1.mono (by simp))
        obtain ⟨c0, c1, c2, c3, c4, c5, c6, c7, c8⟩ := HBx.out _ Hst.out
        dsimp only at c0 c1 c2 c3 c4 c5 c6 c7 c8; rw [HNl.out] at c7
        go_wp2_with fail
        go_ret
        exact ⟨ret_int HR0.out.symm, hb0.out.trans (Hst.out.mono (by omega))⟩
  · have HC1 := hid (show countB 11 s ns m = false by simp [countB]; omega)
    have HR0 := hid (show R = 10 by rw [HX.out, HC1.out]; simp)
    have Hst := hid (Below.refl (w.heap.size + 1) (w.alloc (.cells #[.int .i64 11, .int .i64 dk, .int .i64 dn, .string ds, .slice da dl dc, .string s, .int .i64 n, .slice na nl nc, .slice aa m ac] 28)))

    go_enter Try.func11, Try.ntmps11
    go_wp2_with fail
    go_ret
    exact ⟨ret_int HR0.out.symm, hb0.out.trans (Hst.out.mono (by omega))⟩
set_option maxHeartbeats 4000000 in
theorem rf_12 (W : World) (B : Nat) (pu : Bool) (olds ro : Int) (hro : RoOk pu olds ro) (d : Nat) (ih : ∀ y l, RfAt W B pu olds ro d y l) (x : Xn) (ks : List Ex) (hk : x.k = 12) : RfAt W B pu olds ro (d + 1) x ks := by
  intro ba bs bl bc w hW hB hF hbs hbl hb40 hbc
  have HBl := hid hbl
  clear hbl
  have hO := hF.1
  have HKs := hid hF.kids
  obtain ⟨m, hml⟩ : ∃ m, m = ks.length := ⟨_, rfl⟩
  rw [← hml] at hO HKs ⊢
  have hb0 := hid ((Below.refl w.heap.size w).alloc (Nat.le_refl _) (.cells (xcs x m) 28))
  have HBx := hid (fun (w' : World) (h : Below (w.heap.size + 1) (w.alloc (.cells (xcs x m) 28)) w') => lies_new h)
  have hm := hO.alen
  have hnl := hO.nlen
  have hs := hO.size
  have hs2 : x.s.size ≤ 9223372036854775807 := by have : maxLen = 9223372036854775807 := rfl; omega
  have HST := hid hO.strs
  have HFine := hid hO.fine
  have HBs := hid hbs
  have HX := hid (exI_is (W := W) (pure := pu) (olds := olds) (d := d) (scope := bs) (x := x) hml)
  have HMany := hid (fun j t => @kid_many (exI W pu olds d) bs x ks m j t hml)
  have HKin := hid (fun j t => @kid_in (exI W pu olds d) bs x ks m j t hml)
  have HKout := hid (fun j t => @kid_out (exI W pu olds d) bs x ks m j t hml)
  rw [← HBl.out] at HMany HKin
  generalize exI W pu olds (d + 1) bs (.mk x ks) = R at HX ⊢
  generalize kidI (exI W pu olds d) bs x ks = kf at *
  have HF := hid (fun j => firstI_step kf m j)
  have HS := hid (fun j => firstI_stop kf m j)
  have HEn := hid (fun j => firstI_end kf m j)
  clear hO hbs hF hml
  unfold xaloneI at HX
  obtain ⟨k, dk, dn, ds, da, dl, dc, s, n, na, ns, nc, aa, ac⟩ := x
  dsimp only [xv, xcs] at *
  subst hk
  generalize hnn : ns.length = nl at *
  have HNl := hid hnn
  clear hnn
  have hm2 : (m : Int) ≤ 9223372036854775807 := by have : maxLen = 9223372036854775807 := rfl; omega
  have hm3 : (0 : Int) ≤ m := by omega
  have hn2 : (nl : Int) ≤ 1000000000000000 := by omega
  have hRo : (pu = false ∧ olds = 0 ∧ ro = -1) ∨ (pu = true ∧ ro = olds ∧ 0 ≤ olds ∧ olds ≤ 6) := hro
  clear hro
  by_cases hc : (m : Int) = 1
  · have HC1 := hid (show countB 12 s ns m = true by simp [countB]; omega)
    cases hfr : freeB s.data.toList
    · have HR0 := hid (show R = 6 by rw [HX.out, HC1.out]; simp [namedB, hfr])
      go_enter Try.func11, Try.ntmps11
      go_wp2_with fail
      have hcall := freeName_any s (w.alloc (.cells #[.int .i64 12, .int .i64 dk, .int .i64 dn, .string ds, .slice da dl dc, .string s, .int .i64 n, .slice na nl nc, .slice aa m ac] 28)) hs2
      rw [hfr] at hcall
      go_fit hcall
      clear hcall
      rintro e w1 ⟨rfl, hb1⟩
      have Hst : Hid (Below (w.heap.size + 1) (w.alloc (.cells #[.int .i64 12, .int .i64 dk, .int .i64 dn, .string ds, .slice da dl dc, .string s, .int .i64 n, .slice na nl nc, .slice aa m ac] 28)) w1) := hid (hb1.mono (by simp))
      obtain ⟨c0, c1, c2, c3, c4, c5, c6, c7, c8⟩ := HBx.out _ Hst.out
      dsimp only at c0 c1 c2 c3 c4 c5 c6 c7 c8; rw [HNl.out] at c7
      go_wp2_with fail
      go_ret
      exact ⟨ret_int HR0.out.symm, hb0.out.trans (Hst.out.mono (by omega))⟩
    · have HN1 := hid (show namedB 12 s n ns bs = true by simp [namedB, hfr])
      rcases hRo with ⟨hpu, hol, hr⟩ | ⟨hpu, hr, hr0, hr6⟩
      · obtain rfl : ro = -1 := hr
        have HPu := hid hpu
        clear hpu hol
        have HR0 := hid (show R = firstI kf 0 m by rw [HX.out, HC1.out, HN1.out, HPu.out]; simp)
        go_enter Try.func11, Try.ntmps11
        go_wp2_with fail
        have hcall := freeName_any s (w.alloc (.cells #[.int .i64 12, .int .i64 dk, .int .i64 dn, .string ds, .slice da dl dc, .string s, .int .i64 n, .slice na nl nc, .slice aa m ac] 28)) hs2
        rw [hfr] at hcall
        go_fit hcall
        clear hcall
        rintro e w1 ⟨rfl, hb1⟩
        have Hst : Hid (Below (w.heap.size + 1) (w.alloc (.cells #[.int .i64 12, .int .i64 dk, .int .i64 dn, .string ds, .slice da dl dc, .string s, .int .i64 n, .slice na nl nc, .slice aa m ac] 28)) w1) := hid (hb1.mono (by simp))
        obtain ⟨c0, c1, c2, c3, c4, c5, c6, c7, c8⟩ := HBx.out _ Hst.out
        dsimp only at c0 c1 c2 c3 c4 c5 c6 c7 c8; rw [HNl.out] at c7
        go_wp2_with fail
        go_loopw [10] (fun i wr => ∃ j : Nat, j ≤ m ∧ i = .int .i64 j ∧ R = firstI kf j (m - j) ∧ Below (w.heap.size + 1) (w.alloc (.cells #[.int .i64 12, .int .i64 dk, .int .i64 dn, .string ds, .slice da dl dc, .string s, .int .i64 n, .slice na nl nc, .slice aa m ac] 28)) wr) (fun i _ => m - (intOf i).toNat)
        case atStart => exact ⟨0, Nat.zero_le _, rfl, HR0.out, Hst.out⟩
        case round =>
          obtain ⟨j, hj, rfl, hfi, hbr⟩ := hrel
          have HFi := hid hfi
          clear hfi
          have hzr := hbr.size
          simp at hzr
          obtain ⟨c0, c1, c2, c3, c4, c5, c6, c7, c8⟩ := HBx.out _ hbr
          dsimp only at c0 c1 c2 c3 c4 c5 c6 c7 c8; rw [HNl.out] at c7
          have HWr := hid ((hW.trans (hb0.out.mono hB)).trans (hbr.mono (by omega)))
          have HBw := hid (hb0.out.trans (hbr.mono (by omega)))
          have HBr := hid hbr
          clear hbr
          by_cases hlt : j < m
          · have hlt2 : (j : Int) < m := by omega
            obtain ⟨y, l, b, o, hget, rfl, hbB, hL, hFk⟩ := HKs.out j hlt
            have HKj := hid (HKout.out j _ hget (by simp [bindsB]))
            have HFj := hid (HF.out j hlt)
            have HSj := hid (HS.out j hlt)
            rw [HKj.out] at HFj HSj
            obtain ⟨l0, l1, l2, l3, l4, l5, l6, l7, l8⟩ := hL.below HWr.out hbB
            have HC := hid (ih y l ba bs bl bc wr HWr.out (by omega) hFk ((HBs.out.below HBw.out).mono (by omega)) HBl.out hb40 hbc)
            generalize exI W pu olds d bs (.mk y l) = r at HC HFj HSj HKj
            clear hL hget hFk
            generalize l.length = ml at *
            obtain ⟨k', dk', dn', ds', da', dl', dc', s', n', na', ns', nc', aa', ac'⟩ := y
            dsimp only [xv, xcs] at *
            generalize ns'.length = nl' at *
            go_wp2_with fail
            have hcall := HC.out
            go_fit hcall
            clear hcall
            rintro e w4 ⟨rfl, hb4⟩
            by_cases hr : r = 0
            · have HSS := hid (HFj.out hr)
              go_wp2_with fail
              go_roundw
              case rel => exact ⟨j + 1, by omega, by go_num, HFi.out.trans HSS.out, HBr.out.trans (hb4.mono (by omega))⟩
              case measure => simp [intOf]; omega
            · have hrb : (r == 0) = false := by simpa using hr
              have HTT := hid (HFi.out.trans (HSj.out hr))
              go_wp2_with fail
              go_ret
              exact ⟨ret_int HTT.out.symm, HBw.out.trans (hb4.mono (by omega))⟩
          · have hlt2 : ¬ (j : Int) < m := by omega
            have HE2 := hid (HFi.out.trans (HEn.out j hlt))
            go_wp2_with fail
            go_ret
            exact ⟨ret_int HE2.out.symm, HBw.out⟩
      · have HPu := hid hpu
        have hr7 : ¬ ro < 0 := by omega
        clear hpu hr hr6
        have HR0 := hid (show R = 15 by rw [HX.out, HC1.out, HN1.out, HPu.out]; simp [pureB])
        go_enter Try.func11, Try.ntmps11
        go_wp2_with fail
        have hcall := freeName_any s (w.alloc (.cells #[.int .i64 12, .int .i64 dk, .int .i64 dn, .string ds, .slice da dl dc, .string s, .int .i64 n, .slice na nl nc, .slice aa m ac] 28)) hs2
        rw [hfr] at hcall
        go_fit hcall
        clear hcall
        rintro e w1 ⟨rfl, hb1⟩
        have Hst : Hid (Below (w.heap.size + 1) (w.alloc (.cells #[.int .i64 12, .int .i64 dk, .int .i64 dn, .string ds, .slice da dl dc, .string s, .int .i64 n, .slice na nl nc, .slice aa m ac] 28)) w1) := hid (hb1.mono (by simp))
        obtain ⟨c0, c1, c2, c3, c4, c5, c6, c7, c8⟩ := HBx.out _ Hst.out
        dsimp only at c0 c1 c2 c3 c4 c5 c6 c7 c8; rw [HNl.out] at c7
        go_wp2_with fail
        go_ret
        exact ⟨ret_int HR0.out.symm, hb0.out.trans (Hst.out.mono (by omega))⟩
  · have HC1 := hid (show countB 12 s ns m = false by simp [countB]; omega)
    have HR0 := hid (show R = 10 by rw [HX.out, HC1.out]; simp)
    have hcb : ((m : Int) == 1) = false := by simpa using hc
    have Hst := hid (Below.refl (w.heap.size + 1) (w.alloc (.cells #[.int .i64 12, .int .i64 dk, .int .i64 dn, .string ds, .slice da dl dc, .string s, .int .i64 n, .slice na nl nc, .slice aa m ac] 28)))

    go_enter Try.func11, Try.ntmps11
    go_wp2_with fail
    go_ret
    exact ⟨ret_int HR0.out.symm, hb0.out.trans (Hst.out.mono (by omega))⟩
end Go.Proofs.Yteblglkmkakcjaa

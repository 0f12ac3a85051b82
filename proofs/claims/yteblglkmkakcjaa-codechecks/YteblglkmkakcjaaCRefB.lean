/- The document's exprFault at a Global, a Local and a Const. -/
import Derived.Test.YteblglkmkakcjaaCRefP
namespace Go.Proofs.Yteblglkmkakcjaa
set_option maxRecDepth 100000
open Go.RowKit Go.WideMaps Go.Maps
set_option maxHeartbeats 4000000 in
theorem rf_3 (W : World) (B : Nat) (pu : Bool) (olds ro : Int) (hro : RoOk pu olds ro) (d : Nat) (ih : ∀ y l, RfAt W B pu olds ro d y l) (x : Xn) (ks : List Ex) (hk : x.k = 3) : RfAt W B pu olds ro (d + 1) x ks := by
  intro ba bs bl bc w hW hB hF hbs hbl hb40 hbc
  have HBl := hid hbl
  clear hbl
  have hO := hF.1
  have HKs := hid hF.kids
  obtain ⟨m, hml⟩ : ∃ m, m = ks.length := ⟨_, rfl⟩
  rw [← hml] at hO HKs ⊢
  have hb0 := hid ((Below.refl w.heap.size w).alloc (Nat.le_refl _) (.cells (xcs x m) 28))
  have HBx := hid (fun (w' : World) (h : Below (w.heap.size + 1) (w.alloc (.cells (xcs x m) 28)) w') => lies_new h)
  have hm := hO.alen
  have hnl := hO.nlen
  have hs := hO.size
  have hs2 : x.s.size ≤ 9223372036854775807 := by have : maxLen = 9223372036854775807 := rfl; omega
  have HST := hid hO.strs
  have HFine := hid hO.fine
  have HBs := hid hbs
  have HX := hid (exI_is (W := W) (pure := pu) (olds := olds) (d := d) (scope := bs) (x := x) hml)
  have HMany := hid (fun j t => @kid_many (exI W pu olds d) bs x ks m j t hml)
  have HKin := hid (fun j t => @kid_in (exI W pu olds d) bs x ks m j t hml)
  have HKout := hid (fun j t => @kid_out (exI W pu olds d) bs x ks m j t hml)
  rw [← HBl.out] at HMany HKin
  generalize exI W pu olds (d + 1) bs (.mk x ks) = R at HX ⊢
  generalize kidI (exI W pu olds d) bs x ks = kf at *
  have HF := hid (fun j => firstI_step kf m j)
  have HS := hid (fun j => firstI_stop kf m j)
  have HEn := hid (fun j => firstI_end kf m j)
  clear hO hbs hF hml
  unfold xaloneI at HX
  obtain ⟨k, dk, dn, ds, da, dl, dc, s, n, na, ns, nc, aa, ac⟩ := x
  dsimp only [xv, xcs] at *
  subst hk
  generalize hnn : ns.length = nl at *
  have HNl := hid hnn
  clear hnn
  have hm2 : (m : Int) ≤ 9223372036854775807 := by have : maxLen = 9223372036854775807 := rfl; omega
  have hm3 : (0 : Int) ≤ m := by omega
  have hn2 : (nl : Int) ≤ 1000000000000000 := by omega
  have hRo : (pu = false ∧ olds = 0 ∧ ro = -1) ∨ (pu = true ∧ ro = olds ∧ 0 ≤ olds ∧ olds ≤ 6) := hro
  clear hro
  by_cases hc : m = 0
  · subst hc
    have HC1 := hid (show countB 3 s ns ((0 : Nat) : Int) = true by simp [countB])
    cases hfr : freeB s.data.toList
    · have HR0 := hid (show R = 6 by rw [HX.out, HC1.out]; simp [namedB, hfr])
      go_enter Try.func11, Try.ntmps11
      go_wp2_with fail
      have hcall := freeName_any s (w.alloc (.cells #[.int .i64 3, .int .i64 dk, .int .i64 dn, .string ds, .slice da dl dc, .string s, .int .i64 n, .slice na nl nc, .slice aa 0 ac] 28)) hs2
      rw [hfr] at hcall
      go_fit hcall
      clear hcall
      rintro e w1 ⟨rfl, hb1⟩
      have Hst : Hid (Below (w.heap.size + 1) (w.alloc (.cells #[.int .i64 3, .int .i64 dk, .int .i64 dn, .string ds, .slice da dl dc, .string s, .int .i64 n, .slice na nl nc, .slice aa 0 ac] 28)) w1) := hid (hb1.mono (by simp))
      obtain ⟨c0, c1, c2, c3, c4, c5, c6, c7, c8⟩ := HBx.out _ Hst.out
      dsimp only at c0 c1 c2 c3 c4 c5 c6 c7 c8; rw [HNl.out] at c7
      go_wp2_with fail
      go_ret
      exact ⟨ret_int HR0.out.symm, hb0.out.trans (Hst.out.mono (by omega))⟩
    · have HN1 := hid (show namedB 3 s n ns bs = true by simp [namedB, hfr])
      rcases hRo with ⟨hpu, hol, hr⟩ | ⟨hpu, hr, hr0, hr6⟩
      · obtain rfl : ro = -1 := hr
        have HPu := hid hpu
        clear hpu hol
        have HR0 := hid (show R = 0 by rw [HX.out, HC1.out, HN1.out, HPu.out]; simp [firstI])
        go_enter Try.func11, Try.ntmps11
        go_wp2_with fail
        have hcall := freeName_any s (w.alloc (.cells #[.int .i64 3, .int .i64 dk, .int .i64 dn, .string ds, .slice da dl dc, .string s, .int .i64 n, .slice na nl nc, .slice aa 0 ac] 28)) hs2
        rw [hfr] at hcall
        go_fit hcall
        clear hcall
        rintro e w1 ⟨rfl, hb1⟩
        have Hst : Hid (Below (w.heap.size + 1) (w.alloc (.cells #[.int .i64 3, .int .i64 dk, .int .i64 dn, .string ds, .slice da dl dc, .string s, .int .i64 n, .slice na nl nc, .slice aa 0 ac] 28)) w1) := hid (hb1.mono (by simp))
        obtain ⟨c0, c1, c2, c3, c4, c5, c6, c7, c8⟩ := HBx.out _ Hst.out
        dsimp only at c0 c1 c2 c3 c4 c5 c6 c7 c8; rw [HNl.out] at c7
        go_wp2_with fail
        go_loopw [10] (fun i wr => i = .int .i64 0 ∧ Below (w.heap.size + 1) (w.alloc (.cells #[.int .i64 3, .int .i64 dk, .int .i64 dn, .string ds, .slice da dl dc, .string s, .int .i64 n, .slice na nl nc, .slice aa 0 ac] 28)) wr) (fun _ _ => 0)
        case atStart => exact ⟨rfl, Hst.out⟩
        case round =>
          obtain ⟨rfl, hbr⟩ := hrel
          have HBw := hid (hb0.out.trans (hbr.mono (by omega)))
          obtain ⟨c0, c1, c2, c3, c4, c5, c6, c7, c8⟩ := HBx.out _ hbr
          dsimp only at c0 c1 c2 c3 c4 c5 c6 c7 c8; rw [HNl.out] at c7
          go_wp2_with fail
          go_ret
          exact ⟨ret_int HR0.out.symm, HBw.out⟩
      · have HPu := hid hpu
        have hr7 : ¬ ro < 0 := by omega
        clear hpu hr hr6
        have HR0 := hid (show R = 15 by rw [HX.out, HC1.out, HN1.out, HPu.out]; simp [pureB])
        go_enter Try.func11, Try.ntmps11
        go_wp2_with fail
        have hcall := freeName_any s (w.alloc (.cells #[.int .i64 3, .int .i64 dk, .int .i64 dn, .string ds, .slice da dl dc, .string s, .int .i64 n, .slice na nl nc, .slice aa 0 ac] 28)) hs2
        rw [hfr] at hcall
        go_fit hcall
        clear hcall
        rintro e w1 ⟨rfl, hb1⟩
        have Hst : Hid (Below (w.heap.size + 1) (w.alloc (.cells #[.int .i64 3, .int .i64 dk, .int .i64 dn, .string ds, .slice da dl dc, .string s, .int .i64 n, .slice na nl nc, .slice aa 0 ac] 28)) w1) := hid (hb1.mono (by simp))
        obtain ⟨c0, c1, c2, c3, c4, c5, c6, c7, c8⟩ := HBx.out _ Hst.out
        dsimp only at c0 c1 c2 c3 c4 c5 c6 c7 c8; rw [HNl.out] at c7
        go_wp2_with fail
        go_ret
        exact ⟨ret_int HR0.out.symm, hb0.out.trans (Hst.out.mono (by omega))⟩
  · have HC1 := hid (show countB 3 s ns m = false by simp [countB]; omega)
    have HR0 := hid (show R = 10 by rw [HX.out, HC1.out]; simp)
    have hcb : ((m : Int) == 0) = false := by simp; omega
    have Hst := hid (Below.refl (w.heap.size + 1) (w.alloc (.cells #[.int .i64 3, .int .i64 dk, .int .i64 dn, .string ds, .slice da dl dc, .string s, .int .i64 n, .slice na nl nc, .slice aa m ac] 28)))

    go_enter Try.func11, Try.ntmps11
    go_wp2_with fail
    go_ret
    exact ⟨ret_int HR0.out.symm, hb0.out.trans (Hst.out.mono (by omega))⟩
set_option maxHeartbeats 4000000 in
theorem rf_2 (W : World) (B : Nat) (pu : Bool) (olds ro : Int) (hro : RoOk pu olds ro) (d : Nat) (ih : ∀ y l, RfAt W B pu olds ro d y l) (x : Xn) (ks : List Ex) (hk : x.k = 2) : RfAt W B pu olds ro (d + 1) x ks := by
  intro ba bs bl bc w hW hB hF hbs hbl hb40 hbc
  have HBl := hid hbl
  clear hbl
  have hO := hF.1
  have HKs := hid hF.kids
  obtain ⟨m, hml⟩ : ∃ m, m = ks.length := ⟨_, rfl⟩
  rw [← hml] at hO HKs ⊢
  have hb0 := hid ((Below.refl w.heap.size w).alloc (Nat.le_refl _) (.cells (xcs x m) 28))
  have HBx := hid (fun (w' : World) (h : Below (w.heap.size + 1) (w.alloc (.cells (xcs x m) 28)) w') => lies_new h)
  have hm := hO.alen
  have hnl := hO.nlen
  have hs := hO.size
  have hs2 : x.s.size ≤ 9223372036854775807 := by have : maxLen = 9223372036854775807 := rfl; omega
  have HST := hid hO.strs
  have HFine := hid hO.fine
  have HBs := hid hbs
  have HX := hid (exI_is (W := W) (pure := pu) (olds := olds) (d := d) (scope := bs) (x := x) hml)
  have HMany := hid (fun j t => @kid_many (exI W pu olds d) bs x ks m j t hml)
  have HKin := hid (fun j t => @kid_in (exI W pu olds d) bs x ks m j t hml)
  have HKout := hid (fun j t => @kid_out (exI W pu olds d) bs x ks m j t hml)
  rw [← HBl.out] at HMany HKin
  have HIn := hid (isIn_any (w.alloc (.cells (xcs x m) 28)) w.heap.size ba bs bl bc x.s (hbs.below hb0.out) (by have := HBl.out; omega) (by omega))
  rw [show bs.take bl = bs from List.take_of_length_le (by have := HBl.out; omega)] at HIn
  generalize exI W pu olds (d + 1) bs (.mk x ks) = R at HX ⊢
  generalize kidI (exI W pu olds d) bs x ks = kf at *
  have HF := hid (fun j => firstI_step kf m j)
  have HS := hid (fun j => firstI_stop kf m j)
  have HEn := hid (fun j => firstI_end kf m j)
  clear hO hbs hF hml
  unfold xaloneI at HX
  obtain ⟨k, dk, dn, ds, da, dl, dc, s, n, na, ns, nc, aa, ac⟩ := x
  dsimp only [xv, xcs] at *
  subst hk
  generalize hnn : ns.length = nl at *
  have HNl := hid hnn
  clear hnn
  have hm2 : (m : Int) ≤ 9223372036854775807 := by have : maxLen = 9223372036854775807 := rfl; omega
  have hm3 : (0 : Int) ≤ m := by omega
  have hn2 : (nl : Int) ≤ 1000000000000000 := by omega
  have hRo : (pu = false ∧ olds = 0 ∧ ro = -1) ∨ (pu = true ∧ ro = olds ∧ 0 ≤ olds ∧ olds ≤ 6) := hro
  clear hro
  by_cases hc : m = 0
  · subst hc
    have HC1 := hid (show countB 2 s ns ((0 : Nat) : Int) = true by simp [countB])
    cases hhs : hasS bs s
    · have HR0 := hid (show R = 6 by rw [HX.out, HC1.out]; simp [namedB, hhs])
      have Hst := hid (Below.refl (w.heap.size + 1) (w.alloc (.cells #[.int .i64 2, .int .i64 dk, .int .i64 dn, .string ds, .slice da dl dc, .string s, .int .i64 n, .slice na nl nc, .slice aa 0 ac] 28)))
      go_enter Try.func11, Try.ntmps11
      go_wp2_with fail
      have hcall := HIn.out
      rw [hhs] at hcall
      go_fit hcall
      clear hcall
      rintro e w1 ⟨rfl, hw1⟩
      obtain rfl := hw1.symm
      go_wp2_with fail
      go_ret
      exact ⟨ret_int HR0.out.symm, hb0.out.trans (Hst.out.mono (by omega))⟩
    · have HN1 := hid (show namedB 2 s n ns bs = true by simp [namedB, hhs])
      rcases hRo with ⟨hpu, hol, hr⟩ | ⟨hpu, hr, hr0, hr6⟩
      · obtain rfl : ro = -1 := hr
        have HPu := hid hpu
        clear hpu hol
        have HR0 := hid (show R = 0 by rw [HX.out, HC1.out, HN1.out, HPu.out]; simp [firstI])
        have Hst := hid (Below.refl (w.heap.size + 1) (w.alloc (.cells #[.int .i64 2, .int .i64 dk, .int .i64 dn, .string ds, .slice da dl dc, .string s, .int .i64 n, .slice na nl nc, .slice aa 0 ac] 28)))
        go_enter Try.func11, Try.ntmps11
        go_wp2_with fail
        have hcall := HIn.out
        rw [hhs] at hcall
        go_fit hcall
        clear hcall
        rintro e w1 ⟨rfl, hw1⟩
        obtain rfl := hw1.symm
        go_wp2_with fail
        go_loopw [10] (fun i wr => i = .int .i64 0 ∧ Below (w.heap.size + 1) (w.alloc (.cells #[.int .i64 2, .int .i64 dk, .int .i64 dn, .string ds, .slice da dl dc, .string s, .int .i64 n, .slice na nl nc, .slice aa 0 ac] 28)) wr) (fun _ _ => 0)
        case atStart => exact ⟨rfl, Hst.out⟩
        case round =>
          obtain ⟨rfl, hbr⟩ := hrel
          have HBw := hid (hb0.out.trans (hbr.mono (by omega)))
          obtain ⟨c0, c1, c2, c3, c4, c5, c6, c7, c8⟩ := HBx.out _ hbr
          dsimp only at c0 c1 c2 c3 c4 c5 c6 c7 c8; rw [HNl.out] at c7
          go_wp2_with fail
          go_ret
          exact ⟨ret_int HR0.out.symm, HBw.out⟩
      · have HPu := hid hpu
        have hr7 : ¬ ro < 0 := by omega
        clear hpu hr hr6
        have HR0 := hid (show R = 15 by rw [HX.out, HC1.out, HN1.out, HPu.out]; simp [pureB])
        have Hst := hid (Below.refl (w.heap.size + 1) (w.alloc (.cells #[.int .i64 2, .int .i64 dk, .int .i64 dn, .string ds, .slice da dl dc, .string s, .int .i64 n, .slice na nl nc, .slice aa 0 ac] 28)))
        go_enter Try.func11, Try.ntmps11
        go_wp2_with fail
        have hcall := HIn.out
        rw [hhs] at hcall
        go_fit hcall
        clear hcall
        rintro e w1 ⟨rfl, hw1⟩
        obtain rfl := hw1.symm
        go_wp2_with fail
        go_ret
        exact ⟨ret_int HR0.out.symm, hb0.out.trans (Hst.out.mono (by omega))⟩
  · have HC1 := hid (show countB 2 s ns m = false by simp [countB]; omega)
    have HR0 := hid (show R = 10 by rw [HX.out, HC1.out]; simp)
    have hcb : ((m : Int) == 0) = false := by simp; omega
    have Hst := hid (Below.refl (w.heap.size + 1) (w.alloc (.cells #[.int .i64 2, .int .i64 dk, .int .i64 dn, .string ds, .slice da dl dc, .string s, .int .i64 n, .slice na nl nc, .slice aa m ac] 28)))

    go_enter Try.func11, Try.ntmps11
    go_wp2_with fail
    go_ret
    exact ⟨ret_int HR0.out.symm, hb0.out.trans (Hst.out.mono (by omega))⟩
set_option maxHeartbeats 4000000 in
theorem rf_1 (W : World) (B : Nat) (pu : Bool) (olds ro : Int) (hro : RoOk pu olds ro) (d : Nat) (ih : ∀ y l, RfAt W B pu olds ro d y l) (x : Xn) (ks : List Ex) (hk : x.k = 1) : RfAt W B pu olds ro (d + 1) x ks := by
  intro ba bs bl bc w hW hB hF hbs hbl hb40 hbc
  have HBl := hid hbl
  clear hbl
  have hO := hF.1
  have HKs := hid hF.kids
  obtain ⟨m, hml⟩ : ∃ m, m = ks.length := ⟨_, rfl⟩
  rw [← hml] at hO HKs ⊢
  have hb0 := hid ((Below.refl w.heap.size w).alloc (Nat.le_refl _) (.cells (xcs x m) 28))
  have HBx := hid (fun (w' : World) (h : Below (w.heap.size + 1) (w.alloc (.cells (xcs x m) 28)) w') => lies_new h)
  have hm := hO.alen
  have hnl := hO.nlen
  have hs := hO.size
  have hs2 : x.s.size ≤ 9223372036854775807 := by have : maxLen = 9223372036854775807 := rfl; omega
  have HST := hid hO.strs
  have HFine := hid hO.fine
  have HBs := hid hbs
  have HX := hid (exI_is (W := W) (pure := pu) (olds := olds) (d := d) (scope := bs) (x := x) hml)
  have HMany := hid (fun j t => @kid_many (exI W pu olds d) bs x ks m j t hml)
  have HKin := hid (fun j t => @kid_in (exI W pu olds d) bs x ks m j t hml)
  have HKout := hid (fun j t => @kid_out (exI W pu olds d) bs x ks m j t hml)
  rw [← HBl.out] at HMany HKin
  generalize exI W pu olds (d + 1) bs (.mk x ks) = R at HX ⊢
  generalize kidI (exI W pu olds d) bs x ks = kf at *
  have HF := hid (fun j => firstI_step kf m j)
  have HS := hid (fun j => firstI_stop kf m j)
  have HEn := hid (fun j => firstI_end kf m j)
  clear hO hbs hF hml
  unfold xaloneI at HX
  obtain ⟨k, dk, dn, ds, da, dl, dc, s, n, na, ns, nc, aa, ac⟩ := x
  dsimp only [xv, xcs] at *
  subst hk
  generalize hnn : ns.length = nl at *
  have HNl := hid hnn
  clear hnn
  have hm2 : (m : Int) ≤ 9223372036854775807 := by have : maxLen = 9223372036854775807 := rfl; omega
  have hm3 : (0 : Int) ≤ m := by omega
  have hn2 : (nl : Int) ≤ 1000000000000000 := by omega
  have hRo : (pu = false ∧ olds = 0 ∧ ro = -1) ∨ (pu = true ∧ ro = olds ∧ 0 ≤ olds ∧ olds ≤ 6) := hro
  clear hro
  by_cases hc : m = 0
  · subst hc
    have HC1 := hid (show countB 1 s ns ((0 : Nat) : Int) = true by simp [countB])
    have HD := hid (rDatum_any W B dk dn ds da dl dc _ (hW.trans (hb0.out.mono hB)) (by simp; omega) HFine.out)
    generalize fltI W 40 dk dn ds da dl = f at *
    by_cases hf : f = 0
    · subst hf
      rcases hRo with ⟨hpu, hol, hr⟩ | ⟨hpu, hr, hr0, hr6⟩
      · obtain rfl : ro = -1 := hr
        have HPu := hid hpu
        clear hpu hol
        have HR0 := hid (show R = 0 by rw [HX.out, HC1.out, HPu.out]; simp [namedB, firstI])
        go_enter Try.func11, Try.ntmps11
        go_wp2_with fail
        have hcall := HD.out
        go_fit hcall
        clear hcall
        rintro e w1 ⟨rfl, hb1⟩
        have Hst : Hid (Below (w.heap.size + 1) (w.alloc (.cells #[.int .i64 1, .int .i64 dk, .int .i64 dn, .string ds, .slice da dl dc, .string s, .int .i64 n, .slice na nl nc, .slice aa 0 ac] 28)) w1) := hid (hb1.mono (by simp))
        obtain ⟨c0, c1, c2, c3, c4, c5, c6, c7, c8⟩ := HBx.out _ Hst.out
        dsimp only at c0 c1 c2 c3 c4 c5 c6 c7 c8; rw [HNl.out] at c7
        go_wp2_with fail
        go_loopw [10] (fun i wr => i = .int .i64 0 ∧ Below (w.heap.size + 1) (w.alloc (.cells #[.int .i64 1, .int .i64 dk, .int .i64 dn, .string ds, .slice da dl dc, .string s, .int .i64 n, .slice na nl nc, .slice aa 0 ac] 28)) wr) (fun _ _ => 0)
        case atStart => exact ⟨rfl, Hst.out⟩
        case round =>
          obtain ⟨rfl, hbr⟩ := hrel
          have HBw := hid (hb0.out.trans (hbr.mono (by omega)))
          obtain ⟨c0, c1, c2, c3, c4, c5, c6, c7, c8⟩ := HBx.out _ hbr
          dsimp only at c0 c1 c2 c3 c4 c5 c6 c7 c8; rw [HNl.out] at c7
          go_wp2_with fail
          go_ret
          exact ⟨ret_int HR0.out.symm, HBw.out⟩
      · have HPu := hid hpu
        have hr7 : ¬ ro < 0 := by omega
        clear hpu hr hr6
        have HR0 := hid (show R = 0 by rw [HX.out, HC1.out, HPu.out]; simp [namedB, pureB, firstI])
        go_enter Try.func11, Try.ntmps11
        go_wp2_with fail
        have hcall := HD.out
        go_fit hcall
        clear hcall
        rintro e w1 ⟨rfl, hb1⟩
        have Hst : Hid (Below (w.heap.size + 1) (w.alloc (.cells #[.int .i64 1, .int .i64 dk, .int .i64 dn, .string ds, .slice da dl dc, .string s, .int .i64 n, .slice na nl nc, .slice aa 0 ac] 28)) w1) := hid (hb1.mono (by simp))
        obtain ⟨c0, c1, c2, c3, c4, c5, c6, c7, c8⟩ := HBx.out _ Hst.out
        dsimp only at c0 c1 c2 c3 c4 c5 c6 c7 c8; rw [HNl.out] at c7
        go_wp2_with fail
        go_loopw [10] (fun i wr => i = .int .i64 0 ∧ Below (w.heap.size + 1) (w.alloc (.cells #[.int .i64 1, .int .i64 dk, .int .i64 dn, .string ds, .slice da dl dc, .string s, .int .i64 n, .slice na nl nc, .slice aa 0 ac] 28)) wr) (fun _ _ => 0)
        case atStart => exact ⟨rfl, Hst.out⟩
        case round =>
          obtain ⟨rfl, hbr⟩ := hrel
          have HBw := hid (hb0.out.trans (hbr.mono (by omega)))
          obtain ⟨c0, c1, c2, c3, c4, c5, c6, c7, c8⟩ := HBx.out _ hbr
          dsimp only at c0 c1 c2 c3 c4 c5 c6 c7 c8; rw [HNl.out] at c7
          go_wp2_with fail
          go_ret
          exact ⟨ret_int HR0.out.symm, HBw.out⟩
    · have hfb : (f == 0) = false := by simpa using hf
      have HR0 := hid (show R = 4 by rw [HX.out, HC1.out]; simp [namedB, hf])
      go_enter Try.func11, Try.ntmps11
      go_wp2_with fail
      have hcall := HD.out
      go_fit hcall
      clear hcall
      rintro e w1 ⟨rfl, hb1⟩
      have Hst : Hid (Below (w.heap.size + 1) (w.alloc (.cells #[.int .i64 1, .int .i64 dk, .int .i64 dn, .string ds, .slice da dl dc, .string s, .int .i64 n, .slice na nl nc, .slice aa 0 ac] 28)) w1) := hid (hb1.mono (by simp))
      obtain ⟨c0, c1, c2, c3, c4, c5, c6, c7, c8⟩ := HBx.out _ Hst.out
      dsimp only at c0 c1 c2 c3 c4 c5 c6 c7 c8; rw [HNl.out] at c7
      go_wp2_with fail
      go_ret
      exact ⟨ret_int HR0.out.symm, hb0.out.trans (Hst.out.mono (by omega))⟩
  · have HC1 := hid (show countB 1 s ns m = false by simp [countB]; omega)
    have HR0 := hid (show R = 10 by rw [HX.out, HC1.out]; simp)
    have hcb : ((m : Int) == 0) = false := by simp; omega
    have Hst := hid (Below.refl (w.heap.size + 1) (w.alloc (.cells #[.int .i64 1, .int .i64 dk, .int .i64 dn, .string ds, .slice da dl dc, .string s, .int .i64 n, .slice na nl nc, .slice aa m ac] 28)))

    go_enter Try.func11, Try.ntmps11
    go_wp2_with fail
    go_ret
    exact ⟨ret_int HR0.out.symm, hb0.out.trans (Hst.out.mono (by omega))⟩
end Go.Proofs.Yteblglkmkakcjaa

/- An expression and what is in it, in package code: check: P5.1. -/
import Derived.Test.YteblglkmkakcjaaCCheck
import Derived.Test.YteblglkmkakcjaaCTwo
import Derived.Test.YteblglkmkakcjaaCKids
namespace Go.Proofs.Yteblglkmkakcjaa
set_option maxRecDepth 100000
open Go.RowKit Go.WideMaps Go.Maps
theorem xal_binds {W : World} {pu : Bool} {olds : Int} {bs : List ByteArray} {x : Xn} {m j : Nat} (h : xaloneI W pu olds bs x m = 0) (hb : bindsB x.k m j = true) : x.ns.length ≤ 6 := by
  have hk : ¬ (x.k < 1 ∨ 15 < x.k) := fun q => by rw [xal_kind q] at h; cases h
  have hc : countB x.k x.s x.ns m = true := by
    cases hc : countB x.k x.s x.ns m
    · rw [xal_count hk hc] at h; cases h
    · rfl
  have h56 : x.k = 6 ∨ x.k = 5 := by
    unfold bindsB at hb
    simp at hb
    rcases hb with h | h
    · exact Or.inl h
    · exact Or.inr h.1
  rcases h56 with h6 | h5
  · rw [h6] at hc; simp [countB] at hc; omega
  · rw [h5] at hc; simp [countB] at hc; omega
def CkOk (W : World) (B : Nat) (pu : Bool) (olds : Int) (d : Nat) : Prop :=
  ∀ (y : Xn) (l : List Ex) (p : Nat) (ba : Option Addr) (bs : List ByteArray) (bl bc : Nat) (w : World), Below B W w → B ≤ w.heap.size → FineX W B d (.mk y l) → Owns w p prims → Strs w w.heap.size ba bs → bl = bs.length → bl ≤ 40 → bl ≤ bc →
    Calls Try.prog 10 #[ckv p pu olds, xv y l.length, .slice ba bl bc] w fun e w' => e = .returned (.int .i64 (exI W pu olds d bs (.mk y l))) ∧ Below w.heap.size w w'
set_option maxHeartbeats 4000000 in
theorem ccheck_any (W : World) (B : Nat) (pu : Bool) (olds : Int) : ∀ d, CkOk W B pu olds d := by
  intro d
  induction d with
  | zero => intro y l p ba bs bl bc w hW hB hF; exact absurd hF (by simp [FineX])
  | succ d ih =>
    intro x ks p ba bs bl bc w hW hB hF hp hbs hbl hb40 hbc
    have HBl := hid hbl
    clear hbl
    have hO := hF.1
    have HKs := hid hF.kids
    obtain ⟨m, hml⟩ : ∃ m, m = ks.length := ⟨_, rfl⟩
    rw [← hml] at hO HKs ⊢
    have hb0 := hid (bxB w p pu olds x m)
    have hz0 : (bxW w p pu olds x m).heap.size = w.heap.size + 2 := by simp
    have hA := checkAlone_any W B p pu olds x m ba bs bl bc _ (hW.trans (hb0.out.mono hB)) (by rw [hz0]; omega) hO (owns_below hp hb0.out) ((hbs.below hb0.out).mono (by rw [hz0]; omega)) HBl.out hb40
    rw [hz0] at hA
    have HA := hid hA
    have HML := hid hml
    clear hA hF hml
    by_cases hE : xaloneI W pu olds bs x m = 0
    · rw [hE] at HA
      have HX := hid (exI_pos (W := W) (pure := pu) (olds := olds) (d := d) (scope := bs) (x := x) (ks := ks) (by rw [← HML.out]; exact hE))
      have HBd := hid (fun j => xal_binds (j := j) hE)
      rw [← HML.out] at HX
      clear hE
      have hm := hO.alen
      have hnl := hO.nlen
      have HST := hid hO.strs
      have HBx := hid (fun (w' : World) (h : Below (w.heap.size + 2) (bxW w p pu olds x m) w') => bxC h)
      have HBi := hid (fun (j : Nat) (w' : World) => bindsIn_any x m j w' hm)
      have HMany := hid (fun j t => @kid_many (exI W pu olds d) bs x ks m j t HML.out)
      have HKin := hid (fun j t => @kid_in (exI W pu olds d) bs x ks m j t HML.out)
      have HKout := hid (fun j t => @kid_out (exI W pu olds d) bs x ks m j t HML.out)
      rw [← HBl.out] at HMany HKin
      have HP := hid hp
      have HBs := hid hbs
      generalize exI W pu olds (d + 1) bs (.mk x ks) = R at HX ⊢
      generalize kidI (exI W pu olds d) bs x ks = kf at *
      have HF := hid (fun j => firstI_step kf m j)
      have HS := hid (fun j => firstI_stop kf m j)
      have HEn := hid (fun j => firstI_end kf m j)
      clear hO hp hbs
      obtain ⟨k, dk, dn, ds, da, dl, dc, s, n, na, ns, nc, aa, ac⟩ := x
      dsimp only [xv, ckv, bxW, xcs] at *
      generalize hnn : ns.length = nl at *
      have HNl := hid hnn
      clear hnn
      have hm2 : (m : Int) ≤ 9223372036854775807 := by have : maxLen = 9223372036854775807 := rfl; omega
      go_enter Try.func10, Try.ntmps10
      go_wp2_with fail
      have hcall := HA.out
      go_fit hcall
      clear hcall
      rintro e w1 ⟨rfl, hb1⟩
      obtain ⟨a0, a1, a2, ⟨c0, c1, c2, c3, c4, c5, c6, c7, c8⟩⟩ := HBx.out _ hb1
      dsimp only at c0 c1 c2 c3 c4 c5 c6 c7 c8
      rw [HNl.out] at c7
      have HB1 := hid hb1
      go_wp2_with fail
      clear a0 a1 a2 c0 c1 c2 c3 c4 c5 c6 c7 c8 hb1
      go_loopw [22] (fun i wr => ∃ j : Nat, j ≤ m ∧ i = .int .i64 j ∧ R = firstI kf j (m - j) ∧ Below (w.heap.size + 2) ((w.alloc (.cells #[.map (some p), .bool pu, .int .i64 olds] 37)).alloc (.cells #[.int .i64 k, .int .i64 dk, .int .i64 dn, .string ds, .slice da dl dc, .string s, .int .i64 n, .slice na nl nc, .slice aa m ac] 28)) wr) (fun i _ => m - (intOf i).toNat)
      case atStart => exact ⟨0, Nat.zero_le _, rfl, HX.out, HB1.out⟩
      case round =>
        obtain ⟨j, hj, rfl, hfi, hbr⟩ := hrel
        have HFi := hid hfi
        clear hfi
        have hzr := hbr.size
        simp at hzr
        obtain ⟨a0, a1, a2, ⟨c0, c1, c2, c3, c4, c5, c6, c7, c8⟩⟩ := HBx.out _ hbr
        dsimp only at c0 c1 c2 c3 c4 c5 c6 c7 c8
        rw [HNl.out] at c7
        have HBr := hid hbr
        have HWr := hid ((hW.trans (hb0.out.mono hB)).trans (hbr.mono (by omega)))
        have HBw := hid (hb0.out.trans (hbr.mono (by omega)))
        clear hbr
        by_cases hlt : j < m
        · have hlt2 : (j : Int) < m := by omega
          obtain ⟨y, l, b, o, hget, rfl, hbB, hL, hFk⟩ := HKs.out j hlt
          have HMj := hid (HMany.out j _ hget)
          have HIj := hid (HKin.out j _ hget)
          have HOj := hid (HKout.out j _ hget)
          have HIH := hid (fun (w' : World) (ba : Option Addr) (bs' : List ByteArray) (bl' bc' : Nat) => ih y l p ba bs' bl' bc' w')
          have HFj := hid (HF.out j hlt)
          have HSj := hid (HS.out j hlt)
          obtain ⟨l0, l1, l2, l3, l4, l5, l6, l7, l8⟩ := hL.below HWr.out hbB
          have hbl : b < wr.heap.size := by omega
          have hx1 : w.heap.size < wr.heap.size := by omega
          have hx2 : w.heap.size + 1 < wr.heap.size := by omega
          have HLn := hid (fun (w' : World) (h : Below (wr.heap.size + 1) (wr.alloc (.cells (xcs y l.length) 28)) w') => lies_new h)
          have HFk := hid hFk
          have HBj := hid (HBi.out j)
          have HBdj := hid (HBd.out j)
          clear hL hget hFk
          generalize bindsB k m j = bn at *
          generalize l.length = ml at *
          obtain ⟨k', dk', dn', ds', da', dl', dc', s', n', na', ns', nc', aa', ac'⟩ := y
          dsimp only [xv, ckv, bxW, xcs] at *
          generalize hnn' : ns'.length = nl' at *
          have HNl' := hid hnn'
          clear hnn'
          go_wp2_with fail
          have hcall := HBj.out (wr.alloc (.cells #[.int .i64 k', .int .i64 dk', .int .i64 dn', .string ds', .slice da' dl' dc', .string s', .int .i64 n', .slice na' nl' nc', .slice aa' ml ac'] 28))
          go_fit hcall
          clear hcall
          rintro e w2 ⟨rfl, hb2⟩
          have hb3 : Below (wr.heap.size + 1) (wr.alloc (.cells #[.int .i64 k', .int .i64 dk', .int .i64 dn', .string ds', .slice da' dl' dc', .string s', .int .i64 n', .slice na' nl' nc', .slice aa' ml ac'] 28)) w2 := hb2.mono (by simp)
          have hz3 := hb3.size
          simp at hz3
          have HB2 := hid (((Below.refl wr.heap.size wr).alloc (Nat.le_refl _) (.cells #[.int .i64 k', .int .i64 dk', .int .i64 dn', .string ds', .slice da' dl' dc', .string s', .int .i64 n', .slice na' nl' nc', .slice aa' ml ac'] 28)).trans (hb3.mono (by omega)))
          have HB3 := hid hb3
          have HBr2 := hid (HBr.out.trans (HB2.out.mono (by omega)))
          obtain ⟨p0, p1, p2, ⟨q0, q1, q2, q3, q4, q5, q6, q7, q8⟩⟩ := HBx.out _ HBr2.out
          dsimp only at q0 q1 q2 q3 q4 q5 q6 q7 q8; rw [HNl.out] at q7
          obtain ⟨r0, r1, r2, r3, r4, r5, r6, r7, r8⟩ := HLn.out _ hb3
          dsimp only at r0 r1 r2 r3 r4 r5 r6 r7 r8; rw [HNl'.out] at r7
          clear hb2 hb3 a0 a1 a2 c0 c1 c2 c3 c4 c5 c6 c7 c8 l0 l1 l2 l3 l4 l5 l6 l7 l8 HBi HBj
          cases bn
          · have HKj := hid (HOj.out rfl)
            clear HMj HIj HOj HBdj
            rw [HKj.out] at HFj HSj
            have hcall := HIH.out w2 ba bs bl bc (HWr.out.trans (HB2.out.mono (by omega))) (by omega) HFk.out (owns_below (owns_below HP.out HBw.out) HB2.out) (((HBs.out.below HBw.out).below (HB2.out.mono (by omega))).mono (by omega)) HBl.out hb40 hbc
            have HC := hid hcall
            clear hcall
            generalize exI W pu olds d bs _ = r at HC HKj HFj HSj
            go_wp2_with fail
            have hcall := HC.out
            go_fit hcall
            clear hcall
            rintro e w4 ⟨rfl, hb4⟩
            by_cases hr : r = 0
            · have HSS := hid (HFj.out hr)
              go_wp2_with fail
              go_roundw
              case rel => exact ⟨j + 1, by omega, by go_num, HFi.out.trans HSS.out, HBr2.out.trans (hb4.mono (by omega))⟩
              case measure => simp [intOf]; omega
            · have hrb : (r == 0) = false := by simpa using hr
              have HTT := hid (HFi.out.trans (HSj.out hr))
              go_wp2_with fail
              go_ret
              exact ⟨ret_int HTT.out.symm, HBw.out.trans ((HB2.out.mono (by omega)).trans (hb4.mono (by omega)))⟩
          · have hn6 := HBdj.out rfl
            clear HOj HBdj
            have hst2 := (HST.out.below (HWr.out.trans (HB2.out.mono (by omega)))).mono (show B ≤ w2.heap.size by omega)
            have hbs2 := ((HBs.out.below HBw.out).below (HB2.out.mono (by omega))).mono (show w.heap.size ≤ w2.heap.size by omega)
            have HCc := hid (concat2 w2 ba na bs ns bl nl bc nc w2.heap.size rfl HBl.out HNl.out.symm hbs2 hst2 hb40 hn6)
            clear hst2 hbs2
            go_wp2_with fail
            have hcall := HCc.out
            go_fit hcall
            clear hcall
            rintro e w3 ⟨a3, cap3, rfl, hcap3, hstr3, hb4⟩
            have hz4 := hb4.size
            simp at hz4
            have HB4 := hid (((Below.refl w2.heap.size w2).alloc (Nat.le_refl _) (.cells #[.slice ba bl bc, .slice na nl nc] 25)).trans (hb4.mono (by omega)))
            have HBr3 := hid (HBr2.out.trans (HB4.out.mono (by omega)))
            have HB5 := hid (HB3.out.trans (HB4.out.mono (by omega)))
            clear p0 p1 p2 q0 q1 q2 q3 q4 q5 q6 q7 q8 r0 r1 r2 r3 r4 r5 r6 r7 r8
            obtain ⟨p0, p1, p2, ⟨q0, q1, q2, q3, q4, q5, q6, q7, q8⟩⟩ := HBx.out _ HBr3.out
            dsimp only at q0 q1 q2 q3 q4 q5 q6 q7 q8; rw [HNl.out] at q7
            obtain ⟨r0, r1, r2, r3, r4, r5, r6, r7, r8⟩ := HLn.out _ HB5.out
            dsimp only at r0 r1 r2 r3 r4 r5 r6 r7 r8; rw [HNl'.out] at r7
            clear hb4
            have hsum : (bl : Int) + nl ≤ 46 := by omega
            by_cases h40 : 40 < bl + nl
            · have HKj := hid (HMj.out (by first | rfl | trivial) h40)
              rw [HKj.out] at HSj
              have h402 : (40 : Int) < (bl + nl : Nat) := by omega
              have HTT := hid (HFi.out.trans (HSj.out (by omega)))
              generalize bl + nl = bn at *
              go_wp2_with fail
              go_ret
              exact ⟨ret_int HTT.out.symm, HBw.out.trans ((HB2.out.mono (by omega)).trans (HB4.out.mono (by omega)))⟩
            · have HKj := hid (HIj.out (by first | rfl | trivial) h40)
              clear HMj HIj
              rw [HKj.out] at HFj HSj
              have h402 : ¬ (40 : Int) < (bl + nl : Nat) := by omega
              have hcall := HIH.out w3 a3 (bs ++ ns) (bl + nl) cap3 (HWr.out.trans ((HB2.out.trans (HB4.out.mono (by omega))).mono (by omega))) (by omega) HFk.out (owns_below (owns_below HP.out HBw.out) (HB2.out.trans (HB4.out.mono (by omega)))) hstr3 (by rw [List.length_append, HBl.out, HNl.out]) (by omega) hcap3
              have HC := hid hcall
              clear hcall
              generalize exI W pu olds d (bs ++ ns) _ = r at HC HKj HFj HSj
              generalize bl + nl = bn at *
              go_wp2_with fail
              have hcall := HC.out
              go_fit hcall
              clear hcall
              rintro e w4 ⟨rfl, hb4⟩
              by_cases hr : r = 0
              · have HSS := hid (HFj.out hr)
                go_wp2_with fail
                go_roundw
                case rel => exact ⟨j + 1, by omega, by go_num, HFi.out.trans HSS.out, HBr3.out.trans (hb4.mono (by omega))⟩
                case measure => simp [intOf]; omega
              · have hrb : (r == 0) = false := by simpa using hr
                have HTT := hid (HFi.out.trans (HSj.out hr))
                go_wp2_with fail
                go_ret
                exact ⟨ret_int HTT.out.symm, HBw.out.trans (((HB2.out.trans (HB4.out.mono (by omega))).mono (by omega)).trans (hb4.mono (by omega)))⟩
        · have hlt2 : ¬ (j : Int) < m := by omega
          have HE2 := hid (HFi.out.trans (HEn.out j hlt))
          go_wp2_with fail
          go_ret
          exact ⟨ret_int HE2.out.symm, HBw.out⟩
    · have HX := hid (exI_neg (W := W) (pure := pu) (olds := olds) (d := d) (scope := bs) (x := x) (ks := ks) (by rw [← HML.out]; exact hE))
      rw [← HML.out] at HX
      generalize exI W pu olds (d + 1) bs (.mk x ks) = R at HX ⊢
      generalize xaloneI W pu olds bs x m = r at *
      have hEb : (r == 0) = false := by simpa using hE
      have HBx := hid (fun (w' : World) (h : Below (w.heap.size + 2) (bxW w p pu olds x m) w') => bxC h)
      clear hO hp hbs HKs
      obtain ⟨k, dk, dn, ds, da, dl, dc, s, n, na, ns, nc, aa, ac⟩ := x
      dsimp only [xv, ckv, bxW, xcs] at *
      generalize ns.length = nl at *
      go_enter Try.func10, Try.ntmps10
      go_wp2_with fail
      have hcall := HA.out
      go_fit hcall
      clear hcall
      rintro e w1 ⟨rfl, hb1⟩
      go_wp2_with fail
      go_ret
      exact ⟨ret_int HX.out.symm, hb0.out.trans (hb1.mono (by omega))⟩
end Go.Proofs.Yteblglkmkakcjaa

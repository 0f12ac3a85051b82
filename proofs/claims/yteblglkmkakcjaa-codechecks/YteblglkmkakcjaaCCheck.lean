/- One expression without what is in it, in package code: checkAlone: P5.1. -/
import Derived.Test.YteblglkmkakcjaaCNamed
namespace Go.Proofs.Yteblglkmkakcjaa
set_option maxRecDepth 100000
open Go.RowKit Go.WideMaps Go.Maps
/-- A checker and an expression in boxes of a call's own. -/
abbrev bxW (w : World) (p : Nat) (pu : Bool) (olds : Int) (x : Xn) (m : Nat) : World :=
  (w.alloc (.cells #[.map (some p), .bool pu, .int .i64 olds] 37)).alloc (.cells (xcs x m) 28)
structure BxC (w' : World) (q p : Nat) (pu : Bool) (olds : Int) (x : Xn) (m : Nat) : Prop where
  a0 : w'.cell? ⟨q, 0, none⟩ = some (.map (some p))
  a1 : w'.cell? ⟨q, 1, none⟩ = some (.bool pu)
  a2 : w'.cell? ⟨q, 2, none⟩ = some (.int .i64 olds)
  lies : Lies w' (q + 1) 0 x m
theorem bxC {w w' : World} {p : Nat} {pu : Bool} {olds : Int} {x : Xn} {m : Nat} (hb : Below (w.heap.size + 2) (bxW w p pu olds x m) w') : BxC w' w.heap.size p pu olds x m := by
  have h0 := fun o => hb.cell (p := ⟨w.heap.size, o, none⟩) (show w.heap.size < w.heap.size + 2 by omega)
  have h1 := fun o => hb.cell (p := ⟨w.heap.size + 1, o, none⟩) (show w.heap.size + 1 < w.heap.size + 2 by omega)
  refine ⟨?_, ?_, ?_, ⟨?_, ?_, ?_, ?_, ?_, ?_, ?_, ?_, ?_⟩⟩
  · rw [h0]; go_simp
  · rw [h0]; go_simp
  · rw [h0]; go_simp
  all_goals (rw [h1]; go_simp)
theorem bxB (w : World) (p : Nat) (pu : Bool) (olds : Int) (x : Xn) (m : Nat) : Below w.heap.size w (bxW w p pu olds x m) := below2 w _ _
theorem xal_kind {W : World} {pu : Bool} {olds : Int} {bs : List ByteArray} {x : Xn} {m : Int} (h : x.k < 1 ∨ 15 < x.k) : xaloneI W pu olds bs x m = 3 := by unfold xaloneI; rw [if_pos h]
theorem xal_count {W : World} {pu : Bool} {olds : Int} {bs : List ByteArray} {x : Xn} {m : Int} (h : ¬ (x.k < 1 ∨ 15 < x.k)) (h2 : countB x.k x.s x.ns m = false) : xaloneI W pu olds bs x m = 10 := by unfold xaloneI; rw [if_neg h, if_pos h2]
theorem xal_name {W : World} {pu : Bool} {olds : Int} {bs : List ByteArray} {x : Xn} {m : Int} (h : ¬ (x.k < 1 ∨ 15 < x.k)) (h2 : countB x.k x.s x.ns m = true) (h3 : namedB x.k x.s x.n x.ns bs = false) : xaloneI W pu olds bs x m = 6 := by
  unfold xaloneI; rw [if_neg h, if_neg (by simp [h2]), if_pos h3]
theorem xal_rest {W : World} {pu : Bool} {olds : Int} {bs : List ByteArray} {x : Xn} {m : Int} (h : ¬ (x.k < 1 ∨ 15 < x.k)) (h2 : countB x.k x.s x.ns m = true) (h3 : namedB x.k x.s x.n x.ns bs = true) : xaloneI W pu olds bs x m =
    if x.k = 1 ∧ ¬ fltI W 40 x.dk x.dn x.ds x.da x.dl = 0 then 4 else if x.k = 15 ∧ (x.n < 0 ∨ olds ≤ x.n) then 4 else if pu = true ∧ pureB x.k = false then 15 else 0 := by
  unfold xaloneI; rw [if_neg h, if_neg (by simp [h2]), if_neg (by simp [h3])]
set_option maxHeartbeats 4000000 in
theorem checkAlone_any (W : World) (B : Nat) (p : Nat) (pu : Bool) (olds : Int) (x : Xn) (m : Nat) (ba : Option Addr) (bs : List ByteArray) (bl bc : Nat) (w : World) (hW : Below B W w) (hB : B ≤ w.heap.size) (hO : OkX W B x m) (hp : Owns w p prims)
    (hbs : Strs w w.heap.size ba bs) (hbl : bl = bs.length) (hb40 : bl ≤ 40) :
    Calls Try.prog 13 #[ckv p pu olds, xv x m, .slice ba bl bc] w fun e w' => e = .returned (.int .i64 (xaloneI W pu olds bs x m)) ∧ Below w.heap.size w w' := by
  have HBl := hid hbl
  clear hbl
  have hb0 := hid (bxB w p pu olds x m)
  have hz2 : (bxW w p pu olds x m).heap.size = w.heap.size + 2 := by simp
  by_cases hk : x.k < 1 ∨ 15 < x.k
  · have HR := hid (xal_kind (W := W) (pu := pu) (olds := olds) (bs := bs) (m := m) hk)
    clear hO hbs hp hz2
    generalize xaloneI W pu olds bs x m = r at HR
    obtain ⟨k, dk, dn, ds, da, dl, dc, s, n, na, ns, nc, aa, ac⟩ := x
    dsimp only [xv, ckv, bxW, xcs] at *
    generalize ns.length = nl at *
    rcases hk with hk | hk
    · go_enter Try.func13, Try.ntmps13
      go_wp2_with fail
      go_ret
      exact ⟨ret_int HR.out.symm, hb0.out⟩
    · have hk3 : ¬ k < 1 := by omega
      go_enter Try.func13, Try.ntmps13
      go_wp2_with fail
      go_ret
      exact ⟨ret_int HR.out.symm, hb0.out⟩
  have hk1 : 1 ≤ x.k := by omega
  have hk2 : x.k ≤ 15 := by omega
  have HCnt := hid (isCounted_any W B p pu olds x m _ (hW.trans (hb0.out.mono hB)) (by rw [hz2]; omega) hO (owns_below hp hb0.out) hk1 hk2)
  rw [hz2] at HCnt
  cases hc : countB x.k x.s x.ns m
  · have HR := hid (xal_count (W := W) (pu := pu) (olds := olds) (bs := bs) hk hc)
    rw [hc] at HCnt
    clear hO hbs hp hz2 hc hk
    generalize xaloneI W pu olds bs x m = r at HR
    obtain ⟨k, dk, dn, ds, da, dl, dc, s, n, na, ns, nc, aa, ac⟩ := x
    dsimp only [xv, ckv, bxW, xcs] at *
    generalize ns.length = nl at *
    have hk3 : ¬ k < 1 := by omega
    have hk4 : ¬ 15 < k := by omega
    go_enter Try.func13, Try.ntmps13
    go_wp2_with fail
    have hcall := HCnt.out
    go_fit hcall
    clear hcall
    rintro e w1 ⟨rfl, hb1⟩
    go_wp2_with fail
    go_ret
    exact ⟨ret_int HR.out.symm, hb0.out.trans (hb1.mono (by omega))⟩
  rw [hc] at HCnt
  have HNam := hid (fun (w' : World) (h : Below (w.heap.size + 2) (bxW w p pu olds x m) w') => isNamed_any W B x m ba bs bl bc w' ((hW.trans (hb0.out.mono hB)).trans (h.mono (by omega))) (by have := h.size; rw [hz2] at this; omega) hO hk1 hk2 hc (((hbs.below hb0.out).below (h.mono (by omega))).mono (by have := h.size; rw [hz2] at this; omega)) HBl.out hb40)
  cases hn : namedB x.k x.s x.n x.ns bs
  · have HR := hid (xal_name (W := W) (pu := pu) (olds := olds) hk hc hn)
    rw [hn] at HNam
    have HBx := hid (fun (w' : World) (h : Below (w.heap.size + 2) (bxW w p pu olds x m) w') => bxC h)
    clear hO hbs hp hz2 hc hk hn
    generalize xaloneI W pu olds bs x m = r at HR
    obtain ⟨k, dk, dn, ds, da, dl, dc, s, n, na, ns, nc, aa, ac⟩ := x
    dsimp only [xv, ckv, bxW, xcs] at *
    generalize hnl : ns.length = nl at *
    have HNl := hid hnl
    clear hnl
    have hk3 : ¬ k < 1 := by omega
    have hk4 : ¬ 15 < k := by omega
    go_enter Try.func13, Try.ntmps13
    go_wp2_with fail
    have hcall := HCnt.out
    go_fit hcall
    clear hcall
    rintro e w1 ⟨rfl, hb1⟩
    obtain ⟨a0, a1, a2, ⟨c0, c1, c2, c3, c4, c5, c6, c7, c8⟩⟩ := HBx.out _ hb1
    dsimp only at c0 c1 c2 c3 c4 c5 c6 c7 c8
    rw [HNl.out] at c7
    go_wp2_with fail
    have hcall := HNam.out _ hb1
    go_fit hcall
    clear hcall
    rintro e w2 ⟨rfl, hb2⟩
    go_wp2_with fail
    go_ret
    have hz := hb1.size
    simp at hz
    exact ⟨ret_int HR.out.symm, (hb0.out.trans (hb1.mono (by omega))).trans (hb2.mono (by omega))⟩
  rw [hn] at HNam
  have HR := hid (xal_rest (W := W) (pu := pu) (olds := olds) hk hc hn)
  have HBx := hid (fun (w' : World) (h : Below (w.heap.size + 2) (bxW w p pu olds x m) w') => bxC h)
  have HF := hid (fun (w' : World) (h : Below (w.heap.size + 2) (bxW w p pu olds x m) w') => rCheck_any W B x.dk x.dn x.ds x.da x.dl x.dc w' ((hW.trans (hb0.out.mono hB)).trans (h.mono (by omega))) (by have := h.size; rw [hz2] at this; omega) hO.fine)
  clear hO hbs hp hz2 hc hk hn
  generalize xaloneI W pu olds bs x m = r at HR
  obtain ⟨k, dk, dn, ds, da, dl, dc, s, n, na, ns, nc, aa, ac⟩ := x
  dsimp only [xv, ckv, bxW, xcs] at *
  generalize fltI W 40 dk dn ds da dl = f at *
  generalize hnl : ns.length = nl at *
  have HNl := hid hnl
  clear hnl
  have hk3 : ¬ k < 1 := by omega
  have hk4 : ¬ 15 < k := by omega
  go_enter Try.func13, Try.ntmps13
  go_wp2_with fail
  have hcall := HCnt.out
  go_fit hcall
  clear hcall
  rintro e w1 ⟨rfl, hb1⟩
  obtain ⟨a0, a1, a2, ⟨c0, c1, c2, c3, c4, c5, c6, c7, c8⟩⟩ := HBx.out _ hb1
  dsimp only at c0 c1 c2 c3 c4 c5 c6 c7 c8
  rw [HNl.out] at c7
  have hz := hb1.size
  simp at hz
  go_wp2_with fail
  have hcall := HNam.out _ hb1
  go_fit hcall
  clear hcall
  rintro e w2 ⟨rfl, hb2⟩
  have hb3 : Below (w.heap.size + 2) _ w2 := hb1.trans (hb2.mono (by omega))
  clear a0 a1 a2 c0 c1 c2 c3 c4 c5 c6 c7 c8
  obtain ⟨a0, a1, a2, ⟨c0, c1, c2, c3, c4, c5, c6, c7, c8⟩⟩ := HBx.out _ hb3
  dsimp only at c0 c1 c2 c3 c4 c5 c6 c7 c8
  rw [HNl.out] at c7
  have hz2 := hb3.size
  simp at hz2
  have HB3 := hid (hb0.out.trans (hb3.mono (by omega)))
  clear hb1 hb2
  by_cases k1 : k = 1
  · subst k1
    go_wp2_with fail
    have hcall := HF.out _ hb3
    go_fit hcall
    clear hcall
    rintro e w3 ⟨rfl, hb4⟩
    have hb5 : Below (w.heap.size + 2) _ w3 := hb3.trans (hb4.mono (by omega))
    clear a0 a1 a2 c0 c1 c2 c3 c4 c5 c6 c7 c8
    obtain ⟨a0, a1, a2, ⟨c0, c1, c2, c3, c4, c5, c6, c7, c8⟩⟩ := HBx.out _ hb5
    dsimp only at c0 c1 c2 c3 c4 c5 c6 c7 c8
    rw [HNl.out] at c7
    have HB5 := hid (hb0.out.trans (hb5.mono (by omega)))
    by_cases hf : f = 0
    · subst hf
      cases pu
      · go_wp2_with fail
        go_ret
        exact ⟨ret_int (by rw [HR.out]; simp), HB5.out⟩
      · go_wp2_with fail
        have hcall := isPure_any 1 w3
        go_fit hcall
        clear hcall
        rintro e w4 ⟨rfl, rfl⟩
        go_wp2_with fail
        go_ret
        exact ⟨ret_int (by rw [HR.out]; simp [pureB]), HB5.out⟩
    · go_wp2_with fail
      go_ret
      exact ⟨ret_int (by rw [HR.out]; simp [hf]), HB5.out⟩
  · have k1b : (k == 1) = false := by simpa using k1
    have HE := hid (show r = (if k = 15 ∧ (n < 0 ∨ olds ≤ n) then 4 else if pu = true ∧ pureB k = false then 15 else 0) by rw [HR.out, if_neg (by simp [k1])])
    clear HR HF
    by_cases hwas : k = 15 ∧ (n < 0 ∨ olds ≤ n)
    · obtain ⟨rfl, hno⟩ := hwas
      have HE2 := hid (HE.out.trans (by rw [if_pos ⟨rfl, hno⟩]))
      rcases hno with hno | hno
      · go_wp2_with fail
        go_ret
        exact ⟨ret_int HE2.out.symm, HB3.out⟩
      · by_cases hn0 : n < 0
        · go_wp2_with fail
          go_ret
          exact ⟨ret_int HE2.out.symm, HB3.out⟩
        · go_wp2_with fail
          go_ret
          exact ⟨ret_int HE2.out.symm, HB3.out⟩
    · have HE2 := hid (HE.out.trans (if_neg hwas))
      have hcase : (¬ k = 15) ∨ (k = 15 ∧ ¬ n < 0 ∧ ¬ olds ≤ n) := by
        by_cases h : k = 15
        · refine Or.inr ⟨h, fun q => hwas ⟨h, Or.inl q⟩, fun q => hwas ⟨h, Or.inr q⟩⟩
        · exact Or.inl h
      clear HE hwas
      cases pu
      · have HE3 := hid (show r = 0 by rw [HE2.out]; simp)
        rcases hcase with h15 | ⟨rfl, hn0, hn1⟩
        · have h15b : (k == 15) = false := by simpa using h15
          go_wp2_with fail
          go_ret
          exact ⟨ret_int HE3.out.symm, HB3.out⟩
        · go_wp2_with fail
          go_ret
          exact ⟨ret_int HE3.out.symm, HB3.out⟩
      · have HP := hid (isPure_any k w2)
        have HE3 := hid (show r = if pureB k = false then 15 else 0 by rw [HE2.out]; simp)
        clear HE2
        generalize pureB k = pb at HP HE3
        cases pb
        all_goals
          rcases hcase with h15 | ⟨rfl, hn0, hn1⟩
          · have h15b : (k == 15) = false := by simpa using h15
            go_wp2_with fail
            have hcall := HP.out
            go_fit hcall
            clear hcall
            rintro e w4 ⟨rfl, rfl⟩
            go_wp2_with fail
            go_ret
            exact ⟨ret_int HE3.out.symm, HB3.out⟩
          · go_wp2_with fail
            have hcall := HP.out
            go_fit hcall
            clear hcall
            rintro e w4 ⟨rfl, rfl⟩
            go_wp2_with fail
            go_ret
            exact ⟨ret_int HE3.out.symm, HB3.out⟩
end Go.Proofs.Yteblglkmkakcjaa

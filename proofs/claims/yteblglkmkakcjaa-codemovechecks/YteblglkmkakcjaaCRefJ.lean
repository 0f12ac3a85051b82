/- The document's exprFault at what is no kind. -/
import Derived.Test.YteblglkmkakcjaaCRefP
namespace Go.Proofs.Yteblglkmkakcjaa
set_option maxRecDepth 100000
open Go.RowKit Go.WideMaps Go.Maps
set_option maxHeartbeats 4000000 in
theorem rf_0 (W : World) (B : Nat) (pu : Bool) (olds ro : Int) (hro : RoOk pu olds ro) (d : Nat) (_ih : ∀ y l, RfAt W B pu olds ro d y l) (x : Xn) (ks : List Ex) (hk : x.k < 1 ∨ 15 < x.k) : RfAt W B pu olds ro (d + 1) x ks := by
  intro ba bs bl bc w hW hB hF hbs hbl hb40 hbc
  have HBl := hid hbl
  clear hbl
  have hO := hF.1
  have HKs := hid hF.kids
  obtain ⟨m, hml⟩ : ∃ m, m = ks.length := ⟨_, rfl⟩
  rw [← hml] at hO HKs ⊢
  have hb0 := hid ((Below.refl w.heap.size w).alloc (Nat.le_refl _) (.cells (xcs x m) 28))
  have HBx := hid (fun (w' : World) (h : Below (w.heap.size + 1) (w.alloc (.cells (xcs x m) 28)) w') => lies_new h)
  have hm := hO.alen
  have hnl := hO.nlen
  have hs := hO.size
  have hs2 : x.s.size ≤ 9223372036854775807 := by have : maxLen = 9223372036854775807 := rfl; omega
  have HST := hid hO.strs
  have HFine := hid hO.fine
  have HBs := hid hbs
  have HX := hid (exI_is (W := W) (pure := pu) (olds := olds) (d := d) (scope := bs) (x := x) hml)
  have HMany := hid (fun j t => @kid_many (exI W pu olds d) bs x ks m j t hml)
  have HKin := hid (fun j t => @kid_in (exI W pu olds d) bs x ks m j t hml)
  have HKout := hid (fun j t => @kid_out (exI W pu olds d) bs x ks m j t hml)
  rw [← HBl.out] at HMany HKin
  generalize exI W pu olds (d + 1) bs (.mk x ks) = R at HX ⊢
  generalize kidI (exI W pu olds d) bs x ks = kf at *
  have HF := hid (fun j => firstI_step kf m j)
  have HS := hid (fun j => firstI_stop kf m j)
  have HEn := hid (fun j => firstI_end kf m j)
  clear hO hbs hF hml
  unfold xaloneI at HX
  obtain ⟨k, dk, dn, ds, da, dl, dc, s, n, na, ns, nc, aa, ac⟩ := x
  dsimp only [xv, xcs] at *
  generalize hnn : ns.length = nl at *
  have HNl := hid hnn
  clear hnn
  have hm2 : (m : Int) ≤ 9223372036854775807 := by have : maxLen = 9223372036854775807 := rfl; omega
  have hm3 : (0 : Int) ≤ m := by omega
  have hn2 : (nl : Int) ≤ 1000000000000000 := by omega
  have hRo : (pu = false ∧ olds = 0 ∧ ro = -1) ∨ (pu = true ∧ ro = olds ∧ 0 ≤ olds ∧ olds ≤ 6) := hro
  clear hro
  have k1 : (k == 1) = false := by simp; omega
  have k2 : (k == 2) = false := by simp; omega
  have k3 : (k == 3) = false := by simp; omega
  have k4 : (k == 4) = false := by simp; omega
  have k5 : (k == 5) = false := by simp; omega
  have k6 : (k == 6) = false := by simp; omega
  have k7 : (k == 7) = false := by simp; omega
  have k8 : (k == 8) = false := by simp; omega
  have k9 : (k == 9) = false := by simp; omega
  have k10 : (k == 10) = false := by simp; omega
  have k11 : (k == 11) = false := by simp; omega
  have k12 : (k == 12) = false := by simp; omega
  have k13 : (k == 13) = false := by simp; omega
  have k14 : (k == 14) = false := by simp; omega
  have k15 : (k == 15) = false := by simp; omega
  have n1 : ¬ k = 1 := by omega
  have n2 : ¬ k = 2 := by omega
  have n3 : ¬ k = 3 := by omega
  have n4 : ¬ k = 4 := by omega
  have n5 : ¬ k = 5 := by omega
  have n6 : ¬ k = 6 := by omega
  have n7 : ¬ k = 7 := by omega
  have n8 : ¬ k = 8 := by omega
  have n9 : ¬ k = 9 := by omega
  have n10 : ¬ k = 10 := by omega
  have n11 : ¬ k = 11 := by omega
  have n12 : ¬ k = 12 := by omega
  have n13 : ¬ k = 13 := by omega
  have n14 : ¬ k = 14 := by omega
  have n15 : ¬ k = 15 := by omega
  have HR0 := hid (show R = 3 by rw [HX.out, if_pos hk]; simp)
  clear hk
  go_enter Try.func11, Try.ntmps11
  go_wp2_with fail
  go_ret
  exact ⟨ret_int HR0.out.symm, hb0.out⟩
end Go.Proofs.Yteblglkmkakcjaa

/- A number as its digits: the document's Dec; the two words for bools. -/
import Derived.Test.YtfhiolnoalghmaaDoorLeafRef
import Derived.Test.YtfhiolnoalghmaaDoorBuild
import Derived.Lib.SmallJoins
import Derived.Lib.ItoaMem
import Derived.Laws.IdiomStrings
import Derived.RegionTactic
import Derived.Deep.RegionWith
import Derived.Deep.DeepFit
namespace Go.Proofs.YtfhiolnoalghmaaDoor
open Go.RowKit
theorem bcell0 {W w1 : World} {B : Nat} (hb : Below B W w1) : (∀ b o, b < B → w1.cell? ⟨b, o, none⟩ = W.cell? ⟨b, o, none⟩) ∧ (∀ b o, b < B → w1.frozen? ⟨b, o, none⟩ = W.frozen? ⟨b, o, none⟩) :=
  ⟨fun b o h => hb.cell (p := ⟨b, o, none⟩) h, fun b o h => hb.frozen (p := ⟨b, o, none⟩) h⟩
theorem mk_append (l m : List UInt8) : ByteArray.mk l.toArray ++ ByteArray.mk m.toArray = ⟨(l ++ m).toArray⟩ := by
  apply ByteArray.ext; simp [ByteArray.data_append]
theorem dec_len (u : Nat) : (Lib.decDigits u).length ≤ u + 1 := by
  induction u using Nat.strongRecOn with
  | ind u ih =>
    rw [Lib.decDigits]
    by_cases h : u < 10
    · rw [dif_pos h]; simp
    · rw [dif_neg h]
      have := ih (u / 10) (by omega)
      simp
      omega
theorem conv_one (X : World) (g : Nat) (c : Int) (h0 : 0 ≤ c) (h1 : c ≤ 255) (hc : X.cell? ⟨g, 0, none⟩ = some (.int .u8 c)) :
    (convert 46 9 (.slice (some ⟨g, 0, none⟩) 1 1)).run Tryd.prog X = .ok (.string ⟨#[UInt8.ofNat c.toNat]⟩) X := by
  have hb : ((UInt8.ofNat c.toNat).toNat : Int) = c := by
    rw [UInt8.toNat_ofNat', Nat.mod_eq_of_lt (by omega)]; omega
  exact run_convert_bytes_back (P := Tryd.prog) X 46 9 5 ⟨g, 0, none⟩ 1 [UInt8.ofNat c.toNat] Tryd.underlying46 Tryd.underlying5 Tryd.underlying9 (fun j hj => by
    obtain rfl : j = 0 := by simp at hj; omega
    simp only [List.getElem_cons_zero]
    rw [hb]
    simpa [Addr.add] using hc)
set_option maxRecDepth 100000 in
set_option maxHeartbeats 1000000 in
theorem Dec_small (u : Nat) (w : World) (hu : u < 10) :
    Calls Tryd.prog 36 #[.int .i64 u] w fun e w' => e = .returned (.string ⟨(Lib.decDigits u).toArray⟩) ∧ Below w.heap.size w w' := by
  have hi : ((u : Nat) : Int) < 10 := by omega
  have hD : Hid (Lib.decDigits u = [UInt8.ofNat (48 + u)]) := by apply hid; unfold Lib.decDigits; rw [dif_pos hu]
  have hcv := conv_one (w.alloc (.cells #[.int .u8 (48 + (u : Int))] 5)) w.heap.size (48 + (u : Int)) (by omega) (by omega) (by go_simp)
  rw [show (48 + (u : Int)).toNat = 48 + u from by omega] at hcv
  generalize UInt8.ofNat (48 + u) = c8 at hcv hD
  go_enter Tryd.func36, Tryd.ntmps36
  go_wp2_with fail
  go_ret
  exact ⟨by rw [hD.out]; rfl, (Below.refl _ _).alloc (Nat.le_refl _) _⟩
set_option maxRecDepth 100000 in
set_option maxHeartbeats 1000000 in
theorem Dec_big (n : Nat) : ∀ (u : Nat) (w : World), u < n → u ≤ 1099511627776 →
    Calls Tryd.prog 36 #[.int .i64 u] w fun e w' => e = .returned (.string ⟨(Lib.decDigits u).toArray⟩) ∧ Below w.heap.size w w' := by
  induction n with
  | zero => intro u w h _; omega
  | succ n ih =>
    intro u w hn hm
    by_cases hu : u < 10
    · exact Dec_small u w hu
    · obtain ⟨q, r, hq, hr, hqr⟩ : ∃ q r : Nat, u / 10 = q ∧ u % 10 = r ∧ u = 10 * q + r := ⟨u / 10, u % 10, rfl, rfl, by omega⟩
      have hr10 : r < 10 := by omega
      have hD : Hid (Lib.decDigits u = Lib.decDigits q ++ [UInt8.ofNat (48 + r)]) := by apply hid; rw [Lib.decDigits, dif_neg hu, hq, hr]
      have HIH := hid (fun w' => ih q w' (by omega) (by omega))
      have hi : ¬ ((u : Nat) : Int) < 10 := by omega
      have hi0 : ¬ ((u : Nat) : Int) < 0 := by omega
      have hw1 : IntKind.i64.wrap ((u : Int) / 10) = (q : Int) := by
        rw [show (u : Int) / 10 = (q : Int) from by omega]; simp [IntKind.wrap, IntKind.bits, IntKind.signed]; omega
      have hw2 : ((u : Nat) : Int).tmod 10 = (r : Int) := by rw [Int.tmod_eq_emod_of_nonneg (by omega)]; omega
      have hw3 : IntKind.i64.wrap (48 + (r : Int)) = 48 + (r : Int) := by simp [IntKind.wrap, IntKind.bits, IntKind.signed]; omega
      have hw4 : IntKind.u8.wrap (48 + (r : Int)) = 48 + (r : Int) := by simp [IntKind.wrap, IntKind.bits, IntKind.signed]; omega
      have hcv : ∀ (X : World) (g : Nat), X.cell? ⟨g, 0, none⟩ = some (.int .u8 (48 + (r : Int))) → (convert 46 9 (.slice (some ⟨g, 0, none⟩) 1 1)).run Tryd.prog X = .ok (.string ⟨#[UInt8.ofNat (48 + r)]⟩) X := fun X g hc => by
        have h := conv_one X g (48 + (r : Int)) (by omega) (by omega) hc
        rw [show (48 + (r : Int)).toNat = 48 + r from by omega] at h
        exact h
      generalize UInt8.ofNat (48 + r) = c8 at hcv hD
      have hlen : ¬ 9223372036854775807 < (Lib.decDigits q).length + 1 := by
        have h1 := dec_len q
        omega
      generalize Lib.decDigits q = dq at hD HIH hlen
      clear hq hr hqr hr10 ih hn
      go_enter Tryd.func36, Tryd.ntmps36
      go_wp2_with fail
      go_region_with (go_at_call 36; refine (HIH.out _).mono ?_; rintro e w1 ⟨rfl, hb1⟩; have hbw : Below w.heap.size w w1 := Below.trans (by repeat (first | exact Below.refl _ _ | refine Below.drew ?_ | refine Below.alloc ?_ (by first | omega | (simp <;> omega)) _)) (hb1.mono (by simp <;> omega)); obtain ⟨hcc, hff⟩ := bcell0 hb1)
      all_goals (go_wp2_with fail; go_ret; refine ⟨?_, ?_⟩)
      all_goals first
        | (rw [hD.out, ← mk_append]; rfl)
        | exact hbw
        | exact hbw.alloc hbw.size _
set_option maxRecDepth 100000 in
set_option maxHeartbeats 1000000 in
theorem Dec_any (n : Int) (w : World) (h0 : -1099511627776 ≤ n) (h1 : n ≤ 1099511627776) :
    Calls Tryd.prog 36 #[.int .i64 n] w fun e w' => e = .returned (.string ⟨(Lib.itoa n).toArray⟩) ∧ Below w.heap.size w w' := by
  by_cases hn : n < 0
  · obtain ⟨u, rfl⟩ : ∃ u : Nat, n = -(u : Int) := ⟨n.natAbs, by omega⟩
    have hD : Hid (Lib.itoa (-(u : Int)) = [45] ++ Lib.decDigits u) := hid (Lib.itoa_neg u (by omega))
    have HC := hid (Dec_big (u + 1) u w (by omega) (by omega))
    have hlen : ¬ 9223372036854775807 < 1 + (Lib.decDigits u).length := by
      have h1 := dec_len u
      omega
    generalize Lib.decDigits u = dq at hD HC hlen
    go_enter Tryd.func36, Tryd.ntmps36
    go_wp2_with (go_at_call 36; refine HC.out.mono ?_; rintro e w1 ⟨rfl, hb1⟩)
    go_ret
    exact ⟨by rw [hD.out, ← mk_append]; rfl, hb1⟩
  · obtain ⟨u, rfl⟩ : ∃ u : Nat, n = u := ⟨n.toNat, by omega⟩
    rw [Lib.itoa_nonneg]
    exact Dec_big (u + 1) u w (by omega) (by omega)
def boolT (n : Int) : List UInt8 := if n = 1 then [35, 116] else [35, 102]
set_option maxHeartbeats 400000 in
theorem boolText_any (n : Int) (w : World) :
    Calls Tryd.prog 33 #[.int .i64 n] w fun e w' => e = .returned (.string ⟨(boolT n).toArray⟩) ∧ w' = w := by
  unfold boolT
  by_cases h : n = 1
  · rw [if_pos h]
    go_enter Tryd.func33, Tryd.ntmps33
    go_wp2
    go_ret
    exact ⟨rfl, rfl⟩
  · rw [if_neg h]
    go_enter Tryd.func33, Tryd.ntmps33
    go_wp2
    go_ret
    exact ⟨rfl, rfl⟩
end Go.Proofs.YtfhiolnoalghmaaDoor

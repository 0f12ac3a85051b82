/- ReadDeep: text of parentheses, as deep as it may be and deeper. -/
import Derived.Test.YtmgpppijildccabDoorLaid
import Derived.Test.YtmgpppijildccabDoorPicked
namespace Go.Proofs.YtmgpppijildccabDoor
open Go.RowKit
/-- So many opening ones, so many closing ones. -/
def par (k : Nat) : List UInt8 := List.replicate k 40 ++ List.replicate k 41
def deepB (k : Nat) : Bool :=
  match readT (par k) with
  | .inr items => decide (k ≤ 40) && items.length == 1
  | .inl (x, q) => decide (40 < k) && x == 8 && ((par k).length - q.length == 40)
theorem deep_all : ∀ k : Fin 61, k.val = 0 ∨ deepB k.val = true := by decide +kernel
theorem par_len (k : Nat) : (par k).length = k + k := by simp [par]
theorem par_step (j : Nat) : (ByteArray.mk #[40] ++ ByteArray.mk (par j).toArray ++ ByteArray.mk #[41]) = ByteArray.mk (par (j + 1)).toArray := by
  apply ByteArray.ext
  have : par (j + 1) = [40] ++ par j ++ [41] := by
    unfold par
    rw [List.replicate_succ, List.replicate_succ' (n := j) (a := (41 : UInt8))]
    simp
  rw [this]
  simp
set_option maxRecDepth 100000 in
set_option maxHeartbeats 400000 in
theorem readDeep_walk (n : Int) (w : World) (h0 : -9223372036854775808 ≤ n) (h1 : n ≤ 9223372036854775807) (hG : Globs w w.heap.size) :
    Calls Tryd.prog 4 #[.int .i64 n] w fun e w' => e = .returned (.bool true) ∧ Below w.heap.size w w' := by
  obtain ⟨r, hr⟩ := Int.eq_ofNat_of_zero_le (pick_range n 60 (by omega)).1
  have hr2 := (pick_range n 60 (by omega)).2
  have hP := picked_any n 60 w h0 h1 (by omega) (by omega)
  rw [hr] at hP hr2
  clear hr
  have HP := hid hP
  clear hP
  go_enter Tryd.func4, Tryd.ntmps4
  go_wp2_with (go_at_call 8; refine HP.out.mono ?_; rintro e w' ⟨rfl, hw⟩; obtain rfl := hw.symm)
  go_loop [4, 12] (fun s i => ∃ j : Nat, j ≤ 1 + r ∧ i = .int .i64 j ∧ s = .string ⟨(par j).toArray⟩) (fun _ i => 1 + r - (intOf i).toNat)
  case atStart => exact ⟨0, Nat.zero_le _, rfl, rfl⟩
  case round =>
    obtain ⟨j, hj, rfl, rfl⟩ := hrel
    have hlen := par_len j
    have hb1 : ¬ 9223372036854775807 < 1 + (par j).length := by omega
    have hb2 : ¬ 9223372036854775807 < 1 + (par j).length + 1 := by omega
    clear hlen
    by_cases hlt : j < 1 + r
    · go_wp2_with fail
      go_round
      case rel => exact ⟨j + 1, by omega, by go_num, congrArg Value.string (par_step j)⟩
      case measure => simp [intOf]; omega
    · obtain rfl : j = 1 + r := by omega
      have hcall := read_any ⟨(par (1 + r)).toArray⟩ w w.heap.size hG (Nat.le_refl _) (by show (par (1 + r)).length ≤ _; omega)
      have hdeep := deep_all ⟨1 + r, by omega⟩
      rcases hdeep with hdeep | hdeep
      · exact absurd hdeep (by simp)
      have hdeep' : deepB (1 + r) = true := hdeep
      clear hdeep
      go_wp2_with fail
      go_fit hcall
      clear hcall
      rintro e w1 ⟨hO, hb⟩
      unfold deepB at hdeep'
      cases hT : readT (par (1 + r)) with
      | inl eq =>
        obtain ⟨x, q⟩ := eq
        rw [hT] at hdeep'
        have hO' : OutR w w1 ⟨(par (1 + r)).toArray⟩ (.inl (x, q)) e := hT ▸ hO
        obtain rfl : e = _ := hO'
        simp at hdeep'
        obtain ⟨⟨hk, rfl⟩, hq⟩ := hdeep'
        have hq2 : ((ByteArray.mk (par (1 + r)).toArray).size - q.length : Nat) = 40 := hq
        rw [hq2]
        clear hO hT hq hq2
        have hki : ¬ (1 + (r : Int)) ≤ 40 := by omega
        go_wp2_with fail
        go_ret
        exact ⟨rfl, hb⟩
      | inr items =>
        rw [hT] at hdeep'
        have hO' : OutR w w1 ⟨(par (1 + r)).toArray⟩ (.inr items) e := hT ▸ hO
        obtain ⟨a, cap, rfl, _, _, _⟩ := hO'
        simp at hdeep'
        obtain ⟨hk, hl1⟩ := hdeep'
        rw [hl1]
        clear hO hT
        have hki : (1 + (r : Int)) ≤ 40 := by omega
        go_wp2_with fail
        go_ret
        exact ⟨rfl, hb⟩
end Go.Proofs.YtmgpppijildccabDoor

/- ReadReads: the code's data and the document's are the same. -/
import Derived.Test.YtmgpppijildccaaDoorDOf
import Derived.Test.YtmgpppijildccaaDoorSame
import Derived.Test.YtmgpppijildccaaDoorLaid
namespace Go.Proofs.YtmgpppijildccaaDoor
open Go.RowKit
set_option linter.unusedSimpArgs false
set_option linter.unusedVariables false
set_option maxRecDepth 100000 in
set_option maxHeartbeats 1000000 in
theorem readReads_walk (s : ByteArray) (w : World) (hs : s.size ≤ 9223372036854775807) (hG : Globs w w.heap.size) :
    Calls Tryd.prog 4 #[.string s] w fun e w' => e = .returned (.bool true) ∧ Below w.heap.size w w' := by
  have hA := read_any s w w.heap.size hG (Nat.le_refl _) hs
  go_enter Tryd.func4, Tryd.ntmps4
  go_wp2_with fail
  go_fit hA
  clear hA
  rintro e w1 ⟨hO, hb⟩
  have hB := dataOf_any s w1 hs
  cases hT : readT s.data.toList with
  | inl eq =>
    obtain ⟨x, q⟩ := eq
    rw [hT] at hO hB
    obtain rfl : e = _ := hO
    clear hT
    have hB' : Calls Tryd.prog 11 #[.string s] w1 fun e w' => e = .returned (.tuple #[.slice none 0 0, .int .i64 ((s.size - q.length : Nat) : Int), .int .i64 x]) ∧ Below w1.heap.size w1 w' := hB
    clear hB
    generalize ((s.size - q.length : Nat) : Int) = P at hB'
    go_wp2_with fail
    go_fit hB'
    clear hB'
    rintro e w2 ⟨rfl, hb2⟩
    have hS := sameData_zero none none 0 0 w2
    go_wp2_with fail
    go_fit hS
    clear hS
    rintro e w3 ⟨rfl, hb3⟩
    go_wp2_with fail
    go_ret
    exact ⟨rfl, (hb.trans (hb2.mono hb.size)).trans (hb3.mono (Nat.le_trans hb.size hb2.size))⟩
  | inr items =>
    rw [hT] at hO hB
    obtain ⟨a, cap, rfl, hcap, h400, hrow⟩ := hO
    have HRow := hid hrow
    clear hT hrow
    go_wp2_with fail
    go_fit hB
    clear hB
    rintro e w2 ⟨⟨a', cap', rfl, hcap', _, hrow'⟩, hb2⟩
    have hrow2 := RowD.keep (w' := w2) (S' := fun b => w.heap.size ≤ b ∧ b < w1.heap.size) (fun b hb => ⟨hb2.block b hb.2, hb⟩) HRow.out
    have hS := sameData_any w2 _ _ 40 (same_any w2 _ _ 40) items a a' _ _ cap cap' w2 (Below.refl _ _) (by omega) hrow2 hrow'
    clear hrow2 hrow'
    go_wp2_with fail
    go_fit hS
    clear hS
    rintro e w3 ⟨rfl, hb3⟩
    go_wp2_with fail
    go_ret
    exact ⟨rfl, (hb.trans (hb2.mono hb.size)).trans (hb3.mono (Nat.le_trans hb.size hb2.size))⟩
end Go.Proofs.YtmgpppijildccaaDoor

/- The contract of the bard's expression; the closure that goes a step deeper. -/
import Derived.Test.YtdfmimgjdchafaaGreatDoorBBase
namespace Go.Proofs.YtdfmimgjdchafaaGreatDoor
set_option maxRecDepth 100000
open Go.RowKit
/-- An expression of depth n at most is a tree's text. -/
def ExprAt (B bb n D M : Nat) : Prop := ∀ (w : World) (lv : Value) (names : List ByteArray) (d : Int), -9223372036854775808 < d → d ≤ n → B ≤ w.heap.size → Bard w B bb lv names → TabB w B → NamesOk names (1000 - n) →
  Calls Tryz.prog 17 #[.pointer (some ⟨bb, 0, none⟩), .int .i64 d] w fun e w' => (∃ v, e = .returned v ∧ InL (Tr D M) v) ∧ Stp B bb names names w w'
theorem inL_str {L : List UInt8 → Prop} {v : Value} (h : InL L v) : ∃ s, v = .string s := h.elim fun _ h => ⟨_, h.1⟩
theorem pick_nat (x m : Int) (hm : 0 < m) : ∃ j : Nat, pick x m = j ∧ (j : Int) < m := by
  have h := pick_range x m hm
  exact ⟨(pick x m).toNat, by omega, by omega⟩
def AllIn (D M : Nat) : List Value → Prop
  | [] => True
  | v :: r => InL (Tr D M) v ∧ AllIn D M r
theorem allIn_get {D M : Nat} : ∀ {l : List Value}, AllIn D M l → ∀ (i : Nat) u, l[i]? = some u → InL (Tr D M) u
  | [], _, _, _, h => by simp at h
  | v :: r, h, 0, u, hu => by
    simp at hu
    subst hu
    exact h.1
  | v :: r, h, i + 1, u, hu => allIn_get h.2 i u (by simpa using hu)
theorem row_of {D M : Nat} {l : List Value} (h : AllIn D M l) : ∀ (i : Nat) u, l.toArray[i]? = some u → InL (Tr D M) u := fun i u hu => allIn_get h i u (by simpa using hu)
theorem expr_at {B bb n D M : Nat} (ih : ExprAt B bb n D M) {names : List ByteArray} {w : World} {d k x y z : Int} {p q : Nat} (h : Desk w B bb names p q d k x y z) (hd0 : 0 < d) (hd : d ≤ n + 1) (hN : NamesOk names (1000 - n)) :
    Calls Tryz.prog 17 #[.pointer (some ⟨bb, 0, none⟩), .int .i64 (d - 1)] w fun e w' => (∃ v, e = .returned v ∧ InL (Tr D M) v) ∧ Stp B bb names names w w' := by
  obtain ⟨lv, hl⟩ := h.bard
  exact ih w lv names (d - 1) (by omega) (by omega) h.size hl h.tab hN
set_option maxRecDepth 100000 in
set_option maxHeartbeats 1000000 in
theorem sub_any {B bb n D M : Nat} (ih : ExprAt B bb n D M) {names : List ByteArray} {w : World} {d k x y z : Int} {p q : Nat} (h : Desk w B bb names p q d k x y z) (hd0 : 0 < d) (hd : d ≤ n + 1) (hdm : d ≤ 9223372036854775807) (hN : NamesOk names (1000 - n)) :
    Calls Tryz.prog 33 #[.pointer (some ⟨p, 0, none⟩), .pointer (some ⟨p + 1, 0, none⟩)] w fun e w' => (∃ v, e = .returned v ∧ InL (Tr D M) v) ∧ Stp B bb names names w w' := by
  have b0 := h.box
  have b1 := h.dep
  have hwr : IntKind.i64.wrap (d - 1) = d - 1 := by rw [IntKind.wrap_i64]; omega
  have HC := hid (expr_at ih h hd0 hd hN)
  clear hN h ih
  go_enter Tryz.func33, Tryz.ntmps33
  go_wp2_with fail
  have hcall := HC.out
  go_fit hcall
  clear hcall
  rintro e w' ⟨⟨v, rfl, hv⟩, hs⟩
  obtain ⟨s, rfl⟩ := inL_str hv
  go_wp2_with fail
  go_ret
  exact ⟨⟨_, rfl, hv⟩, hs⟩
end Go.Proofs.YtdfmimgjdchafaaGreatDoor

/- Two rows of the same data are the same to the statements' own sameDatum. -/
import Derived.Test.YtfhiolnoalghmaaDoorRword
import Derived.Test.YtfhiolnoalghmaaDoorSame
namespace Go.Proofs.YtfhiolnoalghmaaDoor
open Go.RowKit
set_option linter.unusedVariables false
/-- What sameDatum's call does at data of depth d. -/
def KSameSaid (W : World) (S S' : Nat → Prop) (d : Nat) : Prop := ∀ (t : DataW Unit) (k k' n n' : Int) (s s' : ByteArray) (a a' : Option Addr) (len len' cap cap' : Nat) (w : World), Below W.heap.size W w →
  Dat W S d t (.int .i64 k) (.int .i64 n) (.string s) (.slice a len cap) → Dat W S' d t (.int .i64 k') (.int .i64 n') (.string s') (.slice a' len' cap') →
  Calls Tryd.prog 16 #[.agg #[.int .i64 k, .int .i64 n, .string s, .slice a len cap], .agg #[.int .i64 k', .int .i64 n', .string s', .slice a' len' cap']] w fun e w' => e = .returned (.bool true) ∧ Below w.heap.size w w'
set_option maxRecDepth 100000 in
set_option maxHeartbeats 2000000 in
theorem equal_any (W : World) (S S' : Nat → Prop) (d : Nat) (ih : KSameSaid W S S' d) (items : List (DataW Unit)) (a a' : Option Addr) (len len' cap cap' : Nat) (w : World) (hW : Below W.heap.size W w) (h400 : items.length ≤ 9223372036854775807)
    (hr : RowD W S (Dat W S d) items a len) (hr' : RowD W S' (Dat W S' d) items a' len') :
    Calls Tryd.prog 20 #[.slice a len cap, .slice a' len' cap', .func (.func 16) #[] #[]] w fun e w' => e = .returned (.bool true) ∧ Below w.heap.size w w' := by
  obtain ⟨rfl, hrow⟩ := hr
  obtain ⟨rfl, hrow'⟩ := hr'
  have HR := hid hrow
  have HR' := hid hrow'
  clear hrow hrow'
  go_enter Tryd.func20, Tryd.ntmps20
  go_wp2_with fail
  go_loopw [17] (fun i wr => ∃ j : Nat, j ≤ items.length ∧ i = .int .i64 j ∧ Below w.heap.size w wr) (fun i _ => items.length - (intOf i).toNat)
  case atStart => exact ⟨0, Nat.zero_le _, rfl, Below.refl _ _⟩
  case round =>
    obtain ⟨j, hj, rfl, hbr⟩ := hrel
    by_cases hlt : j < items.length
    · have hji : (j : Int) < items.length := by omega
      obtain ⟨b, o, u0, u1, u2, u3, rfl, hS, c0, c1, c2, c3, hD⟩ := HR.out j items[j] (List.getElem?_eq_getElem hlt)
      obtain ⟨b', o', v0, v1, v2, v3, rfl, hS', c0', c1', c2', c3', hD'⟩ := HR'.out j items[j] (List.getElem?_eq_getElem hlt)
      obtain ⟨k, n, s, x, l, cp, rfl, rfl, rfl, rfl⟩ := hD.shape
      obtain ⟨k', n', s', x', l', cp', rfl, rfl, rfl, rfl⟩ := hD'.shape
      have hWr : Below W.heap.size W wr := hW.trans (hbr.mono hW.size)
      have rd : ∀ {q v}, W.cell? q = some v → wr.cell? q = some v ∧ q.block < wr.heap.size := fun {q v} h => ⟨(hWr.cell (World.block_lt_of_cell? W q h)).trans h, Nat.lt_of_lt_of_le (World.block_lt_of_cell? W q h) hWr.size⟩
      obtain ⟨g0, hl0⟩ := rd c0
      obtain ⟨g1, _⟩ := rd c1
      obtain ⟨g2, _⟩ := rd c2
      obtain ⟨g3, _⟩ := rd c3
      obtain ⟨g0', hl0'⟩ := rd c0'
      obtain ⟨g1', _⟩ := rd c1'
      obtain ⟨g2', _⟩ := rd c2'
      obtain ⟨g3', _⟩ := rd c3'
      dsimp only at hl0 hl0'
      have HC := hid (fun w1 h1 => ih items[j] k k' n n' s s' x x' l l' cp cp' w1 h1 hD hD')
      have HWr := hid hWr
      clear c0 c1 c2 c3 c0' c1' c2' c3' hD hD' rd hWr
      have hb : Below wr.heap.size wr ((wr.alloc (.cells #[.int .i64 k, .int .i64 n, .string s, .slice x l cp] 24)).alloc (.cells #[.int .i64 k', .int .i64 n', .string s', .slice x' l' cp'] 24)) := ((Below.refl _ _).alloc (Nat.le_refl _) _).alloc (by simp) _
      have HB := hid hb
      have hcall := HC.out _ (HWr.out.trans (hb.mono HWr.out.size))
      clear hb
      go_wp2_with fail
      go_fit hcall
      clear hcall
      rintro e w1 ⟨rfl, hb1⟩
      go_wp2_with fail
      go_roundw
      case rel => exact ⟨j + 1, by omega, by go_num, hbr.trans ((HB.out.trans (hb1.mono HB.out.size)).mono hbr.size)⟩
      case measure => simp [intOf]; omega
    · go_wp2_with fail
      go_ret
      exact ⟨rfl, hbr⟩
set_option maxRecDepth 100000 in
set_option maxHeartbeats 1000000 in
theorem equal_zero (a a' : Option Addr) (cap cap' : Nat) (w : World) :
    Calls Tryd.prog 20 #[.slice a 0 cap, .slice a' 0 cap', .func (.func 16) #[] #[]] w fun e w' => e = .returned (.bool true) ∧ Below w.heap.size w w' := by
  go_enter Tryd.func20, Tryd.ntmps20
  go_wp2_with fail
  go_loopw [17] (fun i wr => i = .int .i64 0 ∧ wr = w) (fun _ _ => 0)
  case atStart => exact ⟨rfl, rfl⟩
  case round =>
    obtain ⟨rfl, rfl⟩ := hrel
    go_wp2_with fail
    go_ret
    exact ⟨rfl, Below.refl _ _⟩
set_option maxRecDepth 100000 in
set_option maxHeartbeats 2000000 in
theorem ksameDatum_any (W : World) (d : Nat) (k n : Int) (s : ByteArray) (a a' : Option Addr) (len len' cap cap' : Nat) (w : World) (hW : Below W.heap.size W w)
    (hc : ∀ w1, Below W.heap.size W w1 → Calls Tryd.prog 20 #[.slice a len cap, .slice a' len' cap', .func (.func 16) #[] #[]] w1 fun e w' => e = .returned (.bool true) ∧ Below w1.heap.size w1 w') :
    Calls Tryd.prog 16 #[.agg #[.int .i64 k, .int .i64 n, .string s, .slice a len cap], .agg #[.int .i64 k, .int .i64 n, .string s, .slice a' len' cap']] w fun e w' => e = .returned (.bool true) ∧ Below w.heap.size w w' := by
  have hb : Below w.heap.size w ((w.alloc (.cells #[.int .i64 k, .int .i64 n, .string s, .slice a len cap] 24)).alloc (.cells #[.int .i64 k, .int .i64 n, .string s, .slice a' len' cap'] 24)) := ((Below.refl _ _).alloc (Nat.le_refl _) _).alloc (by simp) _
  have hcall := hc _ (hW.trans (hb.mono hW.size))
  have e1 : (k == k) = true := by simp
  have e2 : (n == n) = true := by simp
  go_enter Tryd.func16, Tryd.ntmps16
  go_wp2_with fail
  go_fit hcall
  clear hcall
  rintro e w1 ⟨rfl, hb1⟩
  go_wp2_with fail
  go_ret
  exact ⟨rfl, hb.trans (hb1.mono (by simp; omega))⟩
theorem ksame_any (W : World) (S S' : Nat → Prop) (d : Nat) : KSameSaid W S S' d := by
  induction d with
  | zero =>
    intro t k k' n n' s s' a a' len len' cap cap' w hW h h'
    obtain ⟨rfl, rfl, rfl, hc⟩ := h.same h'
    rcases hc with ⟨rfl, rfl⟩ | ⟨d', items, hd, _⟩
    · exact ksameDatum_any W 0 k n s a a' 0 0 cap cap' w hW (fun w1 _ => equal_zero a a' cap cap' w1)
    · omega
  | succ d ih =>
    intro t k k' n n' s s' a a' len len' cap cap' w hW h h'
    obtain ⟨rfl, rfl, rfl, hc⟩ := h.same h'
    rcases hc with ⟨rfl, rfl⟩ | ⟨d', items, hd, hbd, hr, hr'⟩
    · exact ksameDatum_any W (d + 1) k n s a a' 0 0 cap cap' w hW (fun w1 _ => equal_zero a a' cap cap' w1)
    · obtain rfl : d' = d := by omega
      exact ksameDatum_any W (d' + 1) k n s a a' len len' cap cap' w hW (fun w1 h1 => equal_any W S S' d' ih items a a' len len' cap cap' w1 h1 hbd hr hr')
/-- Rows of the same data, whole. -/
theorem kequal_any (W : World) (S S' : Nat → Prop) (d : Nat) (items : List (DataW Unit)) (a a' : Option Addr) (len len' cap cap' : Nat) (w : World) (hW : Below W.heap.size W w) (h400 : items.length ≤ 9223372036854775807)
    (hr : RowD W S (Dat W S d) items a len) (hr' : RowD W S' (Dat W S' d) items a' len') :
    Calls Tryd.prog 20 #[.slice a len cap, .slice a' len' cap', .func (.func 16) #[] #[]] w fun e w' => e = .returned (.bool true) ∧ Below w.heap.size w w' :=
  equal_any W S S' d (ksame_any W S S' d) items a a' len len' cap cap' w hW h400 hr hr'
end Go.Proofs.YtfhiolnoalghmaaDoor

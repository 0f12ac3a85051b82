/- Two rows of the same data are the same. -/
import Derived.Test.YtfhiolnoalghmaaDoorRword
namespace Go.Proofs.YtfhiolnoalghmaaDoor
open Go.RowKit
set_option linter.unusedSimpArgs false
set_option linter.unusedVariables false
theorem Dat.same {W : World} {S S' : Nat → Prop} {d : Nat} {t : DataW Unit} {k k' n n' : Int} {s s' : ByteArray} {a a' : Option Addr} {len len' cap cap' : Nat}
    (h : Dat W S d t (.int .i64 k) (.int .i64 n) (.string s) (.slice a len cap)) (h' : Dat W S' d t (.int .i64 k') (.int .i64 n') (.string s') (.slice a' len' cap')) :
    k = k' ∧ n = n' ∧ s = s' ∧ ((len = 0 ∧ len' = 0) ∨ ∃ d' items, d = d' + 1 ∧ items.length ≤ 9223372036854775807 ∧ RowD W S (Dat W S d') items a len ∧ RowD W S' (Dat W S' d') items a' len') := by
  have leaf : Leaf t (.int .i64 k) (.int .i64 n) (.string s) (.slice a len cap) → Leaf t (.int .i64 k') (.int .i64 n') (.string s') (.slice a' len' cap') → k = k' ∧ n = n' ∧ s = s' ∧ len = 0 ∧ len' = 0 := by
    intro l l'
    rcases l with ⟨x, rfl, e0, e1, e2, e3⟩ | ⟨x, rfl, e0, e1, e2, e3⟩ | ⟨x, rfl, e0, e1, e2, e3⟩ <;> rcases l' with ⟨y, ht, q0, q1, q2, q3⟩ | ⟨y, ht, q0, q1, q2, q3⟩ | ⟨y, ht, q0, q1, q2, q3⟩
    all_goals first | (cases ht; done) | skip
    all_goals
      injection ht with ht
      injection ht with ht
    all_goals
      simp at e0 e1 e2 e3 q0 q1 q2 q3
      simp_all
  cases d with
  | zero =>
    obtain ⟨h1, h2, h3, h4, h5⟩ := leaf h h'
    exact ⟨h1, h2, h3, Or.inl ⟨h4, h5⟩⟩
  | succ d =>
    rcases h with h | ⟨items, b, l, c, rfl, e0, e1, e2, e3, hbd, hrow⟩
    · rcases h' with h' | ⟨items', b', l', c', ht, q0, q1, q2, q3, _, hrow'⟩
      · obtain ⟨h1, h2, h3, h4, h5⟩ := leaf h h'
        exact ⟨h1, h2, h3, Or.inl ⟨h4, h5⟩⟩
      · exfalso
        rcases h with ⟨x, rfl, _⟩ | ⟨x, rfl, _⟩ | ⟨x, rfl, _⟩ <;> cases ht
    · rcases h' with h' | ⟨items', b', l', c', ht, q0, q1, q2, q3, _, hrow'⟩
      · exfalso
        rcases h' with ⟨x, ht, _⟩ | ⟨x, ht, _⟩ | ⟨x, ht, _⟩ <;> cases ht
      · cases ht
        simp at e0 e1 e2 e3 q0 q1 q2 q3
        obtain ⟨rfl, rfl, rfl⟩ := e3
        obtain ⟨rfl, rfl, rfl⟩ := q3
        exact ⟨e0.trans q0.symm, e1.trans q1.symm, e2.trans q2.symm, Or.inr ⟨d, items, rfl, by rw [← hrow.1]; exact hbd.2, hrow, hrow'⟩⟩
/-- What sameDatum's call does at data of depth d. -/
def SameSaid (W : World) (S S' : Nat → Prop) (d : Nat) : Prop := ∀ (t : DataW Unit) (k k' n n' : Int) (s s' : ByteArray) (a a' : Option Addr) (len len' cap cap' : Nat) (w : World), Below W.heap.size W w →
  Dat W S d t (.int .i64 k) (.int .i64 n) (.string s) (.slice a len cap) → Dat W S' d t (.int .i64 k') (.int .i64 n') (.string s') (.slice a' len' cap') →
  Calls Tryd.prog 28 #[.agg #[.int .i64 k, .int .i64 n, .string s, .slice a len cap], .agg #[.int .i64 k', .int .i64 n', .string s', .slice a' len' cap']] w fun e w' => e = .returned (.bool true) ∧ Below w.heap.size w w'
set_option maxRecDepth 100000 in
set_option maxHeartbeats 2000000 in
theorem sameData_any (W : World) (S S' : Nat → Prop) (d : Nat) (ih : SameSaid W S S' d) (items : List (DataW Unit)) (a a' : Option Addr) (len len' cap cap' : Nat) (w : World) (hW : Below W.heap.size W w) (h400 : items.length ≤ 9223372036854775807)
    (hr : RowD W S (Dat W S d) items a len) (hr' : RowD W S' (Dat W S' d) items a' len') :
    Calls Tryd.prog 13 #[.slice a len cap, .slice a' len' cap'] w fun e w' => e = .returned (.bool true) ∧ Below w.heap.size w w' := by
  obtain ⟨rfl, hrow⟩ := hr
  obtain ⟨rfl, hrow'⟩ := hr'
  have HR := hid hrow
  have HR' := hid hrow'
  clear hrow hrow'
  go_enter Tryd.func13, Tryd.ntmps13
  go_wp2_with fail
  go_loopw [5] (fun i wr => ∃ j : Nat, j ≤ items.length ∧ i = .int .i64 j ∧ Below w.heap.size w wr) (fun i _ => items.length - (intOf i).toNat)
  case atStart => exact ⟨0, Nat.zero_le _, rfl, Below.refl _ _⟩
  case round =>
    obtain ⟨j, hj, rfl, hbr⟩ := hrel
    by_cases hlt : j < items.length
    · have hji : (j : Int) < items.length := by omega
      obtain ⟨b, o, u0, u1, u2, u3, rfl, hS, c0, c1, c2, c3, hD⟩ := HR.out j items[j] (List.getElem?_eq_getElem hlt)
      obtain ⟨b', o', v0, v1, v2, v3, rfl, hS', c0', c1', c2', c3', hD'⟩ := HR'.out j items[j] (List.getElem?_eq_getElem hlt)
      obtain ⟨k, n, s, x, l, cp, rfl, rfl, rfl, rfl⟩ := hD.shape
      obtain ⟨k', n', s', x', l', cp', rfl, rfl, rfl, rfl⟩ := hD'.shape
      have hWr : Below W.heap.size W wr := hW.trans (hbr.mono hW.size)
      have rd : ∀ {q v}, W.cell? q = some v → wr.cell? q = some v := fun {q v} h => (hWr.cell (World.block_lt_of_cell? W q h)).trans h
      have g0 := rd c0
      have g1 := rd c1
      have g2 := rd c2
      have g3 := rd c3
      have g0' := rd c0'
      have g1' := rd c1'
      have g2' := rd c2'
      have g3' := rd c3'
      have HC : Hid (∀ w1, Below W.heap.size W w1 → Calls Tryd.prog 28 #[.agg #[.int .i64 k, .int .i64 n, .string s, .slice x l cp], .agg #[.int .i64 k', .int .i64 n', .string s', .slice x' l' cp']] w1 fun e w' => e = .returned (.bool true) ∧ Below w1.heap.size w1 w') :=
        fun w1 h1 => ih items[j] k k' n n' s s' x x' l l' cp cp' w1 h1 hD hD'
      have HWr := hid hWr
      clear c0 c1 c2 c3 c0' c1' c2' c3' hD hD' rd hWr
      go_upto_region 6 with fail
      go_cut [26] (fun v wx => v = .bool false ∧ Below wr.heap.size wr wx)
      case first =>
        go_region_with (go_at_call 28; refine (HC.out _ (HWr.out.drew)).mono ?_; rintro e w1 ⟨rfl, hb1⟩)
        all_goals go_wp2_with fail
        all_goals go_meet
        all_goals exact ⟨rfl, ((Below.refl _ _).drew).trans hb1⟩
      case rest =>
        obtain ⟨rfl, hbc⟩ := hcut
        go_wp2_with fail
        go_roundw
        case rel => exact ⟨j + 1, by omega, by go_num, hbr.trans (hbc.mono hbr.size)⟩
        case measure => simp [intOf]; omega
    · go_wp2_with fail
      go_ret
      exact ⟨rfl, hbr⟩
set_option maxRecDepth 100000 in
set_option maxHeartbeats 1000000 in
theorem sameData_zero (a a' : Option Addr) (cap cap' : Nat) (w : World) :
    Calls Tryd.prog 13 #[.slice a 0 cap, .slice a' 0 cap'] w fun e w' => e = .returned (.bool true) ∧ Below w.heap.size w w' := by
  go_enter Tryd.func13, Tryd.ntmps13
  go_wp2_with fail
  go_loopw [5] (fun i wr => i = .int .i64 0 ∧ wr = w) (fun _ _ => 0)
  case atStart => exact ⟨rfl, rfl⟩
  case round =>
    obtain ⟨rfl, rfl⟩ := hrel
    go_wp2_with fail
    go_ret
    exact ⟨rfl, Below.refl _ _⟩
set_option maxRecDepth 100000 in
set_option maxHeartbeats 2000000 in
theorem sameDatum_any (W : World) (S S' : Nat → Prop) (d : Nat) (k n : Int) (s : ByteArray) (a a' : Option Addr) (len len' cap cap' : Nat) (w : World) (hW : Below W.heap.size W w)
    (hc : ∀ w1, Below W.heap.size W w1 → Calls Tryd.prog 13 #[.slice a len cap, .slice a' len' cap'] w1 fun e w' => e = .returned (.bool true) ∧ Below w1.heap.size w1 w') :
    Calls Tryd.prog 28 #[.agg #[.int .i64 k, .int .i64 n, .string s, .slice a len cap], .agg #[.int .i64 k, .int .i64 n, .string s, .slice a' len' cap']] w fun e w' => e = .returned (.bool true) ∧ Below w.heap.size w w' := by
  have hb : Below w.heap.size w ((w.alloc (.cells #[.int .i64 k, .int .i64 n, .string s, .slice a len cap] 24)).alloc (.cells #[.int .i64 k, .int .i64 n, .string s, .slice a' len' cap'] 24)) := ((Below.refl _ _).alloc (Nat.le_refl _) _).alloc (by simp) _
  have hcall := hc _ (hW.trans (hb.mono hW.size))
  have e1 : (k == k) = true := by simp
  have e2 : (n == n) = true := by simp
  go_enter Tryd.func28, Tryd.ntmps28
  go_wp2_with fail
  go_fit hcall
  clear hcall
  rintro e w1 ⟨rfl, hb1⟩
  go_wp2_with fail
  go_ret
  exact ⟨rfl, hb.trans (hb1.mono (by simp; omega))⟩
theorem same_any (W : World) (S S' : Nat → Prop) (d : Nat) : SameSaid W S S' d := by
  induction d with
  | zero =>
    intro t k k' n n' s s' a a' len len' cap cap' w hW h h'
    obtain ⟨rfl, rfl, rfl, hc⟩ := h.same h'
    rcases hc with ⟨rfl, rfl⟩ | ⟨d', items, hd, _⟩
    · exact sameDatum_any W S S' 0 k n s a a' 0 0 cap cap' w hW (fun w1 _ => sameData_zero a a' cap cap' w1)
    · omega
  | succ d ih =>
    intro t k k' n n' s s' a a' len len' cap cap' w hW h h'
    obtain ⟨rfl, rfl, rfl, hc⟩ := h.same h'
    rcases hc with ⟨rfl, rfl⟩ | ⟨d', items, hd, hbd, hr, hr'⟩
    · exact sameDatum_any W S S' (d + 1) k n s a a' 0 0 cap cap' w hW (fun w1 _ => sameData_zero a a' cap cap' w1)
    · obtain rfl : d' = d := by omega
      exact sameDatum_any W S S' (d' + 1) k n s a a' len len' cap cap' w hW (fun w1 h1 => sameData_any W S S' d' ih items a a' len len' cap cap' w1 h1 hbd hr hr')
end Go.Proofs.YtfhiolnoalghmaaDoor

/- The bard's expression of every depth: a tree's text. -/
import Derived.Test.YtdfmimgjdchafaaGreatDoorBELeaf
import Derived.Test.YtdfmimgjdchafaaGreatDoorBEA
import Derived.Test.YtdfmimgjdchafaaGreatDoorBEB
import Derived.Test.YtdfmimgjdchafaaGreatDoorBEC
import Derived.Test.YtdfmimgjdchafaaGreatDoorBED
import Derived.Test.YtdfmimgjdchafaaGreatDoorBEE
namespace Go.Proofs.YtdfmimgjdchafaaGreatDoor
set_option maxRecDepth 100000
open Go.RowKit
def depN (n : Nat) : Nat := 2 + 5 * n
def lenN : Nat → Nat
  | 0 => 20
  | n + 1 => 3 * lenN n + 100
theorem lenN_ge (n : Nat) : 20 ≤ lenN n := by
  induction n with
  | zero => exact Nat.le_refl _
  | succ n ih => simp only [lenN]; omega
theorem lenN_le {n : Nat} (h : n ≤ 3) : lenN n ≤ 1840 := by
  have : n = 0 ∨ n = 1 ∨ n = 2 ∨ n = 3 := by omega
  rcases this with rfl | rfl | rfl | rfl <;> decide
theorem expr_all (B bb : Nat) : ∀ n, n ≤ 3 → ExprAt B bb n (depN n) (lenN n) := by
  have leaf : ∀ (n : Nat), n ≤ 3 → ∀ (w : World) (lv : Value) (names : List ByteArray) (d : Int), d ≤ 0 → B ≤ w.heap.size → Bard w B bb lv names → TabB w B → NamesOk names (1000 - n) →
      Calls Tryz.prog 17 #[.pointer (some ⟨bb, 0, none⟩), .int .i64 d] w fun e w' => (∃ v, e = .returned v ∧ InL (Tr (depN n) (lenN n)) v) ∧ Stp B bb names names w w' := by
    intro n hn w lv names d hd hB h hT hN
    have hbel : Below w.heap.size w ((w.alloc (.cells #[.pointer (some ⟨bb, 0, none⟩)] 59)).alloc (.cells #[.int .i64 d] 3)) := ((Below.refl _ _).alloc (Nat.le_refl _) _).alloc (by simp) _
    obtain ⟨k, x, y, z, hk, hx, hy, hz, HN⟩ := next_det _ B bb lv names (Nat.le_trans hB hbel.size) (h.keep hB hbel)
    refine (expr_leaf w lv names d k x y z hd (m := 1000 - n) (by omega) hB h hT hN hk hx hy hz HN).mono ?_
    rintro e w' ⟨⟨v, rfl, hv⟩, hs⟩
    exact ⟨⟨v, rfl, hv.tr (by unfold depN; omega) (lenN_ge n)⟩, hs⟩
  intro n
  induction n with
  | zero => exact fun hn w lv names d _ hd hB h hT hN => leaf 0 hn w lv names d (by omega) hB h hT hN
  | succ n ih =>
    intro hn w lv names d hd0 hd hB h hT hN
    by_cases h0 : d ≤ 0
    · exact leaf (n + 1) hn w lv names d h0 hB h hT hN
    · have ih := ih (by omega)
      have hbel : Below w.heap.size w ((w.alloc (.cells #[.pointer (some ⟨bb, 0, none⟩)] 59)).alloc (.cells #[.int .i64 d] 3)) := ((Below.refl _ _).alloc (Nat.le_refl _) _).alloc (by simp) _
      obtain ⟨k, x, y, z, hk, hx, hy, hz, HN⟩ := next_det _ B bb lv names (Nat.le_trans hB hbel.size) (h.keep hB hbel)
      have hD : 2 ≤ depN n := by unfold depN; omega
      have hM := lenN_ge n
      have hM2 : lenN n ≤ 1000000 := by have := lenN_le (n := n) (by omega); omega
      have hN' : NamesOk names (999 - n) := ⟨hN.pos, by have := hN.len; omega, hN.ok⟩
      have hd1 : d ≤ (n : Int) + 1 := by omega
      have hr := pick_range k 20 (by omega)
      have hg : depN (n + 1) = depN n + 5 := by unfold depN; omega
      have hl : lenN (n + 1) = 3 * lenN n + 100 := rfl
      rw [hg, hl]
      have hcase : pick k 20 = 0 ∨ pick k 20 = 1 ∨ pick k 20 = 2 ∨ pick k 20 = 3 ∨ pick k 20 = 4 ∨ pick k 20 = 5 ∨ pick k 20 = 6 ∨ pick k 20 = 7 ∨ pick k 20 = 8 ∨ pick k 20 = 9 ∨ pick k 20 = 10 ∨ pick k 20 = 11 ∨ pick k 20 = 12 ∨ pick k 20 = 13 ∨ pick k 20 = 14 ∨ pick k 20 = 15 ∨ pick k 20 = 16 ∨ pick k 20 = 17 ∨ pick k 20 = 18 ∨ pick k 20 = 19 := by omega
      rcases hcase with he | he | he | he | he | he | he | he | he | he | he | he | he | he | he | he | he | he | he | he
      · exact expr_c0 hD hM hM2 ih (by omega) w lv names d k x y z (by omega) hd1 hB h hT hN' hk hx hy hz HN he
      · exact expr_c1 hD hM hM2 ih (by omega) w lv names d k x y z (by omega) hd1 hB h hT hN' hk hx hy hz HN he
      · exact expr_c2 hD hM hM2 ih (by omega) w lv names d k x y z (by omega) hd1 hB h hT hN' hk hx hy hz HN he
      · exact expr_c3 hD hM hM2 ih (by omega) w lv names d k x y z (by omega) hd1 hB h hT hN' hk hx hy hz HN he
      · exact expr_c4 hD hM hM2 ih (by omega) w lv names d k x y z (by omega) hd1 hB h hT hN' hk hx hy hz HN he
      · exact expr_c5 hD hM hM2 ih (by omega) w lv names d k x y z (by omega) hd1 hB h hT hN' hk hx hy hz HN he
      · exact expr_c6 hD hM hM2 ih (by omega) w lv names d k x y z (by omega) hd1 hB h hT hN' hk hx hy hz HN he
      · exact expr_c7 hD hM hM2 ih (by omega) w lv names d k x y z (by omega) hd1 hB h hT hN' hk hx hy hz HN he
      · exact expr_c8 hD hM hM2 ih (by omega) w lv names d k x y z (by omega) hd1 hB h hT hN' hk hx hy hz HN he
      · exact expr_c9 hD hM hM2 ih (by omega) w lv names d k x y z (by omega) hd1 hB h hT hN' hk hx hy hz HN he
      · exact expr_c10 hD hM hM2 ih (by omega) w lv names d k x y z (by omega) hd1 hB h hT hN' hk hx hy hz HN he
      · exact expr_c11 hD hM hM2 ih (by omega) w lv names d k x y z (by omega) hd1 hB h hT hN' hk hx hy hz HN he
      · exact expr_c12 hD hM hM2 ih (by omega) w lv names d k x y z (by omega) hd1 hB h hT hN' hk hx hy hz HN he
      · exact expr_c13 hD hM hM2 ih (by omega) w lv names d k x y z (by omega) hd1 hB h hT hN' hk hx hy hz HN he
      · exact expr_c14 hD hM hM2 ih (by omega) w lv names d k x y z (by omega) hd1 hB h hT hN' hk hx hy hz HN he
      · exact expr_c15 hD hM hM2 ih (by omega) w lv names d k x y z (by omega) hd1 hB h hT hN' hk hx hy hz HN he
      · exact expr_c16 hD hM hM2 ih (by omega) w lv names d k x y z (by omega) hd1 hB h hT hN' hk hx hy hz HN he
      · exact expr_c17 hD hM hM2 ih (by omega) w lv names d k x y z (by omega) hd1 hB h hT hN' hk hx hy hz HN he
      · exact expr_c18 hD hM hM2 ih (by omega) w lv names d k x y z (by omega) hd1 hB h hT hN' hk hx hy hz HN he
      · exact expr_c19 hD hM hM2 ih (by omega) w lv names d k x y z (by omega) hd1 hB h hT hN' hk hx hy hz HN he
end Go.Proofs.YtdfmimgjdchafaaGreatDoor

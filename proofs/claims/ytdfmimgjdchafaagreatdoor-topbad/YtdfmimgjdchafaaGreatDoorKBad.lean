/- TopBad's walk: a heap that is too small, or too great, is refused, and a script that is too long. -/
import Derived.Test.YtdfmimgjdchafaaGreatDoorKScript
import Derived.Test.YtdfmimgjdchafaaGreatDoorKRun
import Derived.Deep.OwnRows
namespace Go.Proofs.YtdfmimgjdchafaaGreatDoor
set_option maxRecDepth 100000
open Go.RowKit
set_option maxRecDepth 100000 in
set_option maxHeartbeats 400000 in
theorem Picked_any (n m : Int) (w : World) (h0 : -9223372036854775808 ≤ n) (h1 : n ≤ 9223372036854775807) (hm : 0 < m) (hm2 : m ≤ 9223372036854775807) :
    Calls Tryz.prog 6 #[.int .i64 n, .int .i64 m] w fun e w' => e = .returned (.int .i64 (pick n m)) ∧ w' = w := by
  have HC := hid (picked_any n m w h0 h1 hm hm2)
  go_enter Tryz.func6, Tryz.ntmps6
  go_wp2_with fail
  have hcall := HC.out
  go_fit hcall
  clear hcall HC
  rintro e w1 ⟨rfl, rfl⟩
  go_wp2_with fail
  go_ret
  exact ⟨rfl, rfl⟩
theorem make_201 : ∃ cs, ∀ w : World, (Instr.makeSlice 23 (.int .i64 201) (.int .i64 201)).run Tryz.prog w = .ok (.slice (some ⟨w.heap.size, 0, none⟩) 201 201) (w.alloc (.cells cs 44)) := by
  obtain ⟨i0, hi, hz0, hz1, hz2⟩ := info_parts infoAct
  exact ⟨_, fun w => run_make (P := Tryz.prog) w 23 44 i0 _ Tryz.underlying23 hi hz0 .i64 .i64 201 201 (by omega) (by omega) (by rw [hz2]; omega) (by omega)⟩
set_option maxRecDepth 100000 in
set_option maxHeartbeats 4000000 in
theorem topBad_walk (ra : Option Addr) (rn rc : Nat) (n : Int) (w : World) (hn : i64B n) (hR : Raws w w.heap.size ra rn) (h1 : rn ≤ rc) (h2 : rc ≤ maxLen) (hT : TabB w w.heap.size) :
    Calls Tryz.prog 3 #[.slice ra rn rc, .int .i64 n] w fun e w' => e = .returned (.bool true) ∧ Below w.heap.size w w' := by
  have HC := hid (Script_any w ra rn rc hR h1 h2 hT)
  have HP := hid (fun w' => Picked_any n 40 w' hn.1 hn.2 (by omega) (by omega))
  obtain ⟨j, hj, hjl⟩ := pick_ofNat n 40 (by omega)
  rw [show ((40 : Nat) : Int) = 40 from rfl] at hj
  have HL := hid (fun a m c w' => Run_low (49 - (j : Int)) a m c w' (by omega))
  have HH := hid (fun a m c w' => Run_high (60001 + (j : Int)) a m c w' (by omega))
  have HG := hid (fun a c w' => Run_long a c w')
  have HN := hid (fun w' => ran_none w')
  unfold W0 at HL HH HG HN
  have e1 : IntKind.i64.wrap (49 - (j : Int)) = 49 - (j : Int) := by rw [IntKind.wrap_i64]; omega
  have e2 : IntKind.i64.wrap (60001 + (j : Int)) = 60001 + (j : Int) := by rw [IntKind.wrap_i64]; omega
  obtain ⟨cs, hmk⟩ := make_201
  clear hR hT
  go_enter Tryz.func3, Tryz.ntmps3
  go_wp2_with fail
  have hcall := HC.out
  go_fit hcall
  clear hcall HC
  rintro e w1 ⟨⟨v, rfl, a, m, c, rfl, hm⟩, hb1⟩
  go_wp2_with fail
  have hcall := HP.out w1
  go_fit hcall
  clear hcall
  rintro e w2 ⟨rfl, hw2⟩
  rw [hw2, hj]
  clear hw2 w2
  go_wp2_with fail
  have hcall := HL.out a m c w1
  go_fit hcall
  clear hcall HL
  rintro e w3 ⟨rfl, hb3⟩
  go_wp2_with fail
  have hcall := HP.out (w3.alloc (.cells #[.slice none 0 0, .slice none 0 0, .slice none 0 0, .slice none 0 0, .int .i64 0] 33))
  go_fit hcall
  clear hcall HP
  rintro e w4 ⟨rfl, hw4⟩
  rw [hw4, hj]
  clear hw4 w4
  generalize hW3 : w3.alloc (.cells #[.slice none 0 0, .slice none 0 0, .slice none 0 0, .slice none 0 0, .int .i64 0] 33) = W3
  have hb3' : Below w1.heap.size w1 W3 := hb3.trans (by rw [← hW3]; exact ((Below.refl _ _).alloc (Nat.le_refl _) _).mono hb3.size)
  clear hW3
  go_wp2_with fail
  have hcall := HH.out a m c W3
  go_fit hcall
  clear hcall HH
  rintro e w5 ⟨rfl, hb5⟩
  go_wp2_with fail
  have hcall := HG.out (some ⟨w5.heap.size + 1, 0, none⟩) 201 ((w5.alloc (.cells #[.slice none 0 0, .slice none 0 0, .slice none 0 0, .slice none 0 0, .int .i64 0] 33)).alloc (.cells cs 44))
  go_fit hcall
  clear hcall HG
  rintro e w6 ⟨rfl, hb6⟩
  go_wp2_with fail
  have hcall := HN.out (w6.alloc (.cells #[.slice none 0 0, .slice none 0 0, .slice none 0 0, .slice none 0 0, .int .i64 0] 33))
  go_fit hcall
  clear hcall HN
  rintro e w7 ⟨rfl, hb7⟩
  go_wp2_with fail
  go_ret
  have q5 : Below w5.heap.size w5 ((w5.alloc (.cells #[.slice none 0 0, .slice none 0 0, .slice none 0 0, .slice none 0 0, .int .i64 0] 33)).alloc (.cells cs 44)) := ((Below.refl _ _).alloc (Nat.le_refl _) _).alloc (by simp) _
  have q6 : Below w6.heap.size w6 (w6.alloc (.cells #[.slice none 0 0, .slice none 0 0, .slice none 0 0, .slice none 0 0, .int .i64 0] 33)) := (Below.refl _ _).alloc (Nat.le_refl _) _
  have q7 : Below w7.heap.size w7 (w7.alloc (.cells #[.slice none 0 0, .slice none 0 0, .slice none 0 0, .slice none 0 0, .int .i64 1000] 33)) := (Below.refl _ _).alloc (Nat.le_refl _) _
  have s1 := hb1.size
  have s3 := hb3'.size
  have s5 := hb5.size
  have s5' := q5.size
  have s6 := hb6.size
  have s6' := q6.size
  have s7 := hb7.size
  exact ⟨rfl, hb1.trans ((hb3'.mono s1).trans ((hb5.mono (by omega)).trans ((q5.mono (by omega)).trans ((hb6.mono (by omega)).trans ((q6.mono (by omega)).trans ((hb7.mono (by omega)).trans (q7.mono (by omega))))))))⟩
end Go.Proofs.YtdfmimgjdchafaaGreatDoor

/- serve.Run where it does nothing: a limit out of range, a script that is too long, an empty one. -/
import Derived.Test.YtdfmimgjdchafaaGreatDoorBard1
namespace Go.Proofs.YtdfmimgjdchafaaGreatDoor
set_option maxRecDepth 100000
open Go.RowKit
def W0 (lim : Int) : Value := .agg #[.slice none 0 0, .slice none 0 0, .slice none 0 0, .slice none 0 0, .int .i64 lim]
def O0 (lim : Int) : Obj := .cells #[.slice none 0 0, .slice none 0 0, .slice none 0 0, .slice none 0 0, .int .i64 lim] 33
set_option maxRecDepth 100000 in
set_option maxHeartbeats 2000000 in
theorem Run_low (lim : Int) (a : Option Addr) (n c : Nat) (w : World) (h : lim < 50) :
    Calls Tryz.prog 5 #[.int .i64 lim, .slice a n c] w fun e w' => e = .returned (.tuple #[.slice none 0 0, W0 0, .int .i64 2]) ∧ Below w.heap.size w w' := by
  unfold W0
  go_enter Tryz.func5, Tryz.ntmps5
  go_wp2_with fail
  refine bodyPost_ret (v := .tuple #[.slice none 0 0, .agg #[.slice none 0 0, .slice none 0 0, .slice none 0 0, .slice none 0 0, .int .i64 0], .int .i64 2]) (by simp [results, Tryz.results5, go_sem]) rfl ?_
  exact ⟨rfl, by repeat (first | exact Below.refl _ _ | refine Below.drew ?_ | refine Below.setCell ?_ (by simp) _ | refine Below.alloc ?_ (by simp) _)⟩
set_option maxRecDepth 100000 in
set_option maxHeartbeats 2000000 in
theorem Run_high (lim : Int) (a : Option Addr) (n c : Nat) (w : World) (h : 60000 < lim) :
    Calls Tryz.prog 5 #[.int .i64 lim, .slice a n c] w fun e w' => e = .returned (.tuple #[.slice none 0 0, W0 0, .int .i64 2]) ∧ Below w.heap.size w w' := by
  have h0 : ¬ lim < 50 := by omega
  unfold W0
  go_enter Tryz.func5, Tryz.ntmps5
  go_wp2_with fail
  refine bodyPost_ret (v := .tuple #[.slice none 0 0, .agg #[.slice none 0 0, .slice none 0 0, .slice none 0 0, .slice none 0 0, .int .i64 0], .int .i64 2]) (by simp [results, Tryz.results5, go_sem]) rfl ?_
  exact ⟨rfl, by repeat (first | exact Below.refl _ _ | refine Below.drew ?_ | refine Below.setCell ?_ (by simp) _ | refine Below.alloc ?_ (by simp) _)⟩
set_option maxRecDepth 100000 in
set_option maxHeartbeats 2000000 in
theorem Run_long (a : Option Addr) (c : Nat) (w : World) :
    Calls Tryz.prog 5 #[.int .i64 1000, .slice a 201 c] w fun e w' => e = .returned (.tuple #[.slice none 0 0, W0 0, .int .i64 1]) ∧ Below w.heap.size w w' := by
  unfold W0
  go_enter Tryz.func5, Tryz.ntmps5
  go_wp2_with fail
  refine bodyPost_ret (v := .tuple #[.slice none 0 0, .agg #[.slice none 0 0, .slice none 0 0, .slice none 0 0, .slice none 0 0, .int .i64 0], .int .i64 1]) (by simp [results, Tryz.results5, go_sem]) rfl ?_
  exact ⟨rfl, by repeat (first | exact Below.refl _ _ | refine Below.drew ?_ | refine Below.setCell ?_ (by simp) _ | refine Below.alloc ?_ (by simp) _)⟩
set_option maxRecDepth 100000 in
set_option maxHeartbeats 2000000 in
theorem Run_none (w : World) :
    Calls Tryz.prog 5 #[.int .i64 1000, .slice none 0 0] w fun e w' => e = .returned (.tuple #[.slice none 0 0, W0 1000, .int .i64 0]) ∧ Below w.heap.size w w' := by
  unfold W0
  go_enter Tryz.func5, Tryz.ntmps5
  go_wp2_with fail
  go_loopw [8, 32] (fun v i wr => v = .slice none 0 0 ∧ i = .int .i64 0 ∧ wr = (w.alloc (.cells #[.slice none 0 0, .slice none 0 0, .slice none 0 0, .slice none 0 0, .int .i64 0] 33)).alloc (.cells #[.slice none 0 0, .slice none 0 0, .slice none 0 0, .slice none 0 0, .int .i64 1000] 33)) (fun _ _ _ => 0)
  case atStart => exact ⟨rfl, rfl, rfl⟩
  case round =>
    obtain ⟨rfl, rfl, rfl⟩ := hrel
    go_wp2_with fail
    go_region
    all_goals go_wp2
    all_goals refine bodyPost_ret (v := .tuple #[.slice none 0 0, .agg #[.slice none 0 0, .slice none 0 0, .slice none 0 0, .slice none 0 0, .int .i64 1000], .int .i64 0]) (by simp [results, Tryz.results5, go_sem]) rfl ?_
    all_goals exact ⟨rfl, (((Below.refl _ _).alloc (Nat.le_refl _) _).alloc (by simp) _).drew⟩
theorem five_cells {w : World} {b : Nat} {t : TypeId} {v0 v1 v2 v3 v4 : Value} (h : w.heap[b]? = some (.cells #[v0, v1, v2, v3, v4] t (0, 0))) (u0 u1 u2 u3 u4 : Value) (o : Obj) :
    ((((((w.setCell ⟨b, 0, none⟩ u0).setCell ⟨b, 1, none⟩ u1).setCell ⟨b, 2, none⟩ u2).setCell ⟨b, 3, none⟩ u3).setCell ⟨b, 4, none⟩ u4).alloc o).heap[b]? = some (.cells #[u0, u1, u2, u3, u4] t (0, 0)) := by
  have hlt : b < w.heap.size := (Array.getElem?_eq_some_iff.1 h).1
  have h1 := Joins.block_setCell (i := 0) h u0
  have h2 := Joins.block_setCell (i := 1) h1 u1
  have h3 := Joins.block_setCell (i := 2) h2 u2
  have h4 := Joins.block_setCell (i := 3) h3 u3
  have h5 := Joins.block_setCell (i := 4) h4 u4
  exact (((Below.refl _ _).alloc (Nat.le_refl _) o).block b (by simp only [World.size_setCell]; exact hlt)).trans (h5.trans rfl)
set_option maxRecDepth 100000 in
set_option maxHeartbeats 2000000 in
theorem ran_none (w : World) :
    Calls Tryz.prog 7 #[.int .i64 1000, .slice none 0 0] w fun e w' => e = .returned (.tuple #[.slice none 0 0, W0 1000, .bool true]) ∧ Below w.heap.size w w' := by
  generalize hW : w.alloc (.cells #[.slice none 0 0, .slice none 0 0, .slice none 0 0, .slice none 0 0, .int .i64 0] 33) = W
  have hb0 : Below w.heap.size w W := by rw [← hW]; exact (Below.refl _ _).alloc (Nat.le_refl _) _
  have hlt : w.heap.size < W.heap.size := by rw [← hW]; simp
  have HC := hid (Run_none W)
  unfold W0 at HC
  unfold W0
  go_enter Tryz.func7, Tryz.ntmps7
  go_wp2_with fail
  try simp only [hW]
  have hcall := HC.out
  go_fit hcall
  clear hcall HC
  rintro e w1 ⟨rfl, hb1⟩
  have hrow : w1.heap[w.heap.size]? = some (.cells #[.slice none 0 0, .slice none 0 0, .slice none 0 0, .slice none 0 0, .int .i64 0] 33 (0, 0)) := by
    rw [hb1.block _ hlt, ← hW]
    exact heap_alloc_new w _
  have f0 : w1.frozen? ⟨w.heap.size, 0, none⟩ = false := by simp [World.frozen?, hrow]
  have d0 : w1.cell? ⟨w.heap.size, 0, none⟩ = some (.slice none 0 0) := by simp [World.cell?, hrow]
  have f1 : w1.frozen? ⟨w.heap.size, 1, none⟩ = false := by simp [World.frozen?, hrow]
  have d1 : w1.cell? ⟨w.heap.size, 1, none⟩ = some (.slice none 0 0) := by simp [World.cell?, hrow]
  have f2 : w1.frozen? ⟨w.heap.size, 2, none⟩ = false := by simp [World.frozen?, hrow]
  have d2 : w1.cell? ⟨w.heap.size, 2, none⟩ = some (.slice none 0 0) := by simp [World.cell?, hrow]
  have f3 : w1.frozen? ⟨w.heap.size, 3, none⟩ = false := by simp [World.frozen?, hrow]
  have d3 : w1.cell? ⟨w.heap.size, 3, none⟩ = some (.slice none 0 0) := by simp [World.cell?, hrow]
  have f4 : w1.frozen? ⟨w.heap.size, 4, none⟩ = false := by simp [World.frozen?, hrow]
  have d4 : w1.cell? ⟨w.heap.size, 4, none⟩ = some (.int .i64 0) := by simp [World.cell?, hrow]
  have hlt1 : w.heap.size < w1.heap.size := Nat.lt_of_lt_of_le hlt hb1.size
  have hne : ¬ w.heap.size = w1.heap.size := by omega
  go_wp2_with fail
  go_region
  have h5 := five_cells hrow (.slice none 0 0) (.slice none 0 0) (.slice none 0 0) (.slice none 0 0) (.int .i64 1000) (.cells #[.slice none 0 0, .slice none 0 0, .slice none 0 0, .slice none 0 0, .int .i64 1000] 33)
  generalize hWF : ((((((w1.setCell ⟨w.heap.size, 0, none⟩ (.slice none 0 0)).setCell ⟨w.heap.size, 1, none⟩ (.slice none 0 0)).setCell ⟨w.heap.size, 2, none⟩ (.slice none 0 0)).setCell ⟨w.heap.size, 3, none⟩ (.slice none 0 0)).setCell ⟨w.heap.size, 4, none⟩ (.int .i64 1000)).alloc (.cells #[.slice none 0 0, .slice none 0 0, .slice none 0 0, .slice none 0 0, .int .i64 1000] 33)) = WF at h5
  have hbF : Below w.heap.size w1 WF := by
    rw [← hWF]
    exact ((((((Below.refl w.heap.size w1).setCell (Nat.le_refl _) _).setCell (Nat.le_refl _) _).setCell (Nat.le_refl _) _).setCell (Nat.le_refl _) _).setCell (Nat.le_refl _) _).alloc (by simp only [World.size_setCell]; omega) _
  have e0 : WF.cell? ⟨w.heap.size, 0, none⟩ = some (.slice none 0 0) := by simp [World.cell?, h5]
  have e1 : WF.cell? ⟨w.heap.size, 1, none⟩ = some (.slice none 0 0) := by simp [World.cell?, h5]
  have e2 : WF.cell? ⟨w.heap.size, 2, none⟩ = some (.slice none 0 0) := by simp [World.cell?, h5]
  have e3 : WF.cell? ⟨w.heap.size, 3, none⟩ = some (.slice none 0 0) := by simp [World.cell?, h5]
  have e4 : WF.cell? ⟨w.heap.size, 4, none⟩ = some (.int .i64 1000) := by simp [World.cell?, h5]
  all_goals go_wp2
  all_goals try simp only [hWF]
  all_goals refine bodyPost_ret (v := .tuple #[.slice none 0 0, .agg #[.slice none 0 0, .slice none 0 0, .slice none 0 0, .slice none 0 0, .int .i64 1000], .bool true]) (by simp [results, Tryz.results7, go_sem, e0, e1, e2, e3, e4]) rfl ?_
  all_goals exact ⟨rfl, hb0.trans (Below.trans (hb1.mono (Nat.le_of_lt hlt)) hbF.drew)⟩
end Go.Proofs.YtdfmimgjdchafaaGreatDoor

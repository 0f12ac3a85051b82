/- slices.Clone, at nine types. -/
import Derived.Test.YtecjnlekckmhfaaVBase
namespace Go.Proofs.Ytecjnlekckmhfaa
open Go.RowKit
theorem infoFn : (Try.prog.info? 36).map (fun i => (i.zero.isSome, i.size, i.bytes)) = some (true, 4, 48) := by kernel_rfl
set_option maxHeartbeats 1000000 in
theorem cloneFn (w : World) (S : Nat → Prop) (a : Option Addr) (n cap : Nat) (cs : List Value) (hC : Cs w S a cs) (hS : ∀ b, S b → b < w.heap.size) (hn : cs.length = n * 4) (h1 : ∀ u, u ∈ cs → u.oneCell' = true) (hl : n * 48 ≤ 281474976710656) :
    Calls Try.prog 6 #[.slice a n cap] w fun e w' => ∃ a' cap', e = .returned (.slice a' n cap') ∧ n ≤ cap' ∧ FreshC w w' a' cs := by
  cases a with
  | none =>
    have h0 := hC.of_none
    subst h0
    have hn0 : n = 0 := by simp at hn; omega
    subst hn0
    have he : ∀ w, (binOp .eql 22 (.slice none 0 cap) (.slice none 0 0)).run Try.prog w = .ok (.bool true) w := fun w => Lib.run_eql_slice_nil w _ _ none 0 cap 0 0 Try.underlying22
    clear hn hC hS hl h1
    go_enter Try.func6, Try.ntmps6
    go_wp2_with fail
    go_ret
    exact ⟨none, 0, rfl, Nat.le_refl _, Below.refl _ _, Cs.nil _ _ _, fun A h => by cases h⟩
  | some A0 =>
    obtain ⟨w1, hw1⟩ : ∃ w1, w1 = w.alloc (.cells #[] 36) := ⟨_, rfl⟩
    have hb1 : Below w.heap.size w w1 := by rw [hw1]; exact (Below.refl _ _).alloc (Nat.le_refl _) _
    have HS := hid ((hC.keep (S' := S) (fun b hb => hb1.block b (hS b hb)) (fun b h => h)).src (P := Try.prog) (tx := 22) Try.underlying22 4 n cap (by omega) hn h1)
    have HX := hid (fun (v : Value) (w' : World) (h : CopiedB w1 36 (some ⟨w.heap.size, 0, none⟩) n cs v w') => freshC_copied (k := 4) hn hb1 h)
    have HW := hid hw1
    clear hn hw1 hb1 h1
    have he : ∀ w, (binOp .eql 22 (.slice (some A0) n cap) (.slice none 0 0)).run Try.prog w = .ok (.bool false) w := fun w => Lib.run_eql_slice_nil w _ _ (some A0) n cap 0 0 Try.underlying22
    go_enter Try.func6, Try.ntmps6
    go_wp2_with (at_builtin; rw [← HW.out]; refine wpList_append_copyb _ rfl _ _ 22 22 rfl 36 4 48 Try.underlying22 infoFn ⟨w.heap.size, 0, none⟩ rfl _ rfl _ _ HS.out (by omega) (by omega) ?_; intro v w2 hv)
    obtain ⟨a', cap', rfl, h1, h2⟩ := HX.out _ _ hv
    have H2 := hid h2
    clear h2 hv
    go_wp2_with fail
    go_ret
    exact ⟨a', cap', rfl, h1, H2.out⟩
theorem infoIns : (Try.prog.info? 41).map (fun i => (i.zero.isSome, i.size, i.bytes)) = some (true, 8, 88) := by kernel_rfl
set_option maxHeartbeats 1000000 in
theorem cloneIns (w : World) (S : Nat → Prop) (a : Option Addr) (n cap : Nat) (cs : List Value) (hC : Cs w S a cs) (hS : ∀ b, S b → b < w.heap.size) (hn : cs.length = n * 8) (h1 : ∀ u, u ∈ cs → u.oneCell' = true) (hl : n * 88 ≤ 281474976710656) :
    Calls Try.prog 7 #[.slice a n cap] w fun e w' => ∃ a' cap', e = .returned (.slice a' n cap') ∧ n ≤ cap' ∧ FreshC w w' a' cs := by
  cases a with
  | none =>
    have h0 := hC.of_none
    subst h0
    have hn0 : n = 0 := by simp at hn; omega
    subst hn0
    have he : ∀ w, (binOp .eql 34 (.slice none 0 cap) (.slice none 0 0)).run Try.prog w = .ok (.bool true) w := fun w => Lib.run_eql_slice_nil w _ _ none 0 cap 0 0 Try.underlying34
    clear hn hC hS hl h1
    go_enter Try.func7, Try.ntmps7
    go_wp2_with fail
    go_ret
    exact ⟨none, 0, rfl, Nat.le_refl _, Below.refl _ _, Cs.nil _ _ _, fun A h => by cases h⟩
  | some A0 =>
    obtain ⟨w1, hw1⟩ : ∃ w1, w1 = w.alloc (.cells #[] 41) := ⟨_, rfl⟩
    have hb1 : Below w.heap.size w w1 := by rw [hw1]; exact (Below.refl _ _).alloc (Nat.le_refl _) _
    have HS := hid ((hC.keep (S' := S) (fun b hb => hb1.block b (hS b hb)) (fun b h => h)).src (P := Try.prog) (tx := 34) Try.underlying34 8 n cap (by omega) hn h1)
    have HX := hid (fun (v : Value) (w' : World) (h : CopiedB w1 41 (some ⟨w.heap.size, 0, none⟩) n cs v w') => freshC_copied (k := 8) hn hb1 h)
    have HW := hid hw1
    clear hn hw1 hb1 h1
    have he : ∀ w, (binOp .eql 34 (.slice (some A0) n cap) (.slice none 0 0)).run Try.prog w = .ok (.bool false) w := fun w => Lib.run_eql_slice_nil w _ _ (some A0) n cap 0 0 Try.underlying34
    go_enter Try.func7, Try.ntmps7
    go_wp2_with (at_builtin; rw [← HW.out]; refine wpList_append_copyb _ rfl _ _ 34 34 rfl 41 8 88 Try.underlying34 infoIns ⟨w.heap.size, 0, none⟩ rfl _ rfl _ _ HS.out (by omega) (by omega) ?_; intro v w2 hv)
    obtain ⟨a', cap', rfl, h1, h2⟩ := HX.out _ _ hv
    have H2 := hid h2
    clear h2 hv
    go_wp2_with fail
    go_ret
    exact ⟨a', cap', rfl, h1, H2.out⟩
theorem infoGl : (Try.prog.info? 44).map (fun i => (i.zero.isSome, i.size, i.bytes)) = some (true, 4, 48) := by kernel_rfl
set_option maxHeartbeats 1000000 in
theorem cloneGl (w : World) (S : Nat → Prop) (a : Option Addr) (n cap : Nat) (cs : List Value) (hC : Cs w S a cs) (hS : ∀ b, S b → b < w.heap.size) (hn : cs.length = n * 4) (h1 : ∀ u, u ∈ cs → u.oneCell' = true) (hl : n * 48 ≤ 281474976710656) :
    Calls Try.prog 8 #[.slice a n cap] w fun e w' => ∃ a' cap', e = .returned (.slice a' n cap') ∧ n ≤ cap' ∧ FreshC w w' a' cs := by
  cases a with
  | none =>
    have h0 := hC.of_none
    subst h0
    have hn0 : n = 0 := by simp at hn; omega
    subst hn0
    have he : ∀ w, (binOp .eql 23 (.slice none 0 cap) (.slice none 0 0)).run Try.prog w = .ok (.bool true) w := fun w => Lib.run_eql_slice_nil w _ _ none 0 cap 0 0 Try.underlying23
    clear hn hC hS hl h1
    go_enter Try.func8, Try.ntmps8
    go_wp2_with fail
    go_ret
    exact ⟨none, 0, rfl, Nat.le_refl _, Below.refl _ _, Cs.nil _ _ _, fun A h => by cases h⟩
  | some A0 =>
    obtain ⟨w1, hw1⟩ : ∃ w1, w1 = w.alloc (.cells #[] 44) := ⟨_, rfl⟩
    have hb1 : Below w.heap.size w w1 := by rw [hw1]; exact (Below.refl _ _).alloc (Nat.le_refl _) _
    have HS := hid ((hC.keep (S' := S) (fun b hb => hb1.block b (hS b hb)) (fun b h => h)).src (P := Try.prog) (tx := 23) Try.underlying23 4 n cap (by omega) hn h1)
    have HX := hid (fun (v : Value) (w' : World) (h : CopiedB w1 44 (some ⟨w.heap.size, 0, none⟩) n cs v w') => freshC_copied (k := 4) hn hb1 h)
    have HW := hid hw1
    clear hn hw1 hb1 h1
    have he : ∀ w, (binOp .eql 23 (.slice (some A0) n cap) (.slice none 0 0)).run Try.prog w = .ok (.bool false) w := fun w => Lib.run_eql_slice_nil w _ _ (some A0) n cap 0 0 Try.underlying23
    go_enter Try.func8, Try.ntmps8
    go_wp2_with (at_builtin; rw [← HW.out]; refine wpList_append_copyb _ rfl _ _ 23 23 rfl 44 4 48 Try.underlying23 infoGl ⟨w.heap.size, 0, none⟩ rfl _ rfl _ _ HS.out (by omega) (by omega) ?_; intro v w2 hv)
    obtain ⟨a', cap', rfl, h1, h2⟩ := HX.out _ _ hv
    have H2 := hid h2
    clear h2 hv
    go_wp2_with fail
    go_ret
    exact ⟨a', cap', rfl, h1, H2.out⟩
theorem infoRc : (Try.prog.info? 49).map (fun i => (i.zero.isSome, i.size, i.bytes)) = some (true, 3, 64) := by kernel_rfl
set_option maxHeartbeats 1000000 in
theorem cloneRc (w : World) (S : Nat → Prop) (a : Option Addr) (n cap : Nat) (cs : List Value) (hC : Cs w S a cs) (hS : ∀ b, S b → b < w.heap.size) (hn : cs.length = n * 3) (h1 : ∀ u, u ∈ cs → u.oneCell' = true) (hl : n * 64 ≤ 281474976710656) :
    Calls Try.prog 9 #[.slice a n cap] w fun e w' => ∃ a' cap', e = .returned (.slice a' n cap') ∧ n ≤ cap' ∧ FreshC w w' a' cs := by
  cases a with
  | none =>
    have h0 := hC.of_none
    subst h0
    have hn0 : n = 0 := by simp at hn; omega
    subst hn0
    have he : ∀ w, (binOp .eql 24 (.slice none 0 cap) (.slice none 0 0)).run Try.prog w = .ok (.bool true) w := fun w => Lib.run_eql_slice_nil w _ _ none 0 cap 0 0 Try.underlying24
    clear hn hC hS hl h1
    go_enter Try.func9, Try.ntmps9
    go_wp2_with fail
    go_ret
    exact ⟨none, 0, rfl, Nat.le_refl _, Below.refl _ _, Cs.nil _ _ _, fun A h => by cases h⟩
  | some A0 =>
    obtain ⟨w1, hw1⟩ : ∃ w1, w1 = w.alloc (.cells #[] 49) := ⟨_, rfl⟩
    have hb1 : Below w.heap.size w w1 := by rw [hw1]; exact (Below.refl _ _).alloc (Nat.le_refl _) _
    have HS := hid ((hC.keep (S' := S) (fun b hb => hb1.block b (hS b hb)) (fun b h => h)).src (P := Try.prog) (tx := 24) Try.underlying24 3 n cap (by omega) hn h1)
    have HX := hid (fun (v : Value) (w' : World) (h : CopiedB w1 49 (some ⟨w.heap.size, 0, none⟩) n cs v w') => freshC_copied (k := 3) hn hb1 h)
    have HW := hid hw1
    clear hn hw1 hb1 h1
    have he : ∀ w, (binOp .eql 24 (.slice (some A0) n cap) (.slice none 0 0)).run Try.prog w = .ok (.bool false) w := fun w => Lib.run_eql_slice_nil w _ _ (some A0) n cap 0 0 Try.underlying24
    go_enter Try.func9, Try.ntmps9
    go_wp2_with (at_builtin; rw [← HW.out]; refine wpList_append_copyb _ rfl _ _ 24 24 rfl 49 3 64 Try.underlying24 infoRc ⟨w.heap.size, 0, none⟩ rfl _ rfl _ _ HS.out (by omega) (by omega) ?_; intro v w2 hv)
    obtain ⟨a', cap', rfl, h1, h2⟩ := HX.out _ _ hv
    have H2 := hid h2
    clear h2 hv
    go_wp2_with fail
    go_ret
    exact ⟨a', cap', rfl, h1, H2.out⟩
theorem infoWd : (Try.prog.info? 39).map (fun i => (i.zero.isSome, i.size, i.bytes)) = some (true, 3, 32) := by kernel_rfl
set_option maxHeartbeats 1000000 in
theorem cloneWd (w : World) (S : Nat → Prop) (a : Option Addr) (n cap : Nat) (cs : List Value) (hC : Cs w S a cs) (hS : ∀ b, S b → b < w.heap.size) (hn : cs.length = n * 3) (h1 : ∀ u, u ∈ cs → u.oneCell' = true) (hl : n * 32 ≤ 281474976710656) :
    Calls Try.prog 11 #[.slice a n cap] w fun e w' => ∃ a' cap', e = .returned (.slice a' n cap') ∧ n ≤ cap' ∧ FreshC w w' a' cs := by
  cases a with
  | none =>
    have h0 := hC.of_none
    subst h0
    have hn0 : n = 0 := by simp at hn; omega
    subst hn0
    have he : ∀ w, (binOp .eql 25 (.slice none 0 cap) (.slice none 0 0)).run Try.prog w = .ok (.bool true) w := fun w => Lib.run_eql_slice_nil w _ _ none 0 cap 0 0 Try.underlying25
    clear hn hC hS hl h1
    go_enter Try.func11, Try.ntmps11
    go_wp2_with fail
    go_ret
    exact ⟨none, 0, rfl, Nat.le_refl _, Below.refl _ _, Cs.nil _ _ _, fun A h => by cases h⟩
  | some A0 =>
    obtain ⟨w1, hw1⟩ : ∃ w1, w1 = w.alloc (.cells #[] 39) := ⟨_, rfl⟩
    have hb1 : Below w.heap.size w w1 := by rw [hw1]; exact (Below.refl _ _).alloc (Nat.le_refl _) _
    have HS := hid ((hC.keep (S' := S) (fun b hb => hb1.block b (hS b hb)) (fun b h => h)).src (P := Try.prog) (tx := 25) Try.underlying25 3 n cap (by omega) hn h1)
    have HX := hid (fun (v : Value) (w' : World) (h : CopiedB w1 39 (some ⟨w.heap.size, 0, none⟩) n cs v w') => freshC_copied (k := 3) hn hb1 h)
    have HW := hid hw1
    clear hn hw1 hb1 h1
    have he : ∀ w, (binOp .eql 25 (.slice (some A0) n cap) (.slice none 0 0)).run Try.prog w = .ok (.bool false) w := fun w => Lib.run_eql_slice_nil w _ _ (some A0) n cap 0 0 Try.underlying25
    go_enter Try.func11, Try.ntmps11
    go_wp2_with (at_builtin; rw [← HW.out]; refine wpList_append_copyb _ rfl _ _ 25 25 rfl 39 3 32 Try.underlying25 infoWd ⟨w.heap.size, 0, none⟩ rfl _ rfl _ _ HS.out (by omega) (by omega) ?_; intro v w2 hv)
    obtain ⟨a', cap', rfl, h1, h2⟩ := HX.out _ _ hv
    have H2 := hid h2
    clear h2 hv
    go_wp2_with fail
    go_ret
    exact ⟨a', cap', rfl, h1, H2.out⟩
theorem infoSh : (Try.prog.info? 58).map (fun i => (i.zero.isSome, i.size, i.bytes)) = some (true, 2, 40) := by kernel_rfl
set_option maxHeartbeats 1000000 in
theorem cloneSh (w : World) (S : Nat → Prop) (a : Option Addr) (n cap : Nat) (cs : List Value) (hC : Cs w S a cs) (hS : ∀ b, S b → b < w.heap.size) (hn : cs.length = n * 2) (h1 : ∀ u, u ∈ cs → u.oneCell' = true) (hl : n * 40 ≤ 281474976710656) :
    Calls Try.prog 15 #[.slice a n cap] w fun e w' => ∃ a' cap', e = .returned (.slice a' n cap') ∧ n ≤ cap' ∧ FreshC w w' a' cs := by
  cases a with
  | none =>
    have h0 := hC.of_none
    subst h0
    have hn0 : n = 0 := by simp at hn; omega
    subst hn0
    have he : ∀ w, (binOp .eql 46 (.slice none 0 cap) (.slice none 0 0)).run Try.prog w = .ok (.bool true) w := fun w => Lib.run_eql_slice_nil w _ _ none 0 cap 0 0 Try.underlying46
    clear hn hC hS hl h1
    go_enter Try.func15, Try.ntmps15
    go_wp2_with fail
    go_ret
    exact ⟨none, 0, rfl, Nat.le_refl _, Below.refl _ _, Cs.nil _ _ _, fun A h => by cases h⟩
  | some A0 =>
    obtain ⟨w1, hw1⟩ : ∃ w1, w1 = w.alloc (.cells #[] 58) := ⟨_, rfl⟩
    have hb1 : Below w.heap.size w w1 := by rw [hw1]; exact (Below.refl _ _).alloc (Nat.le_refl _) _
    have HS := hid ((hC.keep (S' := S) (fun b hb => hb1.block b (hS b hb)) (fun b h => h)).src (P := Try.prog) (tx := 46) Try.underlying46 2 n cap (by omega) hn h1)
    have HX := hid (fun (v : Value) (w' : World) (h : CopiedB w1 58 (some ⟨w.heap.size, 0, none⟩) n cs v w') => freshC_copied (k := 2) hn hb1 h)
    have HW := hid hw1
    clear hn hw1 hb1 h1
    have he : ∀ w, (binOp .eql 46 (.slice (some A0) n cap) (.slice none 0 0)).run Try.prog w = .ok (.bool false) w := fun w => Lib.run_eql_slice_nil w _ _ (some A0) n cap 0 0 Try.underlying46
    go_enter Try.func15, Try.ntmps15
    go_wp2_with (at_builtin; rw [← HW.out]; refine wpList_append_copyb _ rfl _ _ 46 46 rfl 58 2 40 Try.underlying46 infoSh ⟨w.heap.size, 0, none⟩ rfl _ rfl _ _ HS.out (by omega) (by omega) ?_; intro v w2 hv)
    obtain ⟨a', cap', rfl, h1, h2⟩ := HX.out _ _ hv
    have H2 := hid h2
    clear h2 hv
    go_wp2_with fail
    go_ret
    exact ⟨a', cap', rfl, h1, H2.out⟩
theorem infoStr : (Try.prog.info? 9).map (fun i => (i.zero.isSome, i.size, i.bytes)) = some (true, 1, 16) := by kernel_rfl
set_option maxHeartbeats 1000000 in
theorem cloneStr (w : World) (S : Nat → Prop) (a : Option Addr) (n cap : Nat) (cs : List Value) (hC : Cs w S a cs) (hS : ∀ b, S b → b < w.heap.size) (hn : cs.length = n * 1) (h1 : ∀ u, u ∈ cs → u.oneCell' = true) (hl : n * 16 ≤ 281474976710656) :
    Calls Try.prog 16 #[.slice a n cap] w fun e w' => ∃ a' cap', e = .returned (.slice a' n cap') ∧ n ≤ cap' ∧ FreshC w w' a' cs := by
  cases a with
  | none =>
    have h0 := hC.of_none
    subst h0
    have hn0 : n = 0 := by simp at hn; omega
    subst hn0
    have he : ∀ w, (binOp .eql 56 (.slice none 0 cap) (.slice none 0 0)).run Try.prog w = .ok (.bool true) w := fun w => Lib.run_eql_slice_nil w _ _ none 0 cap 0 0 Try.underlying56
    clear hn hC hS hl h1
    go_enter Try.func16, Try.ntmps16
    go_wp2_with fail
    go_ret
    exact ⟨none, 0, rfl, Nat.le_refl _, Below.refl _ _, Cs.nil _ _ _, fun A h => by cases h⟩
  | some A0 =>
    obtain ⟨w1, hw1⟩ : ∃ w1, w1 = w.alloc (.cells #[] 9) := ⟨_, rfl⟩
    have hb1 : Below w.heap.size w w1 := by rw [hw1]; exact (Below.refl _ _).alloc (Nat.le_refl _) _
    have HS := hid ((hC.keep (S' := S) (fun b hb => hb1.block b (hS b hb)) (fun b h => h)).src (P := Try.prog) (tx := 56) Try.underlying56 1 n cap (by omega) hn h1)
    have HX := hid (fun (v : Value) (w' : World) (h : CopiedB w1 9 (some ⟨w.heap.size, 0, none⟩) n cs v w') => freshC_copied (k := 1) hn hb1 h)
    have HW := hid hw1
    clear hn hw1 hb1 h1
    have he : ∀ w, (binOp .eql 56 (.slice (some A0) n cap) (.slice none 0 0)).run Try.prog w = .ok (.bool false) w := fun w => Lib.run_eql_slice_nil w _ _ (some A0) n cap 0 0 Try.underlying56
    go_enter Try.func16, Try.ntmps16
    go_wp2_with (at_builtin; rw [← HW.out]; refine wpList_append_copyb _ rfl _ _ 56 56 rfl 9 1 16 Try.underlying56 infoStr ⟨w.heap.size, 0, none⟩ rfl _ rfl _ _ HS.out (by omega) (by omega) ?_; intro v w2 hv)
    obtain ⟨a', cap', rfl, h1, h2⟩ := HX.out _ _ hv
    have H2 := hid h2
    clear h2 hv
    go_wp2_with fail
    go_ret
    exact ⟨a', cap', rfl, h1, H2.out⟩
theorem infoMv : (Try.prog.info? 61).map (fun i => (i.zero.isSome, i.size, i.bytes)) = some (true, 1, 24) := by kernel_rfl
set_option maxHeartbeats 1000000 in
theorem cloneMv (w : World) (S : Nat → Prop) (a : Option Addr) (n cap : Nat) (cs : List Value) (hC : Cs w S a cs) (hS : ∀ b, S b → b < w.heap.size) (hn : cs.length = n * 1) (h1 : ∀ u, u ∈ cs → u.oneCell' = true) (hl : n * 24 ≤ 281474976710656) :
    Calls Try.prog 17 #[.slice a n cap] w fun e w' => ∃ a' cap', e = .returned (.slice a' n cap') ∧ n ≤ cap' ∧ FreshC w w' a' cs := by
  cases a with
  | none =>
    have h0 := hC.of_none
    subst h0
    have hn0 : n = 0 := by simp at hn; omega
    subst hn0
    have he : ∀ w, (binOp .eql 47 (.slice none 0 cap) (.slice none 0 0)).run Try.prog w = .ok (.bool true) w := fun w => Lib.run_eql_slice_nil w _ _ none 0 cap 0 0 Try.underlying47
    clear hn hC hS hl h1
    go_enter Try.func17, Try.ntmps17
    go_wp2_with fail
    go_ret
    exact ⟨none, 0, rfl, Nat.le_refl _, Below.refl _ _, Cs.nil _ _ _, fun A h => by cases h⟩
  | some A0 =>
    obtain ⟨w1, hw1⟩ : ∃ w1, w1 = w.alloc (.cells #[] 61) := ⟨_, rfl⟩
    have hb1 : Below w.heap.size w w1 := by rw [hw1]; exact (Below.refl _ _).alloc (Nat.le_refl _) _
    have HS := hid ((hC.keep (S' := S) (fun b hb => hb1.block b (hS b hb)) (fun b h => h)).src (P := Try.prog) (tx := 47) Try.underlying47 1 n cap (by omega) hn h1)
    have HX := hid (fun (v : Value) (w' : World) (h : CopiedB w1 61 (some ⟨w.heap.size, 0, none⟩) n cs v w') => freshC_copied (k := 1) hn hb1 h)
    have HW := hid hw1
    clear hn hw1 hb1 h1
    have he : ∀ w, (binOp .eql 47 (.slice (some A0) n cap) (.slice none 0 0)).run Try.prog w = .ok (.bool false) w := fun w => Lib.run_eql_slice_nil w _ _ (some A0) n cap 0 0 Try.underlying47
    go_enter Try.func17, Try.ntmps17
    go_wp2_with (at_builtin; rw [← HW.out]; refine wpList_append_copyb _ rfl _ _ 47 47 rfl 61 1 24 Try.underlying47 infoMv ⟨w.heap.size, 0, none⟩ rfl _ rfl _ _ HS.out (by omega) (by omega) ?_; intro v w2 hv)
    obtain ⟨a', cap', rfl, h1, h2⟩ := HX.out _ _ hv
    have H2 := hid h2
    clear h2 hv
    go_wp2_with fail
    go_ret
    exact ⟨a', cap', rfl, h1, H2.out⟩
theorem infoInt : (Try.prog.info? 3).map (fun i => (i.zero.isSome, i.size, i.bytes)) = some (true, 1, 8) := by kernel_rfl
set_option maxHeartbeats 1000000 in
theorem cloneInt (w : World) (S : Nat → Prop) (a : Option Addr) (n cap : Nat) (cs : List Value) (hC : Cs w S a cs) (hS : ∀ b, S b → b < w.heap.size) (hn : cs.length = n * 1) (h1 : ∀ u, u ∈ cs → u.oneCell' = true) (hl : n * 8 ≤ 281474976710656) :
    Calls Try.prog 18 #[.slice a n cap] w fun e w' => ∃ a' cap', e = .returned (.slice a' n cap') ∧ n ≤ cap' ∧ FreshC w w' a' cs := by
  cases a with
  | none =>
    have h0 := hC.of_none
    subst h0
    have hn0 : n = 0 := by simp at hn; omega
    subst hn0
    have he : ∀ w, (binOp .eql 61 (.slice none 0 cap) (.slice none 0 0)).run Try.prog w = .ok (.bool true) w := fun w => Lib.run_eql_slice_nil w _ _ none 0 cap 0 0 Try.underlying61
    clear hn hC hS hl h1
    go_enter Try.func18, Try.ntmps18
    go_wp2_with fail
    go_ret
    exact ⟨none, 0, rfl, Nat.le_refl _, Below.refl _ _, Cs.nil _ _ _, fun A h => by cases h⟩
  | some A0 =>
    obtain ⟨w1, hw1⟩ : ∃ w1, w1 = w.alloc (.cells #[] 3) := ⟨_, rfl⟩
    have hb1 : Below w.heap.size w w1 := by rw [hw1]; exact (Below.refl _ _).alloc (Nat.le_refl _) _
    have HS := hid ((hC.keep (S' := S) (fun b hb => hb1.block b (hS b hb)) (fun b h => h)).src (P := Try.prog) (tx := 61) Try.underlying61 1 n cap (by omega) hn h1)
    have HX := hid (fun (v : Value) (w' : World) (h : CopiedB w1 3 (some ⟨w.heap.size, 0, none⟩) n cs v w') => freshC_copied (k := 1) hn hb1 h)
    have HW := hid hw1
    clear hn hw1 hb1 h1
    have he : ∀ w, (binOp .eql 61 (.slice (some A0) n cap) (.slice none 0 0)).run Try.prog w = .ok (.bool false) w := fun w => Lib.run_eql_slice_nil w _ _ (some A0) n cap 0 0 Try.underlying61
    go_enter Try.func18, Try.ntmps18
    go_wp2_with (at_builtin; rw [← HW.out]; refine wpList_append_copyb _ rfl _ _ 61 61 rfl 3 1 8 Try.underlying61 infoInt ⟨w.heap.size, 0, none⟩ rfl _ rfl _ _ HS.out (by omega) (by omega) ?_; intro v w2 hv)
    obtain ⟨a', cap', rfl, h1, h2⟩ := HX.out _ _ hv
    have H2 := hid h2
    clear h2 hv
    go_wp2_with fail
    go_ret
    exact ⟨a', cap', rfl, h1, H2.out⟩
end Go.Proofs.Ytecjnlekckmhfaa

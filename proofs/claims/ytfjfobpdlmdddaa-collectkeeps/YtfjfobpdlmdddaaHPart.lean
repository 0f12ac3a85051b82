/- A part of what a value is: heap's thing, part. -/
import Derived.Test.YtfjfobpdlmdddaaHFindC
namespace Go.Proofs.Ytfjfobpdlmdddaa
set_option maxRecDepth 100000
open Go.RowKit Go.Maps
theorem Chain.val {l : List Wd} {acc : List Th} {a : Nat} (h : Chain l acc a) (x : Int) (hx : hasI (plOf acc) x = true) : ∃ i, ∃ hi : i < acc.length, valI (plOf acc) x = i ∧ (acc[i].h : Int) = x := by
  induction h with
  | nil => simp [plOf, hasI] at hx
  | snoc h1 h2 h3 ih =>
    rename_i acc a f e
    rw [plOf_snoc] at hx ⊢
    by_cases hh : (a : Int) = x
    · exact ⟨acc.length, by simp, by simp [valI, hh], by rw [List.getElem_append_right (Nat.le_refl _)]; simpa using hh⟩
    · unfold hasI at hx
      obtain ⟨i, hi, e1, e2⟩ := ih (by simpa [hh] using hx)
      exact ⟨i, by simp; omega, by unfold valI; rw [if_neg hh]; exact e1, by rw [List.getElem_append_left hi]; exact e2⟩
theorem box3 (w : World) (u0 u1 u2 : Value) (t : TypeId) (W : World) (hW : W = w.alloc (.cells #[u0, u1, u2] t)) :
    (W.cell? ⟨w.heap.size, 0, none⟩ = some u0 ∧ W.cell? ⟨w.heap.size, 1, none⟩ = some u1 ∧ W.cell? ⟨w.heap.size, 2, none⟩ = some u2) ∧
    (W.frozen? ⟨w.heap.size, 0, none⟩ = false ∧ W.frozen? ⟨w.heap.size, 1, none⟩ = false ∧ W.frozen? ⟨w.heap.size, 2, none⟩ = false) ∧ W.heap.size = w.heap.size + 1 ∧ Below w.heap.size w W := by
  subst hW
  refine ⟨⟨?_, ?_, ?_⟩, ⟨?_, ?_, ?_⟩, by simp, (Below.refl _ _).alloc (Nat.le_refl _) _⟩ <;> go_simp
set_option maxHeartbeats 2000000 in
theorem chartThing_any (w : World) (B cb : Nat) (a : Option Addr) (len cap : Nat) (l : List Wd) (v : Value) (acc : List Th) (pb mb : Nat) (ms : List (Int × Int)) (hC : Chart w B cb a len cap l v acc pb mb ms) (x : Int) (hx : wfI x) (i : Nat) (hi : i < acc.length) (hv : valI (plOf acc) x = i) :
    Calls Try.prog 54 #[.pointer (some ⟨cb, 0, none⟩), .int .i64 x] w fun e w' => e = .returned (.agg #[.int .i64 acc[i].h, .int .i64 acc[i].f, .int .i64 acc[i].e]) ∧ Below w.heap.size w w' := by
  obtain ⟨w1, hw1⟩ : ∃ w1, w1 = w.alloc (.cells #[.int .i64 0, .int .i64 0, .int .i64 0] 81) := ⟨_, rfl⟩
  obtain ⟨⟨r0, r1, r2⟩, ⟨f0, f1, f2⟩, hz1, hb1⟩ := box3 w _ _ _ _ w1 hw1
  have C1 := hC.below hb1
  have HW := hid hw1
  have HB1 := hid hb1
  have hrun : (Instr.lookup 56 (.map (some pb)) (.int .i64 x) false).run Try.prog w1.drew = .ok (.int .i64 (valI (plOf acc) x)) w1.drew := OwnsI.look1 (w := w1.drew) C1.pl hx
  rw [hv] at hrun
  have c1 := C1.c1
  have c2 := C1.c2
  obtain ⟨av, capv, hv', _, hcells⟩ := C1.row.cells
  obtain ⟨g, rfl, hgo, d0, d1, d2⟩ := hcells i hi
  have hgl := (C1.row.own_lt hgo).2
  subst hv'
  have hlt2 : (i : Int) < acc.length := by omega
  have hn1 : ¬ g = w.heap.size := by
    have := (hC.row.own_lt hgo).2; omega
  have hn2 : ¬ cb = w.heap.size := by have := hC.lt; omega
  generalize acc[i].h = th at *
  generalize acc[i].f = tf at *
  generalize acc[i].e = te at *
  have HZ := hid hz1
  clear hw1 hb1 hC hz1 hcells hv
  go_enter Try.func54, Try.ntmps54
  go_wp2_with fail
  rw [← HW.out]
  go_region
  all_goals
    go_wp2_with fail
    refine bodyPost_ret (v := .agg #[.int .i64 th, .int .i64 tf, .int .i64 te]) (by simp [results, Try.results54, go_sem, r0, r1, r2]) rfl ⟨rfl, ?_⟩
    first | exact bdrew (below_set3s (g := w.heap.size) HB1.out (Nat.le_refl _)) 1 | exact below_set3s (g := w.heap.size) (bdrew HB1.out 1) (Nat.le_refl _)
/-- What part tells. -/
def PrI (l : List Wd) (ms : List (Int × Int)) (k n i x r : Int) : Prop :=
  (¬ k = 5 ∧ x = 0 ∧ r = 3) ∨ (k = 5 ∧ ∃ m f e : Nat, fndI ms n = m ∧ m < l.length ∧ tRef l m = some (f, e) ∧ ((0 ≤ i ∧ i < (e : Int) - f ∧ x = f + i ∧ r = 0) ∨ (¬ (0 ≤ i ∧ i < (e : Int) - f) ∧ x = 0 ∧ r = 2)))
theorem wfI_nat {m : Nat} (h : m ≤ 9223372036854775807) : wfI (m : Int) := by
  simp [wfI, Lit.wf, IntKind.min, IntKind.max, IntKind.signed, IntKind.bits]; omega
set_option maxHeartbeats 2000000 in
theorem part_any (w : World) (B cb : Nat) (a : Option Addr) (len cap : Nat) (l : List Wd) (lim : Int) (v : Value) (acc : List Th) (pb mb : Nat) (ms : List (Int × Int)) (hC : Chart w B cb a len cap l v acc pb mb ms) (hok : OkC lim l acc ms) (k n : Int) (s : ByteArray) (hn : wfI n) (hs : k = 5 → hasI (plOf acc) n = true) (i : Int) :
    Calls Try.prog 36 #[.pointer (some ⟨cb, 0, none⟩), .agg #[.int .i64 k, .int .i64 n, .string s], .int .i64 i] w fun e w' => ∃ x r, e = .returned (.tuple #[.int .i64 x, .int .i64 r]) ∧ PrI l ms k n i x r ∧ Below w.heap.size w w' := by
  obtain ⟨w1, hw1⟩ : ∃ w1, w1 = w.alloc (.cells #[.int .i64 k, .int .i64 n, .string s] 37) := ⟨_, rfl⟩
  obtain ⟨⟨t0, t1, t2⟩, ⟨f0, f1, f2⟩, hz1, hb1⟩ := box3 w _ _ _ _ w1 hw1
  have C1 := hC.below hb1
  have HC1 := hid C1
  have HC0 := hid hC
  have HW := hid hw1
  have HB1 := hid hb1
  have HC := hid (find_any w1 B cb a len cap l v acc pb mb ms C1 k n s hn)
  clear hw1 hb1 hC C1
  go_enter Try.func36, Try.ntmps36
  go_wp2_with fail
  rw [← HW.out]
  have hcall := HC.out
  go_fit hcall
  clear hcall
  rintro e w2 ⟨rfl, hb2⟩
  have q0 := (hb2.cell (p := ⟨w.heap.size, 0, none⟩) (by dsimp only; omega)).trans t0
  have q1 := (hb2.cell (p := ⟨w.heap.size, 1, none⟩) (by dsimp only; omega)).trans t1
  have q2 := (hb2.cell (p := ⟨w.heap.size, 2, none⟩) (by dsimp only; omega)).trans t2
  have g0 := (hb2.frozen (p := ⟨w.heap.size, 0, none⟩) (by dsimp only; omega)).trans f0
  have g1 := (hb2.frozen (p := ⟨w.heap.size, 1, none⟩) (by dsimp only; omega)).trans f1
  have g2 := (hb2.frozen (p := ⟨w.heap.size, 2, none⟩) (by dsimp only; omega)).trans f2
  have HB2 := hid (HB1.out.trans (hb2.mono (by omega)))
  have C2 := HC1.out.below hb2
  have hz2 := hb2.size
  clear hb2 t0 t1 t2 f0 f1 f2
  by_cases h5 : k = 5
  · subst h5
    have hw5 := hok.ways.end_ n (hs rfl)
    have HA := hid (show atI ms 5 n = fndI ms n by unfold atI; rw [if_pos rfl])
    obtain ⟨j, hj, hv1, hv2⟩ := hok.chain.val _ hw5.1
    have hmem := hok.chain.ref.mem acc[j] (List.getElem_mem hj)
    have hle := tRef_le hmem.2
    have h6 : l.length ≤ 60000 := by have := hok.hi; have := hok.room; omega
    have HX := hid (fun (x r : Int) (h : (0 ≤ i ∧ i < (acc[j].e : Int) - acc[j].f ∧ x = acc[j].f + i ∧ r = 0) ∨ (¬ (0 ≤ i ∧ i < (acc[j].e : Int) - acc[j].f) ∧ x = 0 ∧ r = 2)) => (show PrI l ms 5 n i x r from Or.inr ⟨rfl, acc[j].h, acc[j].f, acc[j].e, hv2.symm, hmem.1, hmem.2, h⟩))
    obtain ⟨w3, hw3⟩ : ∃ w3, w3 = ((w2.setCell ⟨w.heap.size, 0, none⟩ (.int .i64 5)).setCell ⟨w.heap.size, 1, none⟩ (.int .i64 (atI ms 5 n))).setCell ⟨w.heap.size, 2, none⟩ (.string s) := ⟨_, rfl⟩
    have hb3 : Below w.heap.size w w3 := by rw [hw3]; exact below_set3s HB2.out (Nat.le_refl _)
    have C3 := HC0.out.below hb3
    have p1 : w3.cell? ⟨w.heap.size, 1, none⟩ = some (.int .i64 (atI ms 5 n)) := by rw [hw3]; simp [go_sem, q1]
    have p0 : w3.cell? ⟨w.heap.size, 0, none⟩ = some (.int .i64 5) := by rw [hw3]; simp [go_sem, q0]
    have hz3 : w3.heap.size = w2.heap.size := by rw [hw3]; simp
    have HCl := hid (chartThing_any w3 B cb a len cap l v acc pb mb ms C3 (atI ms 5 n) (by rw [HA.out, ← hv2]; exact wfI_nat (by omega)) j hj (by rw [HA.out]; exact hv1))
    have H3 := hid hw3
    have HB3 := hid hb3
    have hwl : w.heap.size < w3.heap.size := by omega
    generalize acc[j].h = th at *
    generalize acc[j].f = tf at *
    generalize acc[j].e = te at *
    clear hw3 hb3 hw5 hmem HC1 HC C2 C3 hv1 hv2 hs
    have HZ3 := hid hz3
    clear hz3
    go_wp2_with fail
    rw [← H3.out]
    have hcall := HCl.out
    go_fit hcall
    clear hcall
    rintro e w4 ⟨rfl, hb4⟩
    have HB4 := hid (HB3.out.trans (hb4.mono (by omega)))
    clear hb4
    have e1 : (tf : Int) ≤ te := by omega
    have e2 : (te : Int) ≤ 60000 := by omega
    by_cases hneg : i < 0
    · go_wp2_with fail
      refine bodyPost_ret (v := .tuple #[.int .i64 0, .int .i64 2]) (by simp [results, Try.results36, go_sem]) rfl ⟨0, 2, rfl, HX.out 0 2 (Or.inr ⟨by omega, rfl, rfl⟩), HB4.out.alloc HB4.out.size _⟩
    · by_cases hge : (te : Int) - tf ≤ i
      · go_wp2_with fail
        refine bodyPost_ret (v := .tuple #[.int .i64 0, .int .i64 2]) (by simp [results, Try.results36, go_sem]) rfl ⟨0, 2, rfl, HX.out 0 2 (Or.inr ⟨by omega, rfl, rfl⟩), HB4.out.alloc HB4.out.size _⟩
      · go_wp2_with fail
        refine bodyPost_ret (v := .tuple #[.int .i64 ((tf : Int) + i), .int .i64 0]) (by simp [results, Try.results36, go_sem]) rfl ⟨tf + i, 0, rfl, HX.out _ 0 (Or.inl ⟨by omega, by omega, rfl, rfl⟩), HB4.out.alloc HB4.out.size _⟩
  · have h5b : (k != 5) = true := by simp [h5]
    have HX := hid (show PrI l ms k n i 0 3 from Or.inl ⟨h5, rfl, rfl⟩)
    go_wp2_with fail
    refine bodyPost_ret (v := .tuple #[.int .i64 0, .int .i64 3]) (by simp [results, Try.results36, go_sem]) rfl ⟨0, 3, rfl, HX.out, below_set3s HB2.out (Nat.le_refl _)⟩
end Go.Proofs.Ytfjfobpdlmdddaa

/- The statements' looks at two heaps, functions and records that are the same. -/
import Derived.Test.YtecjnlekckmhfaaVSame
namespace Go.Proofs.Ytecjnlekckmhfaa
open Go.RowKit
theorem below_2 (w : World) (o o' : Obj) : Below w.heap.size w ((w.alloc o).alloc o') := ((Below.refl _ _).alloc (Nat.le_refl _) o).alloc (by simp) o'
theorem Cs.below {w w' : World} {S : Nat → Prop} {a : Option Addr} {cs : List Value} {B : Nat} (h : Cs w S a cs) (hb : Below B w w') (hS : ∀ b, S b → b < B) : Cs w' S a cs := h.keep (fun b hb' => hb.block b (hS b hb')) (fun _ h => h)
set_option maxHeartbeats 2000000 in
theorem sameHeap_any (w : World) (S S' : Nat → Prop) (a b : Option Addr) (l : List Wd) (n c c' : Nat) (lim : Int) (hn : n = l.length) (hm : n ≤ 9223372036854775807) (hA : Cs w S a (flatC wdC l)) (hB : Cs w S' b (flatC wdC l)) (hS : ∀ b, S b → b < w.heap.size) (hS' : ∀ b, S' b → b < w.heap.size) :
    Calls Try.prog 12 #[.agg #[.slice a n c, .int .i64 lim], .agg #[.slice b n c', .int .i64 lim]] w fun e w' => e = .returned (.bool true) ∧ Below w.heap.size w w' := by
  have hb0 := hid (below_2 w (.cells #[.slice a n c, .int .i64 lim] 27) (.cells #[.slice b n c', .int .i64 lim] 27))
  have HN := hid hn
  clear hn
  have HC := hid (sameWords_any _ S S' a b l n c c' HN.out hm (hA.below hb0.out hS) (hB.below hb0.out hS'))
  clear hA hB
  go_enter Try.func12, Try.ntmps12
  go_wp2_with fail
  have hcall := HC.out
  go_fit hcall
  clear hcall
  rintro e w3 ⟨rfl, m, rfl⟩
  have hB3 := hid (bdrew hb0.out m)
  go_wp2_with fail
  go_ret
  exact ⟨by simp, hB3.out⟩
theorem box44 (w : World) (u0 u1 u2 u3 v0 v1 v2 v3 : Value) (t t' : TypeId) (W : World) (hW : W = (w.alloc (.cells #[u0, u1, u2, u3] t)).alloc (.cells #[v0, v1, v2, v3] t')) :
    (W.cell? ⟨w.heap.size, 0, none⟩ = some u0 ∧ W.cell? ⟨w.heap.size, 1, none⟩ = some u1 ∧ W.cell? ⟨w.heap.size, 2, none⟩ = some u2 ∧ W.cell? ⟨w.heap.size, 3, none⟩ = some u3) ∧
    (W.cell? ⟨w.heap.size + 1, 0, none⟩ = some v0 ∧ W.cell? ⟨w.heap.size + 1, 1, none⟩ = some v1 ∧ W.cell? ⟨w.heap.size + 1, 2, none⟩ = some v2 ∧ W.cell? ⟨w.heap.size + 1, 3, none⟩ = some v3) ∧ Below w.heap.size w W := by
  subst hW
  refine ⟨⟨?_, ?_, ?_, ?_⟩, ⟨?_, ?_, ?_, ?_⟩, below_2 _ _ _⟩ <;> go_simp
set_option maxHeartbeats 4000000 in
theorem sameFunc_any (w : World) (S S' : Nat → Prop) (p q r : Int) (a b : Option Addr) (l : List Ins) (n c c' : Nat) (hn : n = l.length) (hm : n ≤ 9223372036854775807) (hA : Cs w S a (flatC insC l)) (hB : Cs w S' b (flatC insC l)) (hS : ∀ b, S b → b < w.heap.size) (hS' : ∀ b, S' b → b < w.heap.size) :
    Calls Try.prog 13 #[.agg #[.int .i64 p, .int .i64 q, .int .i64 r, .slice a n c], .agg #[.int .i64 p, .int .i64 q, .int .i64 r, .slice b n c']] w fun e w' => e = .returned (.bool true) ∧ Below w.heap.size w w' := by
  have HN := hid hn
  clear hn
  obtain ⟨w2, hw2⟩ : ∃ w2, w2 = (w.alloc (.cells #[.int .i64 p, .int .i64 q, .int .i64 r, .slice a n c] 36)).alloc (.cells #[.int .i64 p, .int .i64 q, .int .i64 r, .slice b n c'] 36) := ⟨_, rfl⟩
  obtain ⟨⟨t0, t1, t2, t3⟩, ⟨s0, s1, s2, s3⟩, hb2⟩ := box44 w _ _ _ _ _ _ _ _ _ _ w2 hw2
  have hA2 := hA.below hb2 hS
  have hB2 := hB.below hb2 hS'
  have H2 := hid hw2
  have HB2 := hid hb2
  clear hw2 hb2 hA hB
  go_enter Try.func13, Try.ntmps13
  go_upto_region 1 with fail
  rw [← H2.out]
  go_wp2_with fail
  clear t0 t1 t2 s0 s1 s2
  go_loopw [5] (fun i wr => ∃ k : Nat, k ≤ n ∧ i = .int .i64 k ∧ ∃ m, wr = w2.drewN m) (fun i _ => n - (intOf i).toNat)
  case atStart => exact ⟨0, Nat.zero_le _, rfl, 0, rfl⟩
  case round =>
    obtain ⟨k, hk, rfl, m, rfl⟩ := hrel
    by_cases hlt : k < n
    · have hk2 : k < l.length := by rw [← HN.out]; exact hlt
      have hlt2 : (k : Int) < n := by omega
      obtain ⟨b1, o1, rfl, _, h1⟩ := cell1 insC_len hA2 hk2 (by omega)
      obtain ⟨b2, o2, rfl, _, h2⟩ := cell1 insC_len hB2 hk2 (by omega)
      have c0 := h1 0 _ rfl
      have c1 := h1 1 _ rfl
      have c2 := h1 2 _ rfl
      have c3 := h1 3 _ rfl
      have c4 := h1 4 _ rfl
      have c5 := h1 5 _ rfl
      have c6 := h1 6 _ rfl
      have c7 := h1 7 _ rfl
      have d0 := h2 0 _ rfl
      have d1 := h2 1 _ rfl
      have d2 := h2 2 _ rfl
      have d3 := h2 3 _ rfl
      have d4 := h2 4 _ rfl
      have d5 := h2 5 _ rfl
      have d6 := h2 6 _ rfl
      have d7 := h2 7 _ rfl
      simp only [Nat.add_zero] at c0 d0
      rw [← Nat.add_assoc] at c1 c2 c3 c4 c5 c6 c7 d1 d2 d3 d4 d5 d6 d7
      generalize (l[k]'hk2).op = e0 at c0 d0
      generalize (l[k]'hk2).a = e1 at c1 d1
      generalize (l[k]'hk2).b = e2 at c2 d2
      generalize (l[k]'hk2).s = e3 at c3 d3
      generalize (l[k]'hk2).t = e4 at c4 d4
      generalize (l[k]'hk2).w.k = e5 at c5 d5
      generalize (l[k]'hk2).w.n = e6 at c6 d6
      generalize (l[k]'hk2).w.s = e7 at c7 d7
      clear hA2 hB2 h1 h2
      go_wp2_with fail
      go_quiet (fail)
      go_wp2_with fail
      go_roundw
      case rel => exact ⟨k + 1, by omega, by go_num, _, rfl⟩
      case measure => simp [intOf]; omega
    · have hlt2 : ¬ (k : Int) < n := by omega
      go_wp2_with fail
      go_ret
      exact ⟨rfl, bdrew HB2.out m⟩
theorem box33 (w : World) (u0 u1 u2 v0 v1 v2 : Value) (t t' : TypeId) (W : World) (hW : W = (w.alloc (.cells #[u0, u1, u2] t)).alloc (.cells #[v0, v1, v2] t')) :
    (W.cell? ⟨w.heap.size, 0, none⟩ = some u0 ∧ W.cell? ⟨w.heap.size, 1, none⟩ = some u1 ∧ W.cell? ⟨w.heap.size, 2, none⟩ = some u2) ∧
    (W.cell? ⟨w.heap.size + 1, 0, none⟩ = some v0 ∧ W.cell? ⟨w.heap.size + 1, 1, none⟩ = some v1 ∧ W.cell? ⟨w.heap.size + 1, 2, none⟩ = some v2) ∧ Below w.heap.size w W := by
  subst hW
  refine ⟨⟨?_, ?_, ?_⟩, ⟨?_, ?_, ?_⟩, below_2 _ _ _⟩ <;> go_simp
set_option maxHeartbeats 4000000 in
theorem sameRec_any (w : World) (S S' : Nat → Prop) (x y : Rc) (hd : datR x = datR y) (hbig : bigR x) (hA : subR w S x) (hB : subR w S' y) (hS : ∀ b, S b → b < w.heap.size) (hS' : ∀ b, S' b → b < w.heap.size) (n m : Nat) (hn : n = x.vs.length) (hm : m = x.ms.length) :
    Calls Try.prog 14 #[.agg #[.string x.name, .slice x.va n x.vcap, .slice x.ma m x.mcap], .agg #[.string x.name, .slice y.va n y.vcap, .slice y.ma m y.mcap]] w fun e w' => e = .returned (.bool true) ∧ Below w.heap.size w w' := by
  have HN := hid hn
  have HM := hid hm
  unfold datR at hd
  injection hd with hd1 hd2
  injection hd2 with hd2 hd3
  have HMy := hid (hm.trans (map_len hd3))
  have hmb : m ≤ 9223372036854775807 := by have := hbig.m; omega
  have hnb : n ≤ 9223372036854775807 := by have := hbig.v; omega
  clear hn hm
  obtain ⟨w2, hw2⟩ : ∃ w2, w2 = (w.alloc (.cells #[.string x.name, .slice x.va n x.vcap, .slice x.ma m x.mcap] 49)).alloc (.cells #[.string x.name, .slice y.va n y.vcap, .slice y.ma m y.mcap] 49) := ⟨_, rfl⟩
  obtain ⟨⟨t0, t1, t2⟩, ⟨s0, s1, s2⟩, hb2⟩ := box33 w _ _ _ _ _ _ _ _ w2 hw2
  have hA2 := subR_keep hA (fun b hb => hb2.block b (hS b hb)) (fun _ h => h)
  have hB2 := subR_keep hB (fun b hb => hb2.block b (hS' b hb)) (fun _ h => h)
  have HC := hid (sameShapes_any w2 S S' x.va y.va x.vs y.vs n x.vcap y.vcap HN.out hd2 hnb hbig.vs hA2.v hA2.vs hB2.v hB2.vs)
  have H2 := hid hw2
  have HB2 := hid hb2
  have HA2 := hid hA2
  have HBB2 := hid hB2
  have HD := hid hd3
  have HBig := hid hbig
  obtain ⟨nm, hnm⟩ : ∃ nm, nm = x.name := ⟨_, rfl⟩
  rw [← hnm] at t0 s0 H2 ⊢
  clear hw2 hb2 hA hB hA2 hB2 hd1 hd2 hd3 hbig hnm
  have HMs := hid (⟨HA2.out.m, HA2.out.ms, HBB2.out.m, HBB2.out.ms, HBig.out.ms⟩ : Cs w2 S x.ma (flatC mvC x.ms) ∧ (∀ m, m ∈ x.ms → subM w2 S m) ∧ Cs w2 S' y.ma (flatC mvC y.ms) ∧ (∀ m, m ∈ y.ms → subM w2 S' m) ∧ (∀ m, m ∈ x.ms → bigM m))
  clear HA2 HBB2 HBig
  generalize x.va = xva at *
  generalize x.vcap = xvc at *
  generalize y.va = yva at *
  generalize y.vcap = yvc at *
  generalize x.mcap = xmc at *
  generalize y.mcap = ymc at *
  generalize x.ma = xma at *
  generalize y.ma = yma at *
  generalize x.ms = xms at *
  generalize y.ms = yms at *
  go_enter Try.func14, Try.ntmps14
  go_upto_region 1 with fail
  rw [← H2.out]
  go_wp2_with fail
  have hcall := HC.out
  go_fit hcall
  clear hcall
  rintro e w3 ⟨rfl, m3, rfl⟩
  go_wp2_with fail
  clear t0 t1 s0 s1
  go_loopw [5] (fun i wr => ∃ k : Nat, k ≤ m ∧ i = .int .i64 k ∧ ∃ m, wr = w2.drewN m) (fun i _ => m - (intOf i).toNat)
  case atStart => exact ⟨0, Nat.zero_le _, rfl, m3, rfl⟩
  case round =>
    obtain ⟨k, hk, rfl, m4, rfl⟩ := hrel
    by_cases hlt : k < m
    · have hlt2 : (k : Int) < m := by omega
      have hk2 : k < xms.length := by rw [← HM.out]; exact hlt
      have hk3 : k < yms.length := by rw [← HMy.out]; exact hlt
      obtain ⟨q1, q2, q3, q4, q5⟩ := HMs.out
      have e := map_get HD.out k hk2 hk3
      have z1 := q2 _ (List.getElem_mem hk2)
      have z2 := q4 _ (List.getElem_mem hk3)
      have z3 := q5 _ (List.getElem_mem hk2)
      obtain ⟨b1, o1, rfl, _, h1⟩ := cell1 mvC_len q1 hk2 (by omega)
      obtain ⟨b2, o2, rfl, _, h2⟩ := cell1 mvC_len q3 hk3 (by omega)
      have c0 := h1 0 _ rfl
      have d0 := h2 0 _ rfl
      unfold datM at e
      unfold subM at z1 z2
      unfold bigM at z3
      rw [← e] at d0 z2
      simp only [Nat.add_zero, Nat.mul_one] at c0 d0
      generalize (xms[k]'hk2).l = li at c0 d0 z1 z2 z3
      generalize (xms[k]'hk2).adr = a1 at c0 z1
      generalize (yms[k]'hk3).adr = a2 at d0 z2
      generalize (xms[k]'hk2).cap = c1 at c0
      generalize (yms[k]'hk3).cap = c2 at d0
      obtain ⟨ln, hln⟩ : ∃ ln, ln = li.length := ⟨_, rfl⟩
      rw [← hln] at c0 d0 z3
      have HLn := hid hln
      have HZ := hid (And.intro z1 z2)
      clear hln z1 z2 e q1 q2 q3 q4 q5 h1 h2
      have hlnb : ln ≤ 9223372036854775807 := by omega
      go_wp2_with fail
      go_quiet (fail)
      go_wp2_with fail
      rw [World.drewN_drewN]
      go_loopw [6] (fun i wr => ∃ j : Nat, j ≤ ln ∧ i = .int .i64 j ∧ ∃ m, wr = w2.drewN m) (fun i _ => ln - (intOf i).toNat)
      case atStart => exact ⟨0, Nat.zero_le _, rfl, _, rfl⟩
      case round =>
        obtain ⟨j, hj, rfl, m5, rfl⟩ := hrel
        by_cases hjl : j < ln
        · have hjl2 : (j : Int) < ln := by omega
          have hj2 : j < li.length := by rw [← HLn.out]; exact hjl
          obtain ⟨z1, z2⟩ := HZ.out
          obtain ⟨b3, o3, rfl, _, h1⟩ := cell1 intC_len z1 hj2 (by omega)
          obtain ⟨b4, o4, rfl, _, h2⟩ := cell1 intC_len z2 hj2 (by omega)
          have f0 := h1 0 _ rfl
          have g0 := h2 0 _ rfl
          simp only [Nat.add_zero, Nat.mul_one] at f0 g0
          generalize (li[j]'hj2) = v at f0 g0
          clear z1 z2 h1 h2
          go_wp2_with fail
          go_quiet (fail)
          go_wp2_with fail
          go_roundw
          case rel => exact ⟨j + 1, by omega, by go_num, _, rfl⟩
          case measure => simp [intOf]; omega
        · have hjl2 : ¬ (j : Int) < ln := by omega
          go_wp2_with fail
          go_roundw
          case rel => exact ⟨k + 1, by omega, by go_num, _, rfl⟩
          case measure => simp [intOf]; omega
    · have hlt2 : ¬ (k : Int) < m := by omega
      go_wp2_with fail
      go_ret
      exact ⟨rfl, bdrew HB2.out m4⟩
end Go.Proofs.Ytecjnlekckmhfaa

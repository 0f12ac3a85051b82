/- The statements' look at two worlds that are the same. -/
import Derived.Test.YtecjnlekckmhfaaVCopy
namespace Go.Proofs.Ytecjnlekckmhfaa
open Go.RowKit
/-- Two boxes in a row: two worlds. -/
structure W2B (W : World) (g : Nat) (u0 u1 u2 u3 u4 v0 v1 v2 v3 v4 : Value) : Prop where
  u0 : W.cell? ⟨g, 0, none⟩ = some u0
  u1 : W.cell? ⟨g, 1, none⟩ = some u1
  u2 : W.cell? ⟨g, 2, none⟩ = some u2
  u3 : W.cell? ⟨g, 3, none⟩ = some u3
  u4 : W.cell? ⟨g, 4, none⟩ = some u4
  v0 : W.cell? ⟨g + 1, 0, none⟩ = some v0
  v1 : W.cell? ⟨g + 1, 1, none⟩ = some v1
  v2 : W.cell? ⟨g + 1, 2, none⟩ = some v2
  v3 : W.cell? ⟨g + 1, 3, none⟩ = some v3
  v4 : W.cell? ⟨g + 1, 4, none⟩ = some v4
theorem W2B.below {W W' : World} {g N : Nat} {u0 u1 u2 u3 u4 v0 v1 v2 v3 v4 : Value} (h : W2B W g u0 u1 u2 u3 u4 v0 v1 v2 v3 v4) (hb : Below N W W') (hN : g + 2 ≤ N) : W2B W' g u0 u1 u2 u3 u4 v0 v1 v2 v3 v4 := by
  have c : ∀ o, W'.cell? ⟨g, o, none⟩ = W.cell? ⟨g, o, none⟩ := fun o => hb.cell (p := ⟨g, o, none⟩) (by dsimp only; omega)
  have d : ∀ o, W'.cell? ⟨g + 1, o, none⟩ = W.cell? ⟨g + 1, o, none⟩ := fun o => hb.cell (p := ⟨g + 1, o, none⟩) (by dsimp only; omega)
  exact ⟨(c _).trans h.u0, (c _).trans h.u1, (c _).trans h.u2, (c _).trans h.u3, (c _).trans h.u4, (d _).trans h.v0, (d _).trans h.v1, (d _).trans h.v2, (d _).trans h.v3, (d _).trans h.v4⟩
theorem w2B_born (w : World) (u0 u1 u2 u3 u4 v0 v1 v2 v3 v4 : Value) (t t' : TypeId) (W : World) (hW : W = (w.alloc (.cells #[u0, u1, u2, u3, u4] t)).alloc (.cells #[v0, v1, v2, v3, v4] t')) :
    W2B W w.heap.size u0 u1 u2 u3 u4 v0 v1 v2 v3 v4 ∧ W.heap.size = w.heap.size + 2 ∧ Below w.heap.size w W := by
  subst hW
  refine ⟨⟨?_, ?_, ?_, ?_, ?_, ?_, ?_, ?_, ?_, ?_⟩, by simp, below_2 _ _ _⟩ <;> go_simp
set_option maxHeartbeats 8000000 in
theorem sameWorld_any (w : World) (S S' : Nat → Prop) (x y : Wv) (lim : Int) (n1 n2 n3 n4 : Nat) (hs : sameW x y) (hbig : bigW x) (hA : subW w S x) (hB : subW w S' y) (hS : ∀ b, S b → b < w.heap.size) (hS' : ∀ b, S' b → b < w.heap.size) (hn1 : n1 = x.fs.length) (hn2 : n2 = x.gs.length) (hn3 : n3 = x.rs.length) (hn4 : n4 = x.hs.length) :
    Calls Try.prog 5 #[.agg #[.slice x.fa n1 x.fcap, .slice x.ga n2 x.gcap, .slice x.ra n3 x.rcap, .slice x.ha n4 x.hcap, .int .i64 lim], .agg #[.slice y.fa n1 y.fcap, .slice y.ga n2 y.gcap, .slice y.ra n3 y.rcap, .slice y.ha n4 y.hcap, .int .i64 lim]] w fun e w' => e = .returned (.bool true) ∧ Below w.heap.size w w' := by
  have HN1 := hid hn1
  have HN2 := hid hn2
  have HN3 := hid hn3
  have HN1' := hid (hn1.trans (map_len hs.f))
  have HN3' := hid (hn3.trans (map_len hs.r))
  have hb1 : n1 * 48 ≤ 140737488355328 := by rw [hn1]; exact hbig.f
  have hb2 : n2 * 48 ≤ 140737488355328 := by rw [hn2]; exact hbig.g
  have hb3 : n3 * 64 ≤ 140737488355328 := by rw [hn3]; exact hbig.r
  have hb4 : n4 * 32 ≤ 140737488355328 := by rw [hn4]; exact hbig.h
  have HN4 := hid hn4
  clear hn1 hn2 hn3 hn4
  obtain ⟨w2, hw2⟩ : ∃ w2, w2 = (w.alloc (.cells #[.slice x.fa n1 x.fcap, .slice x.ga n2 x.gcap, .slice x.ra n3 x.rcap, .slice x.ha n4 x.hcap, .int .i64 lim] 29)).alloc (.cells #[.slice y.fa n1 y.fcap, .slice y.ga n2 y.gcap, .slice y.ra n3 y.rcap, .slice y.ha n4 y.hcap, .int .i64 lim] 29) := ⟨_, rfl⟩
  obtain ⟨K2, hz2, hB2⟩ := w2B_born w _ _ _ _ _ _ _ _ _ _ _ _ w2 hw2
  have hA2 := subW_keep hA (fun b hb => hB2.block b (hS b hb)) (fun _ h => h)
  have hBB2 := subW_keep hB (fun b hb => hB2.block b (hS' b hb)) (fun _ h => h)
  have hSz : ∀ b, S b → b < w2.heap.size := fun b hb => by have := hS b hb; omega
  have hSz' : ∀ b, S' b → b < w2.heap.size := fun b hb => by have := hS' b hb; omega
  have HC := hid (sameHeap_any w2 S S' x.ha y.ha x.hs n4 x.hcap y.hcap lim HN4.out (by omega) hA2.h (by rw [hs.h]; exact hBB2.h) hSz hSz')
  have H2 := hid hw2
  have HK2 := hid K2
  have HB2 := hid hB2
  have HGl := hid (⟨hA2.g, by rw [hs.g]; exact hBB2.g⟩ : Cs w2 S x.ga (flatC glC x.gs) ∧ Cs w2 S' y.ga (flatC glC x.gs))
  have HFn := hid (⟨⟨hA2.f, hBB2.f⟩, ⟨fun i (hi : i < x.fs.length) => hA2.fs _ (List.getElem_mem hi), fun i (hi : i < y.fs.length) => hBB2.fs _ (List.getElem_mem hi)⟩, fun i (hi : i < x.fs.length) => hbig.fs _ (List.getElem_mem hi)⟩ : (Cs w2 S x.fa (flatC fnC x.fs) ∧ Cs w2 S' y.fa (flatC fnC y.fs)) ∧ ((∀ i (hi : i < x.fs.length), subF w2 S x.fs[i]) ∧ (∀ i (hi : i < y.fs.length), subF w2 S' y.fs[i])) ∧ (∀ i (hi : i < x.fs.length), bigF x.fs[i]))
  have HRc := hid (⟨⟨hA2.r, hBB2.r⟩, ⟨fun i (hi : i < x.rs.length) => hA2.rs _ (List.getElem_mem hi), fun i (hi : i < y.rs.length) => hBB2.rs _ (List.getElem_mem hi)⟩, fun i (hi : i < x.rs.length) => hbig.rs _ (List.getElem_mem hi)⟩ : (Cs w2 S x.ra (flatC rcC x.rs) ∧ Cs w2 S' y.ra (flatC rcC y.rs)) ∧ ((∀ i (hi : i < x.rs.length), subR w2 S x.rs[i]) ∧ (∀ i (hi : i < y.rs.length), subR w2 S' y.rs[i])) ∧ (∀ i (hi : i < x.rs.length), bigR x.rs[i]))
  have HDf := hid hs.f
  have HDr := hid hs.r
  clear hw2 hB2 hA hB hA2 hBB2 hbig K2 hs
  generalize x.fa = xfa at *
  generalize x.fcap = xfc at *
  generalize x.ga = xga at *
  generalize x.gcap = xgc at *
  generalize x.ra = xra at *
  generalize x.rcap = xrc at *
  generalize x.ha = xha at *
  generalize x.hcap = xhc at *
  generalize y.fa = yfa at *
  generalize y.fcap = yfc at *
  generalize y.ga = yga at *
  generalize y.gcap = ygc at *
  generalize y.ra = yra at *
  generalize y.rcap = yrc at *
  generalize y.ha = yha at *
  generalize y.hcap = yhc at *
  generalize x.fs = fs at *
  generalize y.fs = fs' at *
  generalize x.gs = gs at *
  generalize x.rs = rs at *
  generalize y.rs = rs' at *
  generalize x.hs = hs at *
  go_enter Try.func5, Try.ntmps5
  go_upto_region 1 with fail
  rw [← H2.out]
  obtain ⟨u0, u1, u2, u3, u4, v0, v1, v2, v3, v4⟩ := HK2.out
  go_wp2_with fail
  have hcall := HC.out
  go_fit hcall
  clear hcall
  rintro e w3 ⟨rfl, hb3'⟩
  have HB3 := hid hb3'
  clear u0 u1 u2 u3 u4 v0 v1 v2 v3 v4
  obtain ⟨u0, u1, u2, u3, u4, v0, v1, v2, v3, v4⟩ := HK2.out.below hb3' (by omega)
  clear hb3'
  go_wp2_with fail
  clear u0 u1 u2 u3 u4 v0 v1 v2 v3 v4
  go_loopw [5] (fun i wr => ∃ k : Nat, k ≤ n2 ∧ i = .int .i64 k ∧ Below w2.heap.size w2 wr) (fun i _ => n2 - (intOf i).toNat)
  case atStart => exact ⟨0, Nat.zero_le _, rfl, HB3.out⟩
  case round =>
    obtain ⟨k, hk, rfl, hbr⟩ := hrel
    obtain ⟨u0, u1, u2, u3, u4, v0, v1, v2, v3, v4⟩ := HK2.out.below hbr (by omega)
    have HB := hid hbr
    by_cases hlt : k < n2
    · have hlt2 : (k : Int) < n2 := by omega
      have hk2 : k < gs.length := by rw [← HN2.out]; exact hlt
      obtain ⟨b1, o1, rfl, _, h1⟩ := cell1 glC_len (HGl.out.1.below hbr hSz) hk2 (by omega)
      obtain ⟨b2, o2, rfl, _, h2⟩ := cell1 glC_len (HGl.out.2.below hbr hSz') hk2 (by omega)
      have c0 := h1 0 _ rfl
      have c1 := h1 1 _ rfl
      have c2 := h1 2 _ rfl
      have c3 := h1 3 _ rfl
      have d0 := h2 0 _ rfl
      have d1 := h2 1 _ rfl
      have d2 := h2 2 _ rfl
      have d3 := h2 3 _ rfl
      simp only [Nat.add_zero] at c0 d0
      rw [← Nat.add_assoc] at c1 c2 c3 d1 d2 d3
      generalize (gs[k]'hk2).name = q0 at c0 d0
      generalize (gs[k]'hk2).w.k = q1 at c1 d1
      generalize (gs[k]'hk2).w.n = q2 at c2 d2
      generalize (gs[k]'hk2).w.s = q3 at c3 d3
      clear h1 h2 hbr u0 u2 u3 u4 v0 v2 v3 v4
      go_wp2_with fail
      go_quiet (fail)
      go_wp2_with fail
      go_roundw
      case rel => exact ⟨k + 1, by omega, by go_num, bdrew HB.out _⟩
      case measure => simp [intOf]; omega
    · have hlt2 : ¬ (k : Int) < n2 := by omega
      clear hbr
      go_wp2_with fail
      clear u0 u1 u2 u3 u4 v0 v1 v2 v3 v4 hlt hlt2 hk
      go_loopw [6] (fun i wr => ∃ k : Nat, k ≤ n1 ∧ i = .int .i64 k ∧ Below w2.heap.size w2 wr) (fun i _ => n1 - (intOf i).toNat)
      case atStart => exact ⟨0, Nat.zero_le _, rfl, HB.out⟩
      case round =>
        obtain ⟨k, hk, rfl, hbr⟩ := hrel
        obtain ⟨u0, u1, u2, u3, u4, v0, v1, v2, v3, v4⟩ := HK2.out.below hbr (by omega)
        have HBr := hid hbr
        by_cases hlt : k < n1
        · have hlt2 : (k : Int) < n1 := by omega
          have hk2 : k < fs.length := by rw [← HN1.out]; exact hlt
          have hk3 : k < fs'.length := by rw [← HN1'.out]; exact hlt
          obtain ⟨⟨q1, q2⟩, ⟨q3, q4⟩, q5⟩ := HFn.out
          have e := map_get HDf.out k hk2 hk3
          unfold datF at e
          injection e with e0 e
          injection e with e1 e
          injection e with e2 e3
          obtain ⟨b1, o1, rfl, hs1, h1⟩ := cell1 fnC_len q1 hk2 (by omega)
          obtain ⟨b2, o2, rfl, hs2, h2⟩ := cell1 fnC_len q2 hk3 (by omega)
          have c0 := h1 0 _ rfl
          have c1 := h1 1 _ rfl
          have c2 := h1 2 _ rfl
          have c3 := h1 3 _ rfl
          have d0 := h2 0 _ rfl
          have d1 := h2 1 _ rfl
          have d2 := h2 2 _ rfl
          have d3 := h2 3 _ rfl
          have z1 := q3 k hk2
          have z2 := q4 k hk3
          have z3 := q5 k hk2
          unfold subF at z1 z2
          unfold bigF at z3
          rw [← e0] at d0
          rw [← e1] at d1
          rw [← e2] at d2
          rw [← e3] at d3 z2
          simp only [Nat.add_zero] at c0 d0
          rw [← Nat.add_assoc] at c1 c2 c3 d1 d2 d3
          have hg1 := hSz b1 hs1
          have hg2 := hSz' b2 hs2
          have HCf := hid (fun (w' : World) (hb : Below w2.heap.size w2 w') => (sameFunc_any w' S S' fs[k].p fs[k].l fs[k].c fs[k].adr fs'[k].adr fs[k].code fs[k].code.length fs[k].cap fs'[k].cap rfl (by omega) (z1.below hb hSz) (z2.below hb hSz') (fun b hb' => by have := hSz b hb'; have := hb.size; omega) (fun b hb' => by have := hSz' b hb'; have := hb.size; omega)).mono (fun e w'' (h : e = .returned (.bool true) ∧ Below w'.heap.size w' w'') => (⟨h.1, hb.trans (h.2.mono hb.size)⟩ : e = .returned (.bool true) ∧ Below w2.heap.size w2 w'')))
          clear z1 z2 z3 q1 q2 q3 q4 q5 e0 e1 e2 e3 h1 h2 hbr u1 u2 u3 u4 v1 v2 v3 v4
          generalize fs[k].p = kp at *
          generalize fs[k].l = kl at *
          generalize fs[k].c = kcc at *
          generalize fs[k].code.length = kn at *
          generalize fs[k].adr = ka at *
          generalize fs[k].cap = kc at *
          generalize fs'[k].adr = ka' at *
          generalize fs'[k].cap = kc' at *
          have HS := hid (fun (w' : World) (hb : Below w2.heap.size w2 w') => (by
            have hk := HK2.out.below hb (by omega)
            exact ⟨hk.u0, hk.v0, (hb.cell (p := ⟨b1, _, none⟩) hg1).trans c0, (hb.cell (p := ⟨b1, _, none⟩) hg1).trans c1, (hb.cell (p := ⟨b1, _, none⟩) hg1).trans c2, (hb.cell (p := ⟨b1, _, none⟩) hg1).trans c3, (hb.cell (p := ⟨b2, _, none⟩) hg2).trans d0, (hb.cell (p := ⟨b2, _, none⟩) hg2).trans d1, (hb.cell (p := ⟨b2, _, none⟩) hg2).trans d2, (hb.cell (p := ⟨b2, _, none⟩) hg2).trans d3⟩ : w'.cell? ⟨w.heap.size, 0, none⟩ = some (.slice (some ⟨b1, o1, none⟩) n1 xfc) ∧ w'.cell? ⟨w.heap.size + 1, 0, none⟩ = some (.slice (some ⟨b2, o2, none⟩) n1 yfc) ∧ w'.cell? ⟨b1, o1 + k * 4, none⟩ = some (.int .i64 kp) ∧ w'.cell? ⟨b1, o1 + k * 4 + 1, none⟩ = some (.int .i64 kl) ∧ w'.cell? ⟨b1, o1 + k * 4 + 2, none⟩ = some (.int .i64 kcc) ∧ w'.cell? ⟨b1, o1 + k * 4 + 3, none⟩ = some (.slice ka kn kc) ∧ w'.cell? ⟨b2, o2 + k * 4, none⟩ = some (.int .i64 kp) ∧ w'.cell? ⟨b2, o2 + k * 4 + 1, none⟩ = some (.int .i64 kl) ∧ w'.cell? ⟨b2, o2 + k * 4 + 2, none⟩ = some (.int .i64 kcc) ∧ w'.cell? ⟨b2, o2 + k * 4 + 3, none⟩ = some (.slice ka' kn kc')))
          clear c0 c1 c2 c3 d0 d1 d2 d3
          go_upto_region 11 with fail
          clear u0 v0
          go_cut [77] (fun z wx => z = .bool false ∧ Below w2.heap.size w2 wx)
          case first =>
            go_region_held3 (fun w' => w'.cell? ⟨w.heap.size, 0, none⟩ = some (.slice (some ⟨b1, o1, none⟩) n1 xfc) ∧ w'.cell? ⟨w.heap.size + 1, 0, none⟩ = some (.slice (some ⟨b2, o2, none⟩) n1 yfc) ∧ w'.cell? ⟨b1, o1 + k * 4, none⟩ = some (.int .i64 kp) ∧ w'.cell? ⟨b1, o1 + k * 4 + 1, none⟩ = some (.int .i64 kl) ∧ w'.cell? ⟨b1, o1 + k * 4 + 2, none⟩ = some (.int .i64 kcc) ∧ w'.cell? ⟨b1, o1 + k * 4 + 3, none⟩ = some (.slice ka kn kc) ∧ w'.cell? ⟨b2, o2 + k * 4, none⟩ = some (.int .i64 kp) ∧ w'.cell? ⟨b2, o2 + k * 4 + 1, none⟩ = some (.int .i64 kl) ∧ w'.cell? ⟨b2, o2 + k * 4 + 2, none⟩ = some (.int .i64 kcc) ∧ w'.cell? ⟨b2, o2 + k * 4 + 3, none⟩ = some (.slice ka' kn kc'))
              ((refine HS.out _ ?_; first | assumption | exact bdrew HBr.out 1))
              (first
              | (go_at_call 13; refine (HCf.out _ (by first | exact bdrew HBr.out 1)).mono ?_; rintro e w10 ⟨rfl, hb10⟩))
            all_goals (go_wp2_with fail; go_meet)
            all_goals exact ⟨rfl, hb10⟩
          case rest =>
            obtain ⟨rfl, hbx⟩ := hcut
            have HBx := hid hbx
            clear hbx
            go_wp2_with fail
            go_roundw
            case rel => exact ⟨k + 1, by omega, by go_num, HBx.out⟩
            case measure => simp [intOf]; omega
        · have hlt2 : ¬ (k : Int) < n1 := by omega
          clear hbr
          go_wp2_with fail
          clear u0 u1 u2 u3 u4 v0 v1 v2 v3 v4 hlt hlt2 hk
          go_loopw [7] (fun i wr => ∃ k : Nat, k ≤ n3 ∧ i = .int .i64 k ∧ Below w2.heap.size w2 wr) (fun i _ => n3 - (intOf i).toNat)
          case atStart => exact ⟨0, Nat.zero_le _, rfl, HBr.out⟩
          case round =>
            obtain ⟨k, hk, rfl, hbr⟩ := hrel
            obtain ⟨u0, u1, u2, u3, u4, v0, v1, v2, v3, v4⟩ := HK2.out.below hbr (by omega)
            have HBq := hid hbr
            by_cases hlt : k < n3
            · have hlt2 : (k : Int) < n3 := by omega
              have hk2 : k < rs.length := by rw [← HN3.out]; exact hlt
              have hk3 : k < rs'.length := by rw [← HN3'.out]; exact hlt
              obtain ⟨⟨q1, q2⟩, ⟨q3, q4⟩, q5⟩ := HRc.out
              have e := map_get HDr.out k hk2 hk3
              have e' := e
              unfold datR at e'
              injection e' with e0 e'
              injection e' with e1 e2
              obtain ⟨b1, o1, rfl, hs1, h1⟩ := cell1 rcC_len q1 hk2 (by omega)
              obtain ⟨b2, o2, rfl, hs2, h2⟩ := cell1 rcC_len q2 hk3 (by omega)
              have c0 := h1 0 _ rfl
              have c1 := h1 1 _ rfl
              have c2 := h1 2 _ rfl
              have d0 := h2 0 _ rfl
              have d1 := h2 1 _ rfl
              have d2 := h2 2 _ rfl
              have z1 := q3 k hk2
              have z2 := q4 k hk3
              have z3 := q5 k hk2
              rw [← e0] at d0
              rw [← map_len e1] at d1
              rw [← map_len e2] at d2
              simp only [Nat.add_zero] at c0 d0
              rw [← Nat.add_assoc] at c1 c2 d1 d2
              have hg1 := hSz b1 hs1
              have hg2 := hSz' b2 hs2
              have HCf := hid (fun (w' : World) (hb : Below w2.heap.size w2 w') => (sameRec_any w' S S' rs[k] rs'[k] e z3 (subR_keep z1 (fun b hb' => hb.block b (hSz b hb')) (fun _ h => h)) (subR_keep z2 (fun b hb' => hb.block b (hSz' b hb')) (fun _ h => h)) (fun b hb' => by have := hSz b hb'; have := hb.size; omega) (fun b hb' => by have := hSz' b hb'; have := hb.size; omega) rs[k].vs.length rs[k].ms.length rfl rfl).mono (fun e w'' (h : e = .returned (.bool true) ∧ Below w'.heap.size w' w'') => (⟨h.1, hb.trans (h.2.mono hb.size)⟩ : e = .returned (.bool true) ∧ Below w2.heap.size w2 w'')))
              clear z1 z2 z3 q1 q2 q3 q4 q5 e0 e1 e2 e h1 h2 hbr u0 u1 u3 u4 v0 v1 v3 v4
              generalize rs[k].name = kn at *
              generalize rs[k].va = kva at *
              generalize rs[k].vcap = kvc at *
              generalize rs[k].ma = kma at *
              generalize rs[k].mcap = kmc at *
              generalize rs[k].vs.length = kvl at *
              generalize rs[k].ms.length = kml at *
              generalize rs'[k].va = kva' at *
              generalize rs'[k].vcap = kvc' at *
              generalize rs'[k].ma = kma' at *
              generalize rs'[k].mcap = kmc' at *
              have HS := hid (fun (w' : World) (hb : Below w2.heap.size w2 w') => (by
                have hk := HK2.out.below hb (by omega)
                exact ⟨hk.u2, hk.v2, (hb.cell (p := ⟨b1, _, none⟩) hg1).trans c0, (hb.cell (p := ⟨b1, _, none⟩) hg1).trans c1, (hb.cell (p := ⟨b1, _, none⟩) hg1).trans c2, (hb.cell (p := ⟨b2, _, none⟩) hg2).trans d0, (hb.cell (p := ⟨b2, _, none⟩) hg2).trans d1, (hb.cell (p := ⟨b2, _, none⟩) hg2).trans d2⟩ : w'.cell? ⟨w.heap.size, 2, none⟩ = some (.slice (some ⟨b1, o1, none⟩) n3 xrc) ∧ w'.cell? ⟨w.heap.size + 1, 2, none⟩ = some (.slice (some ⟨b2, o2, none⟩) n3 yrc) ∧ w'.cell? ⟨b1, o1 + k * 3, none⟩ = some (.string kn) ∧ w'.cell? ⟨b1, o1 + k * 3 + 1, none⟩ = some (.slice kva kvl kvc) ∧ w'.cell? ⟨b1, o1 + k * 3 + 2, none⟩ = some (.slice kma kml kmc) ∧ w'.cell? ⟨b2, o2 + k * 3, none⟩ = some (.string kn) ∧ w'.cell? ⟨b2, o2 + k * 3 + 1, none⟩ = some (.slice kva' kvl kvc') ∧ w'.cell? ⟨b2, o2 + k * 3 + 2, none⟩ = some (.slice kma' kml kmc')))
              clear c0 c1 c2 d0 d1 d2
              go_upto_region 16 with fail
              clear u2 v2
              go_cut [96] (fun z wx => z = .bool false ∧ Below w2.heap.size w2 wx)
              case first =>
                go_region_held3 (fun w' => w'.cell? ⟨w.heap.size, 2, none⟩ = some (.slice (some ⟨b1, o1, none⟩) n3 xrc) ∧ w'.cell? ⟨w.heap.size + 1, 2, none⟩ = some (.slice (some ⟨b2, o2, none⟩) n3 yrc) ∧ w'.cell? ⟨b1, o1 + k * 3, none⟩ = some (.string kn) ∧ w'.cell? ⟨b1, o1 + k * 3 + 1, none⟩ = some (.slice kva kvl kvc) ∧ w'.cell? ⟨b1, o1 + k * 3 + 2, none⟩ = some (.slice kma kml kmc) ∧ w'.cell? ⟨b2, o2 + k * 3, none⟩ = some (.string kn) ∧ w'.cell? ⟨b2, o2 + k * 3 + 1, none⟩ = some (.slice kva' kvl kvc') ∧ w'.cell? ⟨b2, o2 + k * 3 + 2, none⟩ = some (.slice kma' kml kmc'))
                  ((refine HS.out _ ?_; first | assumption | exact bdrew HBq.out 1))
                  (first
                  | (go_at_call 14; refine (HCf.out _ (by first | exact bdrew HBq.out 1)).mono ?_; rintro e w10 ⟨rfl, hb10⟩))
                all_goals (go_wp2_with fail; go_meet)
                all_goals exact ⟨rfl, hb10⟩
              case rest =>
                obtain ⟨rfl, hbx⟩ := hcut
                have HBx := hid hbx
                clear hbx
                go_wp2_with fail
                go_roundw
                case rel => exact ⟨k + 1, by omega, by go_num, HBx.out⟩
                case measure => simp [intOf]; omega
            · have hlt2 : ¬ (k : Int) < n3 := by omega
              clear hbr
              go_wp2_with fail
              go_ret
              exact ⟨rfl, HB2.out.trans (HBq.out.mono (by omega))⟩
end Go.Proofs.Ytecjnlekckmhfaa

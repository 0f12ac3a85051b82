/- vm.Copy answers at every world the same world: VmCopies returns true for every world that can be read, and leaves it as it was. No condition. -/
import Derived.Test.YtecjnlekckmhfaaRows
import Derived.Test.YtecjnlekckmhfaaVSameW
import Derived.Test.YtecjnlekckmhfaaVOpen
import Derived.SizedLaws
import Derived.ProofKit
import Derived.OpenShut
import Derived.ShutString
import Derived.ChangeOld
import Derived.Below
import Derived.Deep.Slices
import Derived.Deep.Strs
import Derived.Lib.SmallJoins
namespace Go.Proofs.Ytecjnlekckmhfaa
open Go.ChangeShapes Go.WideShapes Go.ChangeAt Go.RowKit
theorem wBox (w : World) (u0 u1 u2 u3 u4 : Value) (t : TypeId) (W : World) (hW : W = w.alloc (.cells #[u0, u1, u2, u3, u4] t)) :
    (W.cell? ⟨w.heap.size, 0, none⟩ = some u0 ∧ W.cell? ⟨w.heap.size, 1, none⟩ = some u1 ∧ W.cell? ⟨w.heap.size, 2, none⟩ = some u2 ∧ W.cell? ⟨w.heap.size, 3, none⟩ = some u3 ∧ W.cell? ⟨w.heap.size, 4, none⟩ = some u4) ∧ W.heap.size = w.heap.size + 1 ∧ Below w.heap.size w W := by
  subst hW
  refine ⟨⟨?_, ?_, ?_, ?_, ?_⟩, by simp, (Below.refl _ _).alloc (Nat.le_refl _) _⟩ <;> go_simp
set_option maxHeartbeats 4000000 in
theorem copies_walk (w : World) (S : Nat → Prop) (x : Wv) (lim : Int) (n1 n2 n3 n4 : Nat) (hA : subW w S x) (hS : ∀ b, S b → b < w.heap.size) (hbig : bigW x) (hn1 : n1 = x.fs.length) (hn2 : n2 = x.gs.length) (hn3 : n3 = x.rs.length) (hn4 : n4 = x.hs.length) :
    Calls Try.prog 3 #[.agg #[.slice x.fa n1 x.fcap, .slice x.ga n2 x.gcap, .slice x.ra n3 x.rcap, .slice x.ha n4 x.hcap, .int .i64 lim]] w fun e w' => e = .returned (.bool true) ∧ Below w.heap.size w w' := by
  obtain ⟨w2, hw2⟩ : ∃ w2, w2 = w.alloc (.cells #[.slice x.fa n1 x.fcap, .slice x.ga n2 x.gcap, .slice x.ra n3 x.rcap, .slice x.ha n4 x.hcap, .int .i64 lim] 29) := ⟨_, rfl⟩
  obtain ⟨⟨u0, u1, u2, u3, u4⟩, hz2, hb2⟩ := wBox w _ _ _ _ _ _ w2 hw2
  have hA2 := subW_keep hA (fun b hb => hb2.block b (hS b hb)) (fun _ h => h)
  have HC := hid (Copy_any w2 S x lim n1 n2 n3 n4 hA2 (fun b hb => by have := hS b hb; omega) hbig hn1 hn2 hn3 hn4)
  have HN := hid (⟨hn1, hn2, hn3, hn4⟩ : n1 = x.fs.length ∧ n2 = x.gs.length ∧ n3 = x.rs.length ∧ n4 = x.hs.length)
  have HA2 := hid hA2
  have H2 := hid hw2
  have HB2 := hid hb2
  have HBig := hid hbig
  clear hw2 hb2 hA hA2 hn1 hn2 hn3 hn4 hbig
  go_enter Try.func3, Try.ntmps3
  go_upto_region 1 with fail
  rw [← H2.out]
  go_wp2_with fail
  have hcall := HC.out
  go_fit hcall
  clear hcall
  rintro e w3 ⟨y, rfl, hsame, hb3, hY⟩
  have hz3 := hb3.size
  obtain ⟨w4, hw4⟩ : ∃ w4, w4 = w3.alloc (.cells #[.slice y.fa n1 y.fcap, .slice y.ga n2 y.gcap, .slice y.ra n3 y.rcap, .slice y.ha n4 y.hcap, .int .i64 lim] 29) := ⟨_, rfl⟩
  obtain ⟨⟨v0, v1, v2, v3, v4⟩, hz4, hb4⟩ := wBox w3 _ _ _ _ _ _ w4 hw4
  have hb34 := hb3.trans (hb4.mono hz3)
  have hbigY : bigW y := by
    obtain ⟨h1, h2, h3, h4, h5, h6⟩ := HBig.out
    obtain ⟨g1, g2, g3, g4⟩ := hsame
    refine ⟨by rw [map_len g1]; exact h1, fun f hf => ?_, by rw [g2]; exact h3, by rw [map_len g3]; exact h4, fun r hr => ?_, by rw [g4]; exact h6⟩
    · obtain ⟨i, hi, rfl⟩ := List.getElem_of_mem hf
      have e := map_get g1 i hi (by rw [← map_len g1]; exact hi)
      unfold datF at e
      injection e with _ e; injection e with _ e; injection e with _ e
      unfold bigF; rw [e]
      exact h2 _ (List.getElem_mem _)
    · obtain ⟨i, hi, rfl⟩ := List.getElem_of_mem hr
      have hi' : i < x.rs.length := by rw [← map_len g3]; exact hi
      have e := map_get g3 i hi hi'
      have hb := h5 _ (List.getElem_mem hi')
      unfold datR at e
      injection e with _ e; injection e with e1 e2
      refine ⟨by rw [map_len e1]; exact hb.v, fun s hs => ?_, by rw [map_len e2]; exact hb.m, fun s hs => ?_⟩
      · obtain ⟨j, hj, rfl⟩ := List.getElem_of_mem hs
        have q := map_get e1 j hj (by rw [← map_len e1]; exact hj)
        unfold datS at q
        injection q with _ q
        unfold bigS; rw [q]
        exact hb.vs _ (List.getElem_mem _)
      · obtain ⟨j, hj, rfl⟩ := List.getElem_of_mem hs
        have q := map_get e2 j hj (by rw [← map_len e2]; exact hj)
        unfold datM at q
        unfold bigM; rw [q]
        exact hb.ms _ (List.getElem_mem _)
  have HC2 := hid (sameWorld_any w4 (fun b => w2.heap.size ≤ b ∧ b < w3.heap.size) S y x lim n1 n2 n3 n4 hsame hbigY (subW_keep hY (fun b hb => hb4.block b hb.2) (fun _ h => h)) (subW_keep HA2.out (fun b hb => hb34.block b (by have := hS b hb; omega)) (fun _ h => h)) (fun b hb => by omega) (fun b hb => by have := hS b hb; omega) (HN.out.1.trans (map_len hsame.f).symm) (by rw [hsame.g]; exact HN.out.2.1) (HN.out.2.2.1.trans (map_len hsame.r).symm) (by rw [hsame.h]; exact HN.out.2.2.2))
  have q0 := (hb3.cell (p := ⟨w.heap.size, 0, none⟩) (by dsimp only; omega)).trans u0
  have q1 := (hb3.cell (p := ⟨w.heap.size, 1, none⟩) (by dsimp only; omega)).trans u1
  have q2 := (hb3.cell (p := ⟨w.heap.size, 2, none⟩) (by dsimp only; omega)).trans u2
  have q3 := (hb3.cell (p := ⟨w.heap.size, 3, none⟩) (by dsimp only; omega)).trans u3
  have q4 := (hb3.cell (p := ⟨w.heap.size, 4, none⟩) (by dsimp only; omega)).trans u4
  have hl0 : w.heap.size < w3.heap.size := by omega
  have HB4 := hid (HB2.out.trans (hb34.mono (by omega)))
  have H4 := hid hw4
  have HZ := hid (show w.heap.size ≤ w4.heap.size by omega)
  clear u0 u1 u2 u3 u4 hw4 hb3 hb4 hb34 hY hsame hbigY hz2 hz4
  go_upto_region 2 with fail
  rw [← H4.out]
  have y0 := (((Below.refl w3.heap.size w3).alloc (Nat.le_refl _) (.cells #[.slice y.fa n1 y.fcap, .slice y.ga n2 y.gcap, .slice y.ra n3 y.rcap, .slice y.ha n4 y.hcap, .int .i64 lim] 29)).cell (p := ⟨w.heap.size, 0, none⟩) hl0).trans q0
  have y1 := (((Below.refl w3.heap.size w3).alloc (Nat.le_refl _) (.cells #[.slice y.fa n1 y.fcap, .slice y.ga n2 y.gcap, .slice y.ra n3 y.rcap, .slice y.ha n4 y.hcap, .int .i64 lim] 29)).cell (p := ⟨w.heap.size, 1, none⟩) hl0).trans q1
  have y2 := (((Below.refl w3.heap.size w3).alloc (Nat.le_refl _) (.cells #[.slice y.fa n1 y.fcap, .slice y.ga n2 y.gcap, .slice y.ra n3 y.rcap, .slice y.ha n4 y.hcap, .int .i64 lim] 29)).cell (p := ⟨w.heap.size, 2, none⟩) hl0).trans q2
  have y3 := (((Below.refl w3.heap.size w3).alloc (Nat.le_refl _) (.cells #[.slice y.fa n1 y.fcap, .slice y.ga n2 y.gcap, .slice y.ra n3 y.rcap, .slice y.ha n4 y.hcap, .int .i64 lim] 29)).cell (p := ⟨w.heap.size, 3, none⟩) hl0).trans q3
  have y4 := (((Below.refl w3.heap.size w3).alloc (Nat.le_refl _) (.cells #[.slice y.fa n1 y.fcap, .slice y.ga n2 y.gcap, .slice y.ra n3 y.rcap, .slice y.ha n4 y.hcap, .int .i64 lim] 29)).cell (p := ⟨w.heap.size, 4, none⟩) hl0).trans q4
  rw [← H4.out] at y0 y1 y2 y3 y4
  clear q0 q1 q2 q3 q4
  go_wp2_with fail
  have hcall := HC2.out
  go_fit hcall
  clear hcall
  rintro e w5 ⟨rfl, hb5⟩
  go_wp2_with fail
  go_ret
  exact ⟨rfl, HB4.out.trans (hb5.mono HZ.out)⟩
theorem own : ownKnob Try.prog.godebug = none := by kernel_rfl
theorem laidOut : laidOutB Try.prog = true := by kernel_rfl
set_option maxRecDepth 100000 in
theorem copies_lifted (os : Os) (started : os.Started) (H : Type) (enc : TypeId × Value → H) :
    ReturnsInHanded {} Try.checked os 3 .any (Rows.vmCopiesSpec.pre6 enc Try.prog Try.f3 Rows.vmCopiesRow.domain false) (Rows.vmCopiesSpec.post enc Try.prog Try.f3 false true false false) := by
  refine returnsInHanded_of_change_sized (C := Try.checked) own started (by kernel_rfl) Try.func3
    (ChangeSpec.witness6 (enc := enc) (C := Try.checked) false ⟨#[], #[.agg #[.slice none 0 0, .slice none 0 0, .slice none 0 0, .slice none 0 0, .int .i64 0]], []⟩ 8 (by kernel_rfl) (by kernel_rfl) (by kernel_rfl) (by kernel_rfl)) ?_
  intro W base args ds gs before hval0 hW hcnd hsz0 _
  have hval : ∀ (j : Nat) t v, Try.f3.params[j]? = some t → args[j]? = some v → Value.okWide Try.prog W .any base t v := hval0
  have hsz : (DataW.weightsEach Try.prog (Try.f3.params.toList ++ Rows.vmCopiesSpec.plain.varTypes Try.prog) (ds ++ gs)).all (· ≤ reachBytes) = true := hsz0
  have hW' := hW
  obtain ⟨p, q, hA0, hV, rfl, hfz, hnd⟩ := hW
  have hA : DataW.TrodAll enc Try.prog W 0 (fun _ => true) true Try.f3.params.toList args.toList ds p := hA0
  rw [Try.params3] at hA hval hsz
  obtain ⟨v0, vs0, d0, ds0, p0, q0, hargs, rfl, rfl, h0, r0⟩ := trodAll_cons hA
  obtain ⟨rfl, rfl, rfl⟩ := trodAll_nil r0
  obtain rfl : args = #[v0] := by cases args; simp_all
  obtain ⟨rfl, rfl⟩ := trodVars_none hV
  have k0 := h0
  have lt0 : ∀ x ∈ p0, x.block < W.heap.size := by obtain ⟨m, hm⟩ := k0; exact DataW.trod_lt m _ _ _ hm
  have hw0 : InR Try.prog 29 d0 := fun n hn => by
    have := List.all_eq_true.1 hsz n (DataW.weights_mem_each (j := 0) rfl rfl n hn)
    exact of_decide_eq_true this
  obtain ⟨x, lim, rfl, hsub, hbig⟩ := open_world (hval 0 29 v0 rfl rfl) h0 hw0
  clear hA0 hval0 hsz0 hsz
  refine (copies_walk W (fun b => b < W.heap.size) x lim x.fs.length x.gs.length x.rs.length x.hs.length hsub (fun _ h => h) hbig rfl rfl rfl rfl).mono fun e W' ⟨he, bel⟩ => ?_
  subst he
  exact ⟨_, rfl, _, _, _, [], _, [], hW', trodAll_mk1 (shut_bool Try.underlying4 _), (trodAll_cons_mk (Below.trod laidOut (by kernel_rfl) (of_decide_eq_true (by kernel_rfl)) k0 bel lt0) trodAll_mk0), rfl, bel.frame _, fun h => by cases h⟩
theorem vmCopies_holds : Rows.VmCopiesSaid :=
  OpenClaim.holds_of_wide 3 Try.f3 rfl rfl rfl rfl rfl rfl rfl ⟨rfl, rfl, rfl, rfl, rfl⟩ rfl rfl rfl rfl rfl (by kernel_rfl) Try.func3 (by kernel_rfl)
    (of_decide_eq_true (by kernel_rfl)) (by unfold Func.isWrapper; first | (rw [if_pos (by decide +kernel)]; kernel_rfl) | (rw [if_neg (by decide +kernel)]; exact ⟨rfl, rfl⟩))
    (fun os started H enc _ => copies_lifted os started H enc)
#print axioms vmCopies_holds
end Go.Proofs.Ytecjnlekckmhfaa

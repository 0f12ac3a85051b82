/- read.Check answers at every datum what P1.2 says: ReadChecks returns true for every datum that can be read, and leaves it as it was. No condition. -/
import Derived.Test.YtmgpppijildccaaRows
import Derived.Test.YtmgpppijildccaaRefs
import Derived.WalkKit
import Derived.ProofKit
import Derived.OpenShut
import Derived.ShutString
import Derived.ChangeOld
import Derived.Below
import Derived.Deep.Slices
import Derived.Lib.SmallJoins
namespace Go.Proofs.Ytmgpppijildccaa
open Go.ChangeShapes Go.WideShapes Go.ChangeAt Go.RowKit
set_option maxHeartbeats 400000 in
theorem check_any (W : World) (B : Nat) (k n : Int) (s : ByteArray) (a : Option Addr) (len cap : Nat) (w : World) (hW : Below B W w) (hB : B ≤ w.heap.size) (hF : Fine W B 40 s a len) :
    Calls Try.prog 4 #[.agg #[.int .i64 k, .int .i64 n, .string s, .slice a len cap]] w fun e w' => e = .returned (.int .i64 (fltI W 40 k n s a len)) ∧ Below w.heap.size w w' := by
  have HW : Hid (Below B W (w.alloc (.cells #[.int .i64 k, .int .i64 n, .string s, .slice a len cap] 24))) := hW.alloc hB _
  go_enter Try.func4, Try.ntmps4
  go_wp2_with fail
  have hcall := within_any W B 40 k n s a len cap 0 _ (by omega) (by omega) HW.out (by simp; omega) hF
  go_fit hcall
  rintro e w2 ⟨rfl, hb2⟩
  go_wp2_with fail
  go_ret
  exact ⟨rfl, ((Below.refl _ _).alloc (Nat.le_refl _) _).trans (hb2.mono (by simp))⟩
set_option maxHeartbeats 400000 in
theorem datumFault_any (W : World) (B : Nat) (k n : Int) (s : ByteArray) (a : Option Addr) (len cap : Nat) (w : World) (hW : Below B W w) (hB : B ≤ w.heap.size) (hF : Fine W B 40 s a len) :
    Calls Try.prog 5 #[.agg #[.int .i64 k, .int .i64 n, .string s, .slice a len cap]] w fun e w' => e = .returned (.int .i64 (fltI W 40 k n s a len)) ∧ Below w.heap.size w w' := by
  have HW : Hid (Below B W (w.alloc (.cells #[.int .i64 k, .int .i64 n, .string s, .slice a len cap] 24))) := hW.alloc hB _
  go_enter Try.func5, Try.ntmps5
  go_wp2_with fail
  have hcall := fault_any W B 40 k n s a len cap 1 _ (by omega) (by omega) HW.out (by simp; omega) hF
  go_fit hcall
  rintro e w2 ⟨rfl, hb2⟩
  go_wp2_with fail
  go_ret
  exact ⟨rfl, ((Below.refl _ _).alloc (Nat.le_refl _) _).trans (hb2.mono (by simp))⟩
theorem box_all {w wr : World} {v0 v1 v2 v3 : Value} {t : TypeId} (hbr : Below (w.heap.size + 1) (w.alloc (.cells #[v0, v1, v2, v3] t)) wr) :
    wr.cell? ⟨w.heap.size, 0, none⟩ = some v0 ∧ wr.cell? ⟨w.heap.size, 1, none⟩ = some v1 ∧ wr.cell? ⟨w.heap.size, 2, none⟩ = some v2 ∧ wr.cell? ⟨w.heap.size, 3, none⟩ = some v3 := by
  refine ⟨?_, ?_, ?_, ?_⟩
  all_goals
    rw [hbr.cell (show w.heap.size < w.heap.size + 1 by omega)]
    go_simp
set_option maxHeartbeats 400000 in
theorem walk (k n : Int) (s : ByteArray) (a : Option Addr) (len cap : Nat) (w : World) (hF : Fine w w.heap.size 40 s a len) :
    Calls Try.prog 3 #[.agg #[.int .i64 k, .int .i64 n, .string s, .slice a len cap]] w fun e w' => e = .returned (.bool true) ∧ Below w.heap.size w w' := by
  have HW : Hid (Below w.heap.size w (w.alloc (.cells #[.int .i64 k, .int .i64 n, .string s, .slice a len cap] 24))) := (Below.refl _ _).alloc (Nat.le_refl _) _
  go_enter Try.func3, Try.ntmps3
  go_wp2_with fail
  have hcall := check_any w w.heap.size k n s a len cap _ HW.out (by simp) hF
  go_fit hcall
  clear hcall
  rintro e w2 ⟨rfl, hb2⟩
  have hb2' : Below (w.heap.size + 1) (w.alloc (.cells #[.int .i64 k, .int .i64 n, .string s, .slice a len cap] 24)) w2 := hb2.mono (by simp)
  obtain ⟨g0, g1, g2, g3⟩ := box_all hb2'
  have hz : w.heap.size + 1 ≤ w2.heap.size := by have := hb2'.size; simpa using this
  have HW2 : Hid (Below w.heap.size w w2) := HW.out.trans (hb2'.mono (by omega))
  generalize hr : fltI w 40 k n s a len = r
  have HR := hid hr
  clear hr hb2
  go_wp2_with fail
  have hcall2 := datumFault_any w w.heap.size k n s a len cap _ HW2.out (by omega) hF
  rw [HR.out] at hcall2
  go_fit hcall2
  clear hcall2
  rintro e w3 ⟨rfl, hb3⟩
  go_wp2_with fail
  go_ret
  exact ⟨by simp, HW2.out.trans (hb3.mono (by omega))⟩
theorem own : ownKnob Try.prog.godebug = none := by kernel_rfl
theorem laidOut : laidOutB Try.prog = true := by kernel_rfl
theorem cells24 : Try.prog.cellsOf 24 = 4 := by kernel_rfl
theorem cells22 : Try.prog.cellsOf 22 = 1 := by kernel_rfl
theorem cells9 : Try.prog.cellsOf 9 = 1 := by kernel_rfl
theorem cells3 : Try.prog.cellsOf 3 = 1 := by kernel_rfl
theorem fine_of {H : Type} {enc : TypeId × Value → H} {W : World} (d : Nat) : ∀ (fuel : Nat) (s : ByteArray) (v : Value) (y : DataW H × List MemPlace), s.size ≤ 9223372036854775807 →
    DataW.trod enc Try.prog W 0 (fun _ => true) true fuel 22 [v] = some y → ∃ a len cap, v = .slice a len cap ∧ Fine W W.heap.size d s a len := by
  induction d with
  | zero =>
    intro fuel s v y hs h
    rcases Deep.open_slice Try.underlying22 h with ⟨hcs, _⟩ | ⟨a, len, cap, m, n, D, Pl, hcs, _, hl, hm, _⟩
    · exact ⟨none, 0, 0, by simpa using hcs, hs, by omega⟩
    · exact ⟨some a, len, cap, by simpa using hcs, hs, by unfold maxLen at hm; omega⟩
  | succ d ih =>
    intro fuel s v y hs h
    rcases Deep.open_slice Try.underlying22 h with ⟨hcs, _⟩ | ⟨a, len, cap, m, n, D, Pl, hcs, _, hl, hm, hmm, _, hel⟩
    · exact ⟨none, 0, 0, by simpa using hcs, hs, by omega, fun i hi => absurd hi (by omega)⟩
    · refine ⟨some a, len, cap, by simpa using hcs, hs, by unfold maxLen at hm; omega, fun i hi => ?_⟩
      simp at hmm
      obtain ⟨cs', h1, h2⟩ := hel i (by omega)
      rw [cells24] at h1
      obtain ⟨_, hlen, hcell⟩ := World.cells?_some h1
      obtain ⟨y0, y1, y2, y3, n', _, _, t0, t1, t2, t3⟩ := Joins.trod_struct4 Try.underlying24 h2
      match cs', hlen with
      | [u0, u1, u2, u3], _ =>
        simp [cells3, cells9, cells22] at t0 t1 t2 t3
        obtain ⟨kk, e0, _, _⟩ := DataW.trod_int Try.underlying3 t0
        obtain ⟨nn, e1, _, _⟩ := DataW.trod_int Try.underlying3 t1
        obtain ⟨ss, e2, _, hss⟩ := DataW.trod_string Try.underlying9 t2
        simp at e0 e1 e2
        subst e0 e1 e2
        obtain ⟨a', len', cap', rfl, hF⟩ := ih n' ss u3 y3 (by unfold maxLen at hss; omega) t3
        have c0 := hcell 0 (by omega)
        have c1 := hcell 1 (by omega)
        have c2 := hcell 2 (by omega)
        have c3 := hcell 3 (by omega)
        rw [Deep.add_add] at c0 c1 c2 c3
        obtain ⟨b, off, spot⟩ := a
        have hspot : spot = none := by
          have h0 := hel 0 (by omega)
          obtain ⟨cs0, h10, _⟩ := h0
          rw [cells24] at h10
          obtain ⟨_, hlen0, hcell0⟩ := World.cells?_some h10
          have q0 := hcell0 0 (by omega)
          match cs0, hlen0 with
          | [z0, z1, z2, z3], _ => simpa [Addr.add] using World.cell?_spot (by simpa [Addr.add] using q0)
        subst hspot
        rw [add_plain] at c0 c1 c2 c3
        refine ⟨b, off, kk, nn, ss, a', len', cap', rfl, World.block_lt_of_cell? _ _ c0, by simpa using c0, by simpa [Nat.add_assoc] using c1, by simpa [Nat.add_assoc] using c2, by simpa [Nat.add_assoc] using c3, hF⟩
set_option maxRecDepth 100000 in
theorem lifted (os : Os) (started : os.Started) (H : Type) (enc : TypeId × Value → H) :
    ReturnsInHanded {} Try.checked os 3 .any (Rows.readChecksSpec.pre6 enc Try.prog Try.f3 Rows.readChecksRow.domain false) (Rows.readChecksSpec.post enc Try.prog Try.f3 false true false false) := by
  refine returnsInHanded_of_change (C := Try.checked) own started (by kernel_rfl) Try.func3
    (ChangeSpec.witness6 (enc := enc) (C := Try.checked) false ⟨#[], #[.agg #[.int .i64 0, .int .i64 0, .string ⟨#[]⟩, .slice none 0 0]], []⟩ 8 (by kernel_rfl) (by kernel_rfl) (by kernel_rfl) (by kernel_rfl)) ?_
  intro W base args ds gs before hval0 hW hcnd _
  have hval : ∀ (j : Nat) t v, Try.f3.params[j]? = some t → args[j]? = some v → Value.okWide Try.prog W .any base t v := hval0
  have hW' := hW
  obtain ⟨p, q, hA0, hV, rfl, hfz, hnd⟩ := hW
  have hA : DataW.TrodAll enc Try.prog W 0 (fun _ => true) true Try.f3.params.toList args.toList ds p := hA0
  rw [Try.params3] at hA hval
  obtain ⟨v0, vs0, d0, ds0, p0, q0, hargs, rfl, rfl, h0, r0⟩ := trodAll_cons hA
  obtain ⟨rfl, rfl, rfl⟩ := trodAll_nil r0
  obtain rfl : args = #[v0] := by cases args; simp_all
  obtain ⟨rfl, rfl⟩ := trodVars_none hV
  have k0 := h0
  have lt0 : ∀ x ∈ p0, x.block < W.heap.size := by obtain ⟨m, hm⟩ := k0; exact DataW.trod_lt m _ _ _ hm
  obtain ⟨u0, u1, u2, u3, y0, y1, y2, y3, m, rfl, hd0, hp0, t0, t1, t2, t3⟩ := Joins.open_agg4 Try.underlying24 (by kernel_rfl) cells24 (hval 0 24 v0 rfl rfl) h0
  obtain ⟨kk, e0, _, _⟩ := DataW.trod_int Try.underlying3 t0
  obtain ⟨nn, e1, _, _⟩ := DataW.trod_int Try.underlying3 t1
  obtain ⟨ss, e2, _, hss⟩ := DataW.trod_string Try.underlying9 t2
  simp at e0 e1 e2
  subst e0 e1 e2
  obtain ⟨a', len', cap', rfl, hF⟩ := fine_of 40 m ss u3 y3 (by unfold maxLen at hss; omega) t3
  clear hA0 hval0
  refine (walk kk nn ss a' len' cap' W hF).mono fun e W' ⟨he, bel⟩ => ?_
  subst he
  exact ⟨_, rfl, _, _, _, [], _, [], hW', trodAll_mk1 (shut_bool Try.underlying4 _), (trodAll_cons_mk (Below.trod laidOut (by kernel_rfl) (of_decide_eq_true (by kernel_rfl)) k0 bel lt0) trodAll_mk0), rfl, bel.frame _, fun h => by cases h⟩
theorem readChecks_holds : Rows.ReadChecksSaid :=
  OpenClaim.holds_of_wide 3 Try.f3 rfl rfl rfl rfl rfl rfl rfl ⟨rfl, rfl, rfl, rfl, rfl⟩ rfl rfl rfl rfl rfl (by kernel_rfl) Try.func3 (by kernel_rfl)
    (of_decide_eq_true (by kernel_rfl)) (by unfold Func.isWrapper; first | (rw [if_pos (by decide +kernel)]; kernel_rfl) | (rw [if_neg (by decide +kernel)]; exact ⟨rfl, rfl⟩))
    (fun os started H enc _ => lifted os started H enc)
#print axioms readChecks_holds
end Go.Proofs.Ytmgpppijildccaa

/- Raw things that came in. -/
import Derived.Test.YtdfmimgjdchafaaGreatDoorBard1
import Derived.Lib.SmallJoins
import Derived.ProofKit
import Derived.OpenShut
namespace Go.Proofs.YtdfmimgjdchafaaGreatDoor
set_option maxRecDepth 100000
open Go.ChangeShapes Go.WideShapes Go.ChangeAt Go.RowKit
theorem kcellsRw : Tryz.prog.cellsOf 46 = 4 := by kernel_rfl
theorem kcellsI : Tryz.prog.cellsOf 3 = 1 := by kernel_rfl
theorem kadd_plain (b o k : Nat) : (⟨b, o, none⟩ : Addr).add k = ⟨b, o + k, none⟩ := by unfold Addr.add; split <;> simp_all
theorem ki64_of {n : Int} (h : (Lit.int .i64 n).wf = true) : i64B n := by
  simp [Lit.wf, IntKind.min, IntKind.max, IntKind.signed, IntKind.bits] at h
  exact ⟨by omega, by omega⟩
set_option maxRecDepth 100000 in
theorem kraws_in {H : Type} {enc : TypeId × Value → H} {W : World} {v : Value} {d : DataW H} {p : List MemPlace} {base : Nat} (hv : Value.okWide Tryz.prog W .any base 22 v) (h : DataW.Trod enc Tryz.prog W 0 (fun _ => true) true 22 v d p) :
    ∃ a n cap, v = .slice a n cap ∧ n ≤ cap ∧ cap ≤ maxLen ∧ Raws W W.heap.size a n := by
  obtain ⟨a, n, c, rfl⟩ := okWide_slice Tryz.underlying22 hv
  obtain ⟨fuel, hf0⟩ := h
  have hf : DataW.trod enc Tryz.prog W 0 (fun _ => true) true fuel 22 [.slice a n c] = some (d, p) := by simpa [Value.cells] using hf0
  rcases Deep.open_slice Tryz.underlying22 hf with ⟨hcs, _⟩ | ⟨a, len, cap, m, n', D, Pl, hcs, _, hl, hm, hmm, _, hel⟩
  · simp at hcs
    obtain ⟨rfl, rfl, rfl⟩ := hcs
    exact ⟨none, 0, 0, rfl, Nat.le_refl _, by decide, fun i hi => absurd hi (by omega)⟩
  · simp at hmm
    simp at hcs
    obtain ⟨rfl, rfl, rfl⟩ := hcs
    refine ⟨some a, n, c, rfl, hl, hm, fun i hi => ?_⟩
    obtain ⟨cs', h1, h2⟩ := hel i (by omega)
    rw [kcellsRw] at h1
    obtain ⟨_, hlen, hcell⟩ := World.cells?_some h1
    obtain ⟨y0, y1, y2, y3, n'', _, _, t0, t1, t2, t3⟩ := Joins.trod_struct4 Tryz.underlying46 h2
    match cs', hlen with
    | [u0, u1, u2, u3], _ =>
      simp [kcellsI] at t0 t1 t2 t3
      obtain ⟨k0, e0, _, g0⟩ := DataW.trod_int Tryz.underlying3 t0
      obtain ⟨k1, e1, _, g1⟩ := DataW.trod_int Tryz.underlying3 t1
      obtain ⟨k2, e2, _, g2⟩ := DataW.trod_int Tryz.underlying3 t2
      obtain ⟨k3, e3, _, g3⟩ := DataW.trod_int Tryz.underlying3 t3
      simp at e0 e1 e2 e3
      subst e0 e1 e2 e3
      have c0 := hcell 0 (by omega)
      have c1 := hcell 1 (by omega)
      have c2 := hcell 2 (by omega)
      have c3 := hcell 3 (by omega)
      rw [Deep.add_add] at c0 c1 c2 c3
      obtain ⟨b, off, spot⟩ := a
      have hspot : spot = none := by
        obtain ⟨cs0, h10, _⟩ := hel 0 (by omega)
        rw [kcellsRw] at h10
        obtain ⟨_, hlen0, hcell0⟩ := World.cells?_some h10
        have q0 := hcell0 0 (by omega)
        match cs0, hlen0 with
        | [z0, z1, z2, z3], _ => simpa [Addr.add] using World.cell?_spot (by simpa [Addr.add] using q0)
      subst hspot
      rw [kadd_plain] at c0 c1 c2 c3
      exact ⟨b, off, k0, k1, k2, k3, rfl, World.block_lt_of_cell? _ _ c0, by simpa using c0, by simpa [Nat.add_assoc] using c1, by simpa [Nat.add_assoc] using c2, by simpa [Nat.add_assoc] using c3, ki64_of g0, ki64_of g1, ki64_of g2, ki64_of g3⟩
end Go.Proofs.YtdfmimgjdchafaaGreatDoor

/- Ints that came in. -/
import Derived.Test.YtfjfobpdlmdddaaHRaws
namespace Go.Proofs.Ytfjfobpdlmdddaa
set_option maxRecDepth 100000
open Go.ChangeShapes Go.WideShapes Go.ChangeAt Go.RowKit
/-- Ints in a row. -/
def IntS (w : World) (B : Nat) (a : Option Addr) (I : List Int) : Prop := ∀ i (h : i < I.length), (∃ b o, a = some ⟨b, o, none⟩ ∧ b < B ∧ w.cell? ⟨b, o + i, none⟩ = some (.int .i64 I[i])) ∧ i64B I[i]
theorem IntS.below {w w' : World} {B : Nat} {a : Option Addr} {I : List Int} (h : IntS w B a I) (hb : Below B w w') : IntS w' B a I := by
  intro i hi
  obtain ⟨⟨b, o, h1, h2, h3⟩, h4⟩ := h i hi
  exact ⟨⟨b, o, h1, h2, (hb.cell (p := ⟨b, _, none⟩) h2).trans h3⟩, h4⟩
theorem cellsIn : Try.prog.cellsOf 3 = 1 := by kernel_rfl
set_option maxRecDepth 100000 in
theorem ints_in {H : Type} {enc : TypeId × Value → H} {W : World} {v : Value} {d : DataW H} {p : List MemPlace} {base : Nat} (hv : Value.okWide Try.prog W .any base 50 v) (h : DataW.Trod enc Try.prog W 0 (fun _ => true) true 50 v d p) :
    ∃ a cap I, v = .slice a (List.length I) cap ∧ I.length ≤ 9223372036854775807 ∧ IntS W W.heap.size a I := by
  obtain ⟨a, n, c, rfl⟩ := okWide_slice Try.underlying50 hv
  obtain ⟨fuel, hf0⟩ := h
  have hf : DataW.trod enc Try.prog W 0 (fun _ => true) true fuel 50 [.slice a n c] = some (d, p) := by simpa [Value.cells] using hf0
  rcases Deep.open_slice Try.underlying50 hf with ⟨hcs, _⟩ | ⟨a, len, cap, m, n', D, Pl, hcs, _, hl, hm, hmm, _, hel⟩
  · simp at hcs
    obtain ⟨rfl, rfl, rfl⟩ := hcs
    exact ⟨none, 0, [], rfl, by simp, fun i hi => absurd hi (by simp)⟩
  · simp at hmm
    have hone : ∀ i, i < len → ∃ s : Int, (∃ b o, (some a = some ⟨b, o, none⟩) ∧ b < W.heap.size ∧ W.cell? ⟨b, o + i, none⟩ = some (.int .i64 s)) ∧ i64B s := by
      intro i hi
      obtain ⟨cs', h1, h2⟩ := hel i (by omega)
      rw [cellsIn] at h1
      obtain ⟨_, hlen, hcell⟩ := World.cells?_some h1
      match cs', hlen with
      | [u0], _ =>
        obtain ⟨k0, e0, _, g0⟩ := DataW.trod_int Try.underlying3 h2
        simp at e0
        subst e0
        have c0 := hcell 0 (by omega)
        rw [Deep.add_add] at c0
        obtain ⟨b, off, spot⟩ := a
        have hspot : spot = none := by
          obtain ⟨cs0, h10, _⟩ := hel 0 (by omega)
          rw [cellsIn] at h10
          obtain ⟨_, hlen0, hcell0⟩ := World.cells?_some h10
          have q0 := hcell0 0 (by omega)
          match cs0, hlen0 with
          | [z0], _ => simpa [Addr.add] using World.cell?_spot (by simpa [Addr.add] using q0)
        subst hspot
        rw [add_plain] at c0
        exact ⟨k0, ⟨b, off, rfl, World.block_lt_of_cell? _ _ c0, by simpa using c0⟩, i64_of g0⟩
    obtain ⟨I, hll, hp⟩ := exists_list len hone
    simp at hcs
    obtain ⟨rfl, rfl, rfl⟩ := hcs
    exact ⟨some a, c, I, by rw [hll], by unfold maxLen at hm; omega, hp⟩
end Go.Proofs.Ytfjfobpdlmdddaa

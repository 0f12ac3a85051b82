/- What came in, opened: records in a row. -/
import Derived.Test.YteblglkmkakcjaaUOpen
import Derived.Test.YteblglkmkakcjaaUFind
namespace Go.Proofs.Yteblglkmkakcjaa
set_option maxRecDepth 100000
open Go.ChangeShapes Go.WideShapes Go.ChangeAt Go.RowKit
theorem cellsShs : Try.prog.cellsOf 56 = 1 := by kernel_rfl
theorem exists_list {α : Type} {P : Nat → α → Prop} : ∀ n, (∀ i, i < n → ∃ x, P i x) → ∃ l : List α, l.length = n ∧ ∀ i (hi : i < l.length), P i l[i]
  | 0, _ => ⟨[], rfl, fun i hi => absurd hi (by simp)⟩
  | n + 1, h => by
    obtain ⟨l, hl, hp⟩ := exists_list n (fun i hi => h i (by omega))
    obtain ⟨x, hx⟩ := h n (by omega)
    refine ⟨l ++ [x], by simp [hl], fun i hi => ?_⟩
    by_cases hlt : i < l.length
    · rw [List.getElem_append_left hlt]; exact hp i hlt
    · have : i = l.length := by simp at hi; omega
      subst this
      rw [List.getElem_append_right (Nat.le_refl _)]
      simpa [hl] using hx
theorem shs_of {H : Type} {enc : TypeId × Value → H} {W : World} {fuel : Nat} {v : Value} {y : DataW H × List MemPlace}
    (h : DataW.trod enc Try.prog W 0 (fun _ => true) true fuel 56 [v] = some y) :
    ∃ a cap l, v = .slice a (List.length l) cap ∧ l.length ≤ cap ∧ l.length ≤ maxLen ∧ Shs W W.heap.size a l := by
  rcases Deep.open_slice Try.underlying56 h with ⟨hcs, _⟩ | ⟨a, len, cap, m, n, D, Pl, hcs, _, hl, hm, hmm, _, hel⟩
  · exact ⟨none, 0, [], by simpa using hcs, Nat.le_refl _, Nat.zero_le _, fun i hi => absurd hi (by simp)⟩
  · simp at hmm
    have hone : ∀ i, i < len → ∃ s : Sh, ∃ b o, (some a = some ⟨b, o, none⟩) ∧ b < W.heap.size ∧ W.cell? ⟨b, o + i * 2, none⟩ = some (.string s.name) ∧ W.cell? ⟨b, o + i * 2 + 1, none⟩ = some (.slice s.adr s.fs.length s.cap) ∧
        s.name.size ≤ maxLen ∧ s.fs.length ≤ s.cap ∧ s.fs.length ≤ maxLen ∧ Strs W W.heap.size s.adr s.fs := by
      intro i hi
      obtain ⟨cs', h1, h2⟩ := hel i (by omega)
      rw [cellsSh] at h1
      obtain ⟨_, hlen, hcell⟩ := World.cells?_some h1
      obtain ⟨y0, y1, n', _, _, t0, t1⟩ := ChangeShapes.trod_struct2 Try.underlying64 h2
      match cs', hlen with
      | [u0, u1], _ =>
        simp [cellsS, cellsSs] at t0 t1
        obtain ⟨ss, e0, _, hss⟩ := DataW.trod_string Try.underlying9 t0
        simp at e0
        subst e0
        obtain ⟨a', cap', fs, rfl, q1, q2, q3⟩ := strs_of t1
        have c0 := hcell 0 (by omega)
        have c1 := hcell 1 (by omega)
        rw [Deep.add_add] at c0 c1
        obtain ⟨b, off, spot⟩ := a
        have hspot : spot = none := by
          obtain ⟨cs0, h10, _⟩ := hel 0 (by omega)
          rw [cellsSh] at h10
          obtain ⟨_, hlen0, hcell0⟩ := World.cells?_some h10
          have q0 := hcell0 0 (by omega)
          match cs0, hlen0 with
          | [z0, z1], _ => simpa [Addr.add] using World.cell?_spot (by simpa [Addr.add] using q0)
        subst hspot
        rw [add_plain] at c0 c1
        exact ⟨⟨ss, a', fs, cap'⟩, b, off, rfl, World.block_lt_of_cell? _ _ c0, by simpa using c0, by simpa [Nat.add_assoc] using c1, hss, q1, q2, q3⟩
    obtain ⟨l, hll, hp⟩ := exists_list len hone
    refine ⟨some a, cap, l, by rw [hll]; simpa using hcs, by omega, by omega, hp⟩
end Go.Proofs.Yteblglkmkakcjaa

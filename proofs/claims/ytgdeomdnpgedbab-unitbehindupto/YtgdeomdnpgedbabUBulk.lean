/- What came in, opened, with its bulk. -/
import Derived.Test.YtgdeomdnpgedbabRows
import Derived.Test.YtgdeomdnpgedbabUOpenEnv
namespace Go.Proofs.Ytgdeomdnpgedbab
open Go.ChangeShapes Go.WideShapes Go.ChangeAt Go.RowKit
theorem bulk_pos {H : Type} (d : DataW H) : 1 ≤ Rows.uptoBulk d := by
  cases d with
  | lit l => cases l <;> simp [Rows.uptoBulk]
  | _ => simp [Rows.uptoBulk]
theorem bulk_mem {H : Type} {d : DataW H} : ∀ {l : List (DataW H)}, d ∈ l → Rows.uptoBulk d ≤ Rows.uptoBulkAll l
  | x :: r, h => by
    simp only [Rows.uptoBulkAll]
    rcases List.mem_cons.1 h with rfl | h'
    · omega
    · have := bulk_mem h'; omega
theorem bulk_len {H : Type} : ∀ l : List (DataW H), l.length ≤ Rows.uptoBulkAll l
  | [] => by simp [Rows.uptoBulkAll]
  | x :: r => by have := bulk_len r; have := bulk_pos x; simp only [Rows.uptoBulkAll, List.length_cons]; omega
theorem strs_ofB {H : Type} {enc : TypeId × Value → H} {W : World} {fuel : Nat} {v : Value} {y : DataW H × List MemPlace}
    (h : DataW.trod enc Try.prog W 0 (fun _ => true) true fuel 22 [v] = some y) :
    ∃ a cap ss, v = .slice a (List.length ss) cap ∧ ss.length ≤ cap ∧ ss.length ≤ maxLen ∧ Strs W W.heap.size a ss ∧ ss.length ≤ Rows.uptoBulk y.1 := by
  obtain ⟨a, cap, ss, rfl, h1, h2, h3⟩ := strs_of h
  refine ⟨a, cap, ss, rfl, h1, h2, h3, ?_⟩
  rcases Deep.open_slice1 Try.underlying22 cellsS h with ⟨hcs, rfl⟩ | ⟨a', len, cap', m, n, V, D, Pl, hcs, _, hl, hm, hmm, rfl, hel⟩
  · have : ss.length = 0 := by simp at hcs; rw [hcs.2.1]; rfl
    omega
  · have e : ss.length = len := by simp at hcs; exact hcs.2.1
    have hb := bulk_len ((List.range len).map D)
    simp only [Rows.uptoBulk]
    simp at hb
    omega
theorem shs_ofB {H : Type} {enc : TypeId × Value → H} {W : World} {fuel : Nat} {v : Value} {y : DataW H × List MemPlace}
    (h : DataW.trod enc Try.prog W 0 (fun _ => true) true fuel 28 [v] = some y) :
    ∃ a cap l, v = .slice a (List.length l) cap ∧ l.length ≤ cap ∧ l.length ≤ maxLen ∧ Shs W W.heap.size a l ∧ l.length ≤ Rows.uptoBulk y.1 ∧ ∀ s ∈ l, s.fs.length ≤ Rows.uptoBulk y.1 := by
  rcases Deep.open_slice Try.underlying28 h with ⟨hcs, _⟩ | ⟨a, len, cap, m, n, D, Pl, hcs, _, hl, hm, hmm, rfl, hel⟩
  · exact ⟨none, 0, [], by simpa using hcs, Nat.le_refl _, Nat.zero_le _, fun i hi => absurd hi (by simp), Nat.zero_le _, fun s hs => by simp at hs⟩
  · simp at hmm
    have hone : ∀ i, i < len → ∃ s : Sh, (∃ b o, (some a = some ⟨b, o, none⟩) ∧ b < W.heap.size ∧ W.cell? ⟨b, o + i * 2, none⟩ = some (.string s.name) ∧ W.cell? ⟨b, o + i * 2 + 1, none⟩ = some (.slice s.adr s.fs.length s.cap) ∧
        s.name.size ≤ maxLen ∧ s.fs.length ≤ s.cap ∧ s.fs.length ≤ maxLen ∧ Strs W W.heap.size s.adr s.fs) ∧ s.fs.length ≤ Rows.uptoBulk (D i) := by
      intro i hi
      obtain ⟨cs', h1, h2⟩ := hel i (by omega)
      rw [cellsSh] at h1
      obtain ⟨_, hlen, hcell⟩ := World.cells?_some h1
      obtain ⟨y0, y1, n', hD, _, t0, t1⟩ := ChangeShapes.trod_struct2 Try.underlying24 h2
      match cs', hlen with
      | [u0, u1], _ =>
        simp [cellsS, cellsSs] at t0 t1
        obtain ⟨ss, e0, _, hss⟩ := DataW.trod_string Try.underlying9 t0
        simp at e0
        subst e0
        obtain ⟨a', cap', fs, rfl, q1, q2, q3, q4⟩ := strs_ofB t1
        have c0 := hcell 0 (by omega)
        have c1 := hcell 1 (by omega)
        rw [Deep.add_add] at c0 c1
        obtain ⟨b, off, spot⟩ := a
        have hspot : spot = none := by
          obtain ⟨cs0, h10, _⟩ := hel 0 (by omega)
          rw [cellsSh] at h10
          obtain ⟨_, hlen0, hcell0⟩ := World.cells?_some h10
          have q0 := hcell0 0 (by omega)
          match cs0, hlen0 with
          | [z0, z1], _ => simpa [Addr.add] using World.cell?_spot (by simpa [Addr.add] using q0)
        subst hspot
        rw [add_plain] at c0 c1
        refine ⟨⟨ss, a', fs, cap'⟩, ⟨b, off, rfl, World.block_lt_of_cell? _ _ c0, by simpa using c0, by simpa [Nat.add_assoc] using c1, hss, q1, q2, q3⟩, ?_⟩
        have e : D i = .agg [y0.1, y1.1] := congrArg Prod.fst hD
        rw [e]
        simp only [Rows.uptoBulk, Rows.uptoBulkAll]
        have : fs.length ≤ Rows.uptoBulk y1.1 := q4
        show fs.length ≤ _
        omega
    obtain ⟨l, hll, hp⟩ := exists_list len hone
    have hlb : Rows.uptoBulkAll ((List.range len).map D) + 1 ≤ Rows.uptoBulk (.slice ((List.range len).map D) ((List.range (m - len)).map fun j => D (len + j))) := by simp only [Rows.uptoBulk]; omega
    refine ⟨some a, cap, l, by rw [hll]; simpa using hcs, by omega, by omega, fun i hi => (hp i hi).1, ?_, fun s hs => ?_⟩
    · have := bulk_len ((List.range len).map D)
      simp at this
      show l.length ≤ Rows.uptoBulk (.slice _ _)
      omega
    · obtain ⟨i, hi, rfl⟩ := List.getElem_of_mem hs
      have h1 := (hp i hi).2
      have h2 := bulk_mem (l := (List.range len).map D) (d := D i) (List.mem_map.2 ⟨i, by simp; omega, rfl⟩)
      show _ ≤ Rows.uptoBulk (.slice _ _)
      omega
end Go.Proofs.Ytgdeomdnpgedbab

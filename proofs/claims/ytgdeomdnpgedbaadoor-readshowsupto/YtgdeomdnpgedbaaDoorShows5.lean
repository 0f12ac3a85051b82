/- How long a text may be, by the bulk of its datum. -/
import Derived.Test.YtgdeomdnpgedbaaDoorRows
import Derived.Test.YtgdeomdnpgedbaaDoorShows4
import Derived.Lib.ItoaLen
import Derived.ProofKit
import Derived.OpenShut
import Derived.ShutString
import Derived.ChangeOld
import Derived.Below
import Derived.Deep.Slices
import Derived.Lib.SmallJoins
namespace Go.Proofs.YtgdeomdnpgedbaaDoor
open Go.ChangeShapes Go.WideShapes Go.ChangeAt Go.RowKit
theorem cellsD : Tryd.prog.cellsOf 24 = 4 := by kernel_rfl
theorem cellsDs : Tryd.prog.cellsOf 22 = 1 := by kernel_rfl
theorem cellsS : Tryd.prog.cellsOf 9 = 1 := by kernel_rfl
theorem cellsI : Tryd.prog.cellsOf 3 = 1 := by kernel_rfl
theorem bulk_append {H : Type} (l r : List (DataW H)) : Rows.uptoBulkAll (l ++ r) = Rows.uptoBulkAll l + Rows.uptoBulkAll r := by
  induction l with
  | nil => simp [Rows.uptoBulkAll]
  | cons x l ih => simp only [List.cons_append, Rows.uptoBulkAll, ih]; omega
theorem joinTo_sum {H : Type} (f : Nat → List UInt8) (D : Nat → DataW H) : ∀ m, (∀ i, i < m → (f i).length + 1 ≤ 32 * Rows.uptoBulk (D i)) → (joinTo f m).length ≤ 32 * Rows.uptoBulkAll ((List.range m).map D)
  | 0, _ => by simp [joinTo]
  | m + 1, h => by
    have h1 := joinTo_sum f D m (fun i hi => h i (by omega))
    have h2 := h m (by omega)
    rw [List.range_succ, List.map_append, bulk_append]
    simp only [joinTo, List.length_append, List.map_cons, List.map_nil, Rows.uptoBulkAll]
    split <;> simp <;> omega
set_option maxRecDepth 100000 in
/-- One datum of a row, opened. -/
theorem item_of {H : Type} {enc : TypeId × Value → H} {W : World} {a : Addr} {m len n : Nat} {D : Nat → DataW H} {Pl : Nat → List MemPlace} (hlm : len ≤ m)
    (hel : ∀ i, i < m → ∃ cs', W.cells? 0 (a.add (i * Tryd.prog.cellsOf 24)) (Tryd.prog.cellsOf 24) = some cs' ∧ DataW.trod enc Tryd.prog W 0 (fun _ => true) true n 24 cs' = some (D i, Pl i)) (i : Nat) (hi : i < len) :
    ∃ b o k' n' s' v' y' n2, a = ⟨b, o, none⟩ ∧ b < W.heap.size ∧ W.cell? ⟨b, o + i * 4, none⟩ = some (.int .i64 k') ∧ W.cell? ⟨b, o + i * 4 + 1, none⟩ = some (.int .i64 n') ∧ W.cell? ⟨b, o + i * 4 + 2, none⟩ = some (.string s') ∧ W.cell? ⟨b, o + i * 4 + 3, none⟩ = some v' ∧
      s'.size ≤ maxLen ∧ DataW.trod enc Tryd.prog W 0 (fun _ => true) true n2 22 [v'] = some y' ∧ s'.size + 1 + Rows.uptoBulk y'.1 + 1 ≤ Rows.uptoBulk (D i) := by
  obtain ⟨cs', h1, h2⟩ := hel i (by omega)
  rw [cellsD] at h1
  obtain ⟨_, hlen, hcell⟩ := World.cells?_some h1
  obtain ⟨y0, y1, y2, y3, n', hD, _, t0, t1, t2, t3⟩ := Joins.trod_struct4 Tryd.underlying24 h2
  match cs', hlen with
  | [u0, u1, u2, u3], _ =>
    simp [cellsI, cellsS, cellsDs] at t0 t1 t2 t3
    obtain ⟨kk, e0, _, _⟩ := DataW.trod_int Tryd.underlying3 t0
    obtain ⟨nn, e1, _, _⟩ := DataW.trod_int Tryd.underlying3 t1
    obtain ⟨ss, e2, e2', hss⟩ := DataW.trod_string Tryd.underlying9 t2
    simp at e0 e1 e2
    subst e0 e1 e2
    have c0 := hcell 0 (by omega)
    have c1 := hcell 1 (by omega)
    have c2 := hcell 2 (by omega)
    have c3 := hcell 3 (by omega)
    rw [Deep.add_add] at c0 c1 c2 c3
    obtain ⟨b, off, spot⟩ := a
    have hspot : spot = none := by
      obtain ⟨cs0, h10, _⟩ := hel 0 (by omega)
      rw [cellsD] at h10
      obtain ⟨_, hlen0, hcell0⟩ := World.cells?_some h10
      have q0 := hcell0 0 (by omega)
      match cs0, hlen0 with
      | [z0, z1, z2, z3], _ => simpa [Addr.add] using World.cell?_spot (by simpa [Addr.add] using q0)
    subst hspot
    rw [add_plain] at c0 c1 c2 c3
    refine ⟨b, off, kk, nn, ss, u3, y3, n', rfl, World.block_lt_of_cell? _ _ c0, by simpa using c0, by simpa [Nat.add_assoc] using c1, by simpa [Nat.add_assoc] using c2, by simpa [Nat.add_assoc] using c3, hss, t3, ?_⟩
    have e : D i = .agg [y0.1, y1.1, y2.1, y3.1] := congrArg Prod.fst hD
    rw [e]
    have e2 : Rows.uptoBulk y2.1 = ss.size + 1 := by
      have h3 : y2 = (.lit (.string ss.data.toList), []) := e2'
      rw [h3]
      simp [Rows.uptoBulk]
    simp only [Rows.uptoBulk, Rows.uptoBulkAll, e2]
    omega
set_option maxRecDepth 100000 in
theorem fine_of {H : Type} {enc : TypeId × Value → H} {W : World} (d : Nat) : ∀ (fuel : Nat) (s : ByteArray) (v : Value) (y : DataW H × List MemPlace), s.size ≤ 9223372036854775807 →
    DataW.trod enc Tryd.prog W 0 (fun _ => true) true fuel 22 [v] = some y → ∃ a len cap, v = .slice a len cap ∧ Fine W W.heap.size d s a len := by
  induction d with
  | zero =>
    intro fuel s v y hs h
    rcases Deep.open_slice Tryd.underlying22 h with ⟨hcs, _⟩ | ⟨a, len, cap, m, n, D, Pl, hcs, _, hl, hm, _⟩
    · exact ⟨none, 0, 0, by simpa using hcs, hs, by omega⟩
    · exact ⟨some a, len, cap, by simpa using hcs, hs, by unfold maxLen at hm; omega⟩
  | succ d ih =>
    intro fuel s v y hs h
    rcases Deep.open_slice Tryd.underlying22 h with ⟨hcs, _⟩ | ⟨a, len, cap, m, n, D, Pl, hcs, _, hl, hm, hmm, _, hel⟩
    · exact ⟨none, 0, 0, by simpa using hcs, hs, by omega, fun i hi => absurd hi (by omega)⟩
    · refine ⟨some a, len, cap, by simpa using hcs, hs, by unfold maxLen at hm; omega, fun i hi => ?_⟩
      simp at hmm
      obtain ⟨b, o, k', n', s', v', y', n2, rfl, hb, c0, c1, c2, c3, hss, t, _⟩ := item_of (by omega) hel i hi
      obtain ⟨a', len', cap', rfl, hF⟩ := ih n2 s' v' y' (by unfold maxLen at hss; omega) t
      exact ⟨b, o, k', n', s', a', len', cap', rfl, hb, c0, c1, c2, c3, hF⟩
set_option maxRecDepth 100000 in
theorem bound_of {H : Type} {enc : TypeId × Value → H} {W : World} (d : Nat) : ∀ (fuel : Nat) (k n : Int) (s : ByteArray) (a : Option Addr) (len cap : Nat) (y : DataW H × List MemPlace),
    DataW.trod enc Tryd.prog W 0 (fun _ => true) true fuel 22 [.slice a len cap] = some y → fltI W d k n s a len = 0 → (txtI W d k n s a len).length ≤ 32 * (s.size + 1 + Rows.uptoBulk y.1) := by
  induction d with
  | zero => intro fuel k n s a len cap y _ h; exact absurd h (alone_deep k n s len)
  | succ d ih =>
    intro fuel k n s a len cap y h hf
    obtain ⟨hE, helm⟩ := flt_parts hf
    obtain ⟨_, hcase⟩ := alone_zero _ _ _ _ _ hE
    rcases hcase with ⟨rfl, hn, _, rfl⟩ | ⟨rfl, hn, _, rfl⟩ | ⟨rfl, hn, rfl, rfl⟩ | ⟨rfl, rfl, _⟩
    · have e : txtI W (d + 1) 1 n s a 0 = Lib.itoa n := rfl
      have hr : -1099511627776 ≤ n ∧ n ≤ 1099511627776 := by simpa [inI] using hn
      rw [e]
      have := Lib.itoa_length_le n (by omega) (by omega)
      omega
    · have e : txtI W (d + 1) 2 n s a 0 = boolT n := rfl
      rw [e]
      unfold boolT
      split <;> simp <;> omega
    · have e : txtI W (d + 1) 3 0 s a 0 = s.data.toList := rfl
      rw [e, size_toList]
      omega
    · have e : txtI W (d + 1) 4 0 s a len = [40] ++ joinTo (elemT W (txtI W d) a) len ++ [41] := rfl
      rw [e]
      rcases Deep.open_slice Tryd.underlying22 h with ⟨hcs, _⟩ | ⟨ad, len', cap', m, n', D, Pl, hcs, _, hl, hm, hmm, rfl, hel⟩
      · simp at hcs
        obtain ⟨_, rfl, _⟩ := hcs
        simp [joinTo]
        omega
      · simp at hcs hmm
        obtain ⟨rfl, rfl, rfl⟩ := hcs
        have hs := joinTo_sum (elemT W (txtI W d) (some ad)) D len (fun i hi => by
          obtain ⟨b, o, k', n'', s', v', y', n2, rfl, hb, c0, c1, c2, c3, hss, t, hbk⟩ := item_of (by omega) hel i hi
          obtain ⟨a', len', cap', rfl⟩ : ∃ a' len' cap', v' = .slice a' len' cap' := by
            obtain ⟨a', l', c', h'⟩ := Joins.slice_form Tryd.underlying22 t
            exact ⟨a', l', c', by simpa using h'⟩
          have hz := helm i hi
          rw [elemI_eq (fltI W d) c0 c1 c2 c3] at hz
          rw [elemT_eq (txtI W d) c0 c1 c2 c3]
          have := ih n2 k' n'' s' a' len' cap' y' t hz
          omega)
        simp only [Rows.uptoBulk]
        simp
        omega
end Go.Proofs.YtgdeomdnpgedbaaDoor

/- Raw things that came in, opened; what may be picked is found where it is. -/
import Derived.Test.YtfjfobpdlmdddaaHBuilt
import Derived.Test.YtfjfobpdlmdddaaHFindC
import Derived.Test.YtfjfobpdlmdddaaHFull
namespace Go.Proofs.Ytfjfobpdlmdddaa
set_option maxRecDepth 100000
open Go.ChangeShapes Go.WideShapes Go.ChangeAt Go.RowKit
theorem i64_of {n : Int} (h : wfI n) : i64B n := by
  simp [wfI, Lit.wf, IntKind.min, IntKind.max, IntKind.signed, IntKind.bits] at h
  exact ⟨by omega, by omega⟩
theorem no_moved {lim : Int} {l : List Wd} {acc : List Th} {ms : List (Int × Int)} (h : OkC lim l acc ms) (hn : ∀ t, t ∈ acc → ¬ kindAt l t.h = 10) : ms = [] := by
  rcases mv_spec h.chain acc [] rfl with ⟨ms', e1, e2, _⟩ | ⟨e1, _⟩
  · rw [h.moved] at e1
    injection e1 with e1
    subst e1
    cases ms with
    | nil => rfl
    | cons p r =>
      obtain ⟨t, ht, hk, _⟩ := (e2.keys p.1).1 (by simp [hasI])
      exact absurd hk (hn t ht)
  · rw [h.moved] at e1; cases e1
theorem okC_same {lim : Int} {l : List Wd} {acc acc' : List Th} {ms ms' : List (Int × Int)} (h : OkC lim l acc ms) (h' : OkC lim l acc' ms') : acc' = acc ∧ ms' = ms := by
  obtain ⟨rfl, _⟩ := h'.chain.ref.same h.chain.ref h'.chain.ref.full h.chain.ref.full
  have := h'.moved
  rw [h.moved] at this
  injection this with this
  exact ⟨rfl, this.symm⟩
theorem good_ok {l M : List Wd} (h : MadeI l M) : ¬ BadC 600 l := by
  obtain ⟨acc, ms, hok, _⟩ := h
  exact hok.not_bad
theorem good_find {l M : List Wd} {u : Wd} (h : MadeI l M) (hu : u ∈ M) {k' n' : Int} {s' : ByteArray} {r : Int} (hf : FdI 600 l u.k u.n u.s k' n' s' r) : k' = u.k ∧ n' = u.n ∧ s' = u.s ∧ r = 0 := by
  obtain ⟨acc, ms, hok, hn, hv⟩ := h
  rcases hf with ⟨acc', ms', h1, _, e1, e2, e3, e4⟩ | ⟨_, ⟨_, acc', ms', h1, h2⟩ | ⟨_, h1⟩⟩
  · obtain ⟨rfl, rfl⟩ := okC_same hok h1
    have := no_moved hok hn
    subst this
    refine ⟨e1, ?_, e3, e4⟩
    rw [e2]
    unfold atI fndI
    simp [hasI]
  · obtain ⟨rfl, rfl⟩ := okC_same hok h1
    rw [hv.1 u hu] at h2; cases h2
  · exact absurd h1 hok.not_bad
theorem good_cv {l M : List Wd} {u : Wd} (h : MadeI l M) (hu : u ∈ M) {r : Int} (hf : CvI 600 l u.k u.n u.s r) : r = 0 := by
  obtain ⟨acc, ms, hok, hn, hv⟩ := h
  rcases hf with ⟨h1, _⟩ | ⟨_, acc', ms', h1, h2⟩ | ⟨_, h1⟩
  · exact h1
  · obtain ⟨rfl, rfl⟩ := okC_same hok h1
    rw [hv.1 u hu] at h2; cases h2
  · exact absurd h1 hok.not_bad
theorem cellsRw : Try.prog.cellsOf 72 = 4 := by kernel_rfl
set_option maxRecDepth 100000 in
theorem raws_in {H : Type} {enc : TypeId × Value → H} {W : World} {v : Value} {d : DataW H} {p : List MemPlace} {base : Nat} (hv : Value.okWide Try.prog W .any base 33 v) (h : DataW.Trod enc Try.prog W 0 (fun _ => true) true 33 v d p) :
    ∃ a cap R, v = .slice a (List.length R) cap ∧ R.length ≤ 9223372036854775807 ∧ RawS W W.heap.size a R := by
  obtain ⟨a, n, c, rfl⟩ := okWide_slice Try.underlying33 hv
  obtain ⟨fuel, hf0⟩ := h
  have hf : DataW.trod enc Try.prog W 0 (fun _ => true) true fuel 33 [.slice a n c] = some (d, p) := by simpa [Value.cells] using hf0
  rcases Deep.open_slice Try.underlying33 hf with ⟨hcs, _⟩ | ⟨a, len, cap, m, n', D, Pl, hcs, _, hl, hm, hmm, _, hel⟩
  · simp at hcs
    obtain ⟨rfl, rfl, rfl⟩ := hcs
    exact ⟨none, 0, [], rfl, by simp, fun i hi => absurd hi (by simp)⟩
  · simp at hmm
    have hone : ∀ i, i < len → ∃ s : Rw4, (∃ b o, (some a = some ⟨b, o, none⟩) ∧ b < W.heap.size ∧ W.cell? ⟨b, o + i * 4, none⟩ = some (.int .i64 s.k) ∧ W.cell? ⟨b, o + i * 4 + 1, none⟩ = some (.int .i64 s.a) ∧ W.cell? ⟨b, o + i * 4 + 2, none⟩ = some (.int .i64 s.b) ∧ W.cell? ⟨b, o + i * 4 + 3, none⟩ = some (.int .i64 s.c)) ∧ i64B s.k ∧ i64B s.a ∧ i64B s.b ∧ i64B s.c := by
      intro i hi
      obtain ⟨cs', h1, h2⟩ := hel i (by omega)
      rw [cellsRw] at h1
      obtain ⟨_, hlen, hcell⟩ := World.cells?_some h1
      obtain ⟨y0, y1, y2, y3, n'', _, _, t0, t1, t2, t3⟩ := Joins.trod_struct4 Try.underlying72 h2
      match cs', hlen with
      | [u0, u1, u2, u3], _ =>
        simp [cellsI] at t0 t1 t2 t3
        obtain ⟨k0, e0, _, g0⟩ := DataW.trod_int Try.underlying3 t0
        obtain ⟨k1, e1, _, g1⟩ := DataW.trod_int Try.underlying3 t1
        obtain ⟨k2, e2, _, g2⟩ := DataW.trod_int Try.underlying3 t2
        obtain ⟨k3, e3, _, g3⟩ := DataW.trod_int Try.underlying3 t3
        simp at e0 e1 e2 e3
        subst e0 e1 e2 e3
        have c0 := hcell 0 (by omega)
        have c1 := hcell 1 (by omega)
        have c2 := hcell 2 (by omega)
        have c3 := hcell 3 (by omega)
        rw [Deep.add_add] at c0 c1 c2 c3
        obtain ⟨b, off, spot⟩ := a
        have hspot : spot = none := by
          obtain ⟨cs0, h10, _⟩ := hel 0 (by omega)
          rw [cellsRw] at h10
          obtain ⟨_, hlen0, hcell0⟩ := World.cells?_some h10
          have q0 := hcell0 0 (by omega)
          match cs0, hlen0 with
          | [z0, z1, z2, z3], _ => simpa [Addr.add] using World.cell?_spot (by simpa [Addr.add] using q0)
        subst hspot
        rw [add_plain] at c0 c1 c2 c3
        exact ⟨⟨k0, k1, k2, k3⟩, ⟨b, off, rfl, World.block_lt_of_cell? _ _ c0, by simpa using c0, by simpa [Nat.add_assoc] using c1, by simpa [Nat.add_assoc] using c2, by simpa [Nat.add_assoc] using c3⟩, i64_of g0, i64_of g1, i64_of g2, i64_of g3⟩
    obtain ⟨R, hll, hp⟩ := exists_list len hone
    simp at hcs
    obtain ⟨rfl, rfl, rfl⟩ := hcs
    exact ⟨some a, c, R, by rw [hll], by unfold maxLen at hm; omega, hp⟩
end Go.Proofs.Ytfjfobpdlmdddaa

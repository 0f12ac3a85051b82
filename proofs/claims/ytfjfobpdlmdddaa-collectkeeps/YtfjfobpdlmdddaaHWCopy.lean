/- The document's wordsCopy: new memory. -/
import Derived.Test.YtfjfobpdlmdddaaHChecks
import Derived.Deep.AppendLies
namespace Go.Proofs.Ytfjfobpdlmdddaa
set_option maxRecDepth 100000
open Go.RowKit Go.Maps
/-- A row of words: where it lies, its capacity, the words. -/
structure Rw where
  a : Option Addr
  cap : Nat
  l : List Wd
def Rws (w : World) (B : Nat) (p : Option Addr) (L : List Rw) : Prop :=
  ∀ i (h : i < L.length), (∃ b o, p = some ⟨b, o, none⟩ ∧ b < B ∧ w.cell? ⟨b, o + i, none⟩ = some (.slice L[i].a L[i].l.length L[i].cap)) ∧ Wds w B L[i].a L[i].l
theorem Rws.below {w w' : World} {B : Nat} {p : Option Addr} {L : List Rw} (h : Rws w B p L) (hb : Below B w w') : Rws w' B p L := by
  intro i hi
  obtain ⟨⟨b, o, h1, h2, h3⟩, h4⟩ := h i hi
  exact ⟨⟨b, o, h1, h2, (hb.cell (p := ⟨b, _, none⟩) h2).trans h3⟩, h4.below hb⟩
def flat (L : List Rw) : List Wd := (L.map fun r => r.l).flatten
theorem flat_snoc (L : List Rw) (i : Nat) (h : i < L.length) : flat (L.take (i + 1)) = flat (L.take i) ++ L[i].l := by
  unfold flat
  rw [List.take_succ_eq_append_getElem h, List.map_append, List.flatten_append]
  simp only [List.map_cons, List.map_nil, List.flatten_cons, List.flatten_nil, List.append_nil]
theorem flat_le (L : List Rw) (i : Nat) (h : i < L.length) (k : Nat) (hk : k ≤ L[i].l.length) : (flat (L.take i) ++ L[i].l.take k).length ≤ (flat L).length := by
  have h1 : flat L = flat (L.take i) ++ (L[i].l ++ flat (L.drop (i + 1))) := by
    unfold flat
    have e : L = L.take i ++ (L[i] :: L.drop (i + 1)) := by simp
    conv => lhs; rw [e]
    rw [List.map_append, List.flatten_append, List.map_cons, List.flatten_cons]
  rw [h1]
  simp
  omega
/-- Words in a row of one's own. -/
def WdL (w : World) (B : Nat) (v : Value) (l : List Wd) : Prop := w.ownsRow B 37 3 v l.length (wcs l)
theorem WdL.nil (w : World) (B : Nat) : WdL w B (.slice none 0 0) [] := ⟨rfl, Or.inl ⟨rfl, rfl⟩⟩
theorem WdL.cells {w : World} {B : Nat} {v : Value} {l : List Wd} (h : WdL w B v l) : ∃ a cap, v = .slice a l.length cap ∧ l.length ≤ cap ∧ Wds w w.heap.size a l ∧ NewAt B a ∧ ∀ A, a = some A → ∀ j, w.frozen? ⟨A.block, j, none⟩ = false := by
  rcases h.2 with ⟨rfl, h0⟩ | ⟨g, cap, cur, rfl, hb, hc, hn, hm, hcs, hcut⟩
  · have : l = [] := List.length_eq_zero_iff.1 h0
    subst this
    exact ⟨none, 0, rfl, Nat.le_refl _, fun i hi => absurd hi (by simp), (fun A h => by cases h), (fun A h => by cases h)⟩
  · refine ⟨_, cap, rfl, hn, ?_, fun A h => by injection h with h; subst h; exact hb, fun A h j => by injection h with h; subst h; simp [World.frozen?, hc]⟩
    have hg : g < w.heap.size := by
      rcases Nat.lt_or_ge g w.heap.size with h' | h'
      · exact h'
      · rw [Array.getElem?_eq_none h'] at hc; cases hc
    refine Wds.made hg (fun j hj => ?_)
    rw [Nat.zero_add, show w.cell? ⟨g, j, none⟩ = cur[j]? by simp [World.cell?, hc], ← hcut, List.getElem?_take_of_lt hj]
    simp
theorem WdL.keep {w w' : World} {B : Nat} {v : Value} {l : List Wd} (h : WdL w B v l) (hk : ∀ b, v.ownBlock = some b → w'.heap[b]? = w.heap[b]?) : WdL w' B v l := ownsRow_keep h hk
theorem WdL.own_lt {w : World} {B : Nat} {v : Value} {l : List Wd} (h : WdL w B v l) {g : Nat} (hg : v.ownBlock = some g) : B ≤ g ∧ g < w.heap.size := ownsRow_lt h hg
theorem news3v (w : World) (u0 u1 u2 : Value) (ty : TypeId) : ∀ j u, [u0, u1, u2][j]? = some u → (w.alloc (.cells #[u0, u1, u2] ty)).cell? ((⟨w.heap.size, 0, none⟩ : Addr).add j) = some u := fun j u hj => by
  have hadd : (⟨w.heap.size, 0, none⟩ : Addr).add j = ⟨w.heap.size, j, none⟩ := by unfold Addr.add; split <;> simp_all
  rw [hadd, World.cell?_alloc_at _ _ _ j (by simp)]
  simpa using hj
theorem take_snoc {l : List Wd} {q : Nat} (h : q < l.length) : l.take (q + 1) = l.take q ++ [l[q]] := List.take_succ_eq_append_getElem h
set_option maxHeartbeats 4000000 in
theorem wordsCopy_any (w : World) (B : Nat) (p : Option Addr) (n capp : Nat) (L : List Rw) (hR : Rws w B p L) (hB : B ≤ w.heap.size) (hn : n = L.length) (hl : (flat L).length ≤ 4000000) (hn2 : n ≤ 1000) :
    Calls Try.prog 47 #[.slice p n capp] w fun e w' => ∃ v, e = .returned v ∧ WdL w' w.heap.size v (flat L) ∧ Below w.heap.size w w' := by
  have HN := hid hn
  clear hn
  obtain ⟨i0, hi, iz0, iz1, iz2⟩ := info_parts infoWd
  have HI := hid hi
  have HZ0 := hid iz0
  have HZ1 := hid iz1
  have HZ2 := hid iz2
  clear hi iz0 iz1 iz2
  go_enter Try.func47, Try.ntmps47
  go_wp2_with fail
  go_loopw [3, 4] (fun v i wr => ∃ k : Nat, k ≤ n ∧ i = .int .i64 k ∧ WdL wr w.heap.size v (flat (L.take k)) ∧ Below w.heap.size w wr) (fun _ i _ => n - (intOf i).toNat)
  case atStart => exact ⟨0, Nat.zero_le _, rfl, by simpa [flat] using WdL.nil w w.heap.size, Below.refl _ _⟩
  case round =>
    obtain ⟨k, hk, rfl, hv, hbr⟩ := hrel
    have HV := hid hv
    have HB := hid hbr
    clear hv
    by_cases hlt : k < n
    · have hlt2 : (k : Int) < n := by omega
      have hk2 : k < L.length := by rw [← HN.out]; exact hlt
      have hRk := hR k hk2
      have HF := hid (flat_le L k hk2)
      have HS := hid (flat_snoc L k hk2)
      obtain ⟨⟨b, o, rfl, hbB, c0⟩, hWk⟩ := hRk
      generalize L[k].a = ra at *
      generalize L[k].cap = rc at *
      generalize L[k].l = rl at *
      obtain ⟨len, hlen⟩ : ∃ len, len = rl.length := ⟨_, rfl⟩
      rw [← hlen] at c0
      have HLn := hid hlen
      clear hlen
      have hlen4 : len ≤ 4000000 := by have := HF.out len (by rw [HLn.out]; exact Nat.le_refl _); rw [HLn.out] at this ⊢; simp at this; omega
      obtain ⟨F0, hF0⟩ : ∃ F0, F0 = flat (L.take k) := ⟨_, rfl⟩
      rw [← hF0] at HV HF HS
      clear hF0
      go_wp2_with fail
      go_loopw [3, 5] (fun v j wi => ∃ q : Nat, q ≤ len ∧ j = .int .i64 q ∧ WdL wi w.heap.size v (F0 ++ rl.take q) ∧ Below w.heap.size w wi) (fun _ j _ => len - (intOf j).toNat)
      case atStart => exact ⟨0, Nat.zero_le _, rfl, by simpa using HV.out, HB.out⟩
      case round =>
        obtain ⟨q, hq, rfl, hv, hbi⟩ := hrel
        have HVi := hid hv
        have HBi := hid hbi
        have c1 := (hbi.cell (p := ⟨b, o + k, none⟩) (by dsimp only; omega)).trans c0
        clear hv
        by_cases hql : q < len
        · have hql2 : (q : Int) < len := by omega
          have hq2 : q < rl.length := by rw [← HLn.out]; exact hql
          have HTk := hid (take_snoc hq2)
          have hDl := HF.out q (by omega)
          obtain ⟨bb, o2, rfl, hbb, d0, d1, d2⟩ := hWk.below (hbi.mono hB) q hq2
          obtain ⟨D, hD⟩ : ∃ D, D = F0 ++ rl.take q := ⟨_, rfl⟩
          rw [← hD] at HVi hDl
          have HE := hid (show F0 ++ rl.take (q + 1) = D ++ [⟨rl[q].k, rl[q].n, rl[q].s⟩] by rw [HTk.out, hD, List.append_assoc])
          generalize rl[q].k = kk at *
          generalize rl[q].n = nn at *
          generalize rl[q].s = ss at *
          obtain ⟨Wa, hWa⟩ : ∃ Wa, Wa = wr.alloc (.cells #[.int .i64 kk, .int .i64 nn, .string ss] 37) := ⟨_, rfl⟩
          have hBa : Below wr.heap.size wr Wa := by rw [hWa]; exact (Below.refl _ _).alloc (Nat.le_refl _) _
          have hza : Wa.heap.size = wr.heap.size + 1 := by rw [hWa]; simp
          have hel := news3v wr (.int .i64 kk) (.int .i64 nn) (.string ss) 37
          rw [← hWa] at hel
          have HEl := hid hel
          have HOwn := hid (HVi.out.keep (w' := Wa) (fun x hx => hBa.block x (HVi.out.own_lt hx).2))
          have HWa := hid hWa
          have HBa := hid hBa
          have hzi := hbi.size
          clear hel hWa hBa hD hbi
          go_wp2_with (at_builtin; rw [← HWa.out]; refine wpList_append_lies _ rfl (.tmp 21) (.tmp 29) 22 rfl w.heap.size 37 i0 (.agg #[.int .i64 0, .int .i64 0, .string ⟨#[]⟩]) 3 32 Try.underlying22 HI.out HZ0.out HZ1.out HZ2.out rfl (by decide) _ D.length (wcs D) rfl HOwn.out ⟨wr.heap.size, 0, none⟩ 1 1 [.int .i64 kk, .int .i64 nn, .string ss] rfl rfl HEl.out (by simp [Value.oneCell']) (by decide) (by unfold maxLen; omega) (by omega) (by omega) _ rfl ?_; intro g cap3 w3 hown3 hgrow3 hat3 hlt3)
          have hB3 := hid ((HBi.out.trans (HBa.out.mono hzi)).grown hgrow3 (by omega) (fun j hj => (HVi.out.own_lt hj).1))
          have HV3 := hid (show WdL w3 w.heap.size (.slice (some ⟨g, 0, none⟩) (D.length + 1) cap3) (D ++ [⟨kk, nn, ss⟩]) by
            unfold WdL; rw [wcs_append, List.length_append]; exact hown3)
          clear hown3 hgrow3 hat3
          go_wp2_with fail
          go_roundw
          case rel => exact ⟨q + 1, by omega, by go_num, by rw [HE.out]; exact HV3.out, hB3.out⟩
          case measure => simp [intOf]; omega
        · have hql2 : ¬ (q : Int) < len := by omega
          have HV2 := hid (show WdL wr w.heap.size _ (F0 ++ rl) by have h := HVi.out; rw [List.take_of_length_le (by have := HLn.out; omega)] at h; exact h)
          clear hbi
          go_wp2_with fail
          go_roundw
          case rel => exact ⟨k + 1, by omega, by go_num, by rw [HS.out]; exact HV2.out, HBi.out⟩
          case measure => simp [intOf]; omega
    · have hlt2 : ¬ (k : Int) < n := by omega
      have hkn : L.take k = L := List.take_of_length_le (by rw [← HN.out]; omega)
      have HV2 := hid (show WdL wr w.heap.size _ (flat L) by have h := HV.out; rw [hkn] at h; exact h)
      clear hkn
      go_wp2_with fail
      go_ret
      exact ⟨_, rfl, HV2.out, HB.out⟩
end Go.Proofs.Ytfjfobpdlmdddaa

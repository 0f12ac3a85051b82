/- The document's texts: rows of texts in one row. -/
import Derived.Test.YteblglkmkakcjaaCRows
namespace Go.Proofs.Yteblglkmkakcjaa
set_option maxRecDepth 100000
open Go.RowKit Go.WideMaps Go.Maps
theorem Rss.below {w w' : World} {B : Nat} {p : Option Addr} {L : List Rs} (h : Rss w B p L) (hb : Below B w w') : Rss w' B p L := by
  intro i hi
  obtain ⟨⟨b, o, h1, h2, h3⟩, h4⟩ := h i hi
  exact ⟨⟨b, o, h1, h2, (hb.cell (p := ⟨b, _, none⟩) h2).trans h3⟩, h4.below hb⟩
set_option maxHeartbeats 4000000 in
theorem texts_str (w : World) (B : Nat) (p : Option Addr) (n capp : Nat) (L : List Rs) (hR : Rss w B p L) (hB : B ≤ w.heap.size) (hn : n = L.length) (hl : (flatS L).length ≤ 60000) (hn2 : n ≤ 1000) :
    Calls Try.prog 21 #[.slice p n capp] w fun e w' => ∃ v, e = .returned v ∧ SL w' w.heap.size v (flatS L) ∧ Below w.heap.size w w' := by
  have HN := hid hn
  clear hn
  obtain ⟨i0, hi, iz0, iz1, iz2⟩ := info_parts infoStr
  have HI := hid hi
  have HZ0 := hid iz0
  have HZ1 := hid iz1
  have HZ2 := hid iz2
  clear hi iz0 iz1 iz2
  have HT := hid hl
  clear hl
  go_enter Try.func21, Try.ntmps21
  go_wp2_with fail
  go_loopw [3, 4] (fun v i wr => ∃ k : Nat, k ≤ n ∧ i = .int .i64 k ∧ SL wr w.heap.size v (flatS (L.take k)) ∧ Below w.heap.size w wr) (fun _ i _ => n - (intOf i).toNat)
  case atStart => exact ⟨0, Nat.zero_le _, rfl, by simpa [flatS] using SL.nil w w.heap.size, Below.refl _ _⟩
  case round =>
    obtain ⟨k, hk, rfl, hv, hbr⟩ := hrel
    by_cases hlt : k < n
    · have hlt2 : (k : Int) < n := by omega
      have hk2 : k < L.length := by rw [← HN.out]; exact hlt
      have hRk := hR k hk2
      have HS := hid (flatS_snoc L k hk2)
      have hle := flatS_le L k hk2
      have hT2 : (flatS (L.take k)).length + L[k].l.length ≤ 60000 := by have := HT.out; omega
      obtain ⟨⟨b, o, rfl, hbB, c0⟩, hWk⟩ := hRk
      obtain ⟨F0, hF0⟩ : ∃ F0, F0 = flatS (L.take k) := ⟨_, rfl⟩
      rw [← hF0] at hv hle HS hT2
      clear hF0 hle
      generalize L[k].a = ra at *
      generalize L[k].cap = rc at *
      generalize L[k].l = rl at *
      obtain ⟨len, hlen⟩ : ∃ len, len = rl.length := ⟨_, rfl⟩
      rw [← hlen] at c0 hT2
      have HLn := hid hlen
      clear hlen
      have HV := hid hv
      have HBr := hid hbr
      clear hv hbr
      go_wp2_with fail
      go_loopw [3, 5] (fun v i wr => ∃ q : Nat, q ≤ len ∧ i = .int .i64 q ∧ SL wr w.heap.size v (F0 ++ rl.take q) ∧ Below w.heap.size w wr) (fun _ i _ => len - (intOf i).toNat)
      case atStart => exact ⟨0, Nat.zero_le _, rfl, by simpa using HV.out, HBr.out⟩
      case round =>
        obtain ⟨q, hq, rfl, hv, hbq⟩ := hrel
        have hz := hbq.size
        have c1 := (hbq.cell (p := ⟨b, o + k, none⟩) (by dsimp only; omega)).trans c0
        by_cases hlq : q < len
        · have hlq2 : (q : Int) < len := by omega
          have hq2 : q < rl.length := by rw [← HLn.out]; exact hlq
          obtain ⟨hys, b2, o2, rfl, hbB2, hcs⟩ := (hWk.below (hbq.mono hB)) q hq2
          have HT2 : Hid (F0 ++ rl.take (q + 1) = (F0 ++ rl.take q) ++ [rl[q]]) := hid (by rw [List.take_succ_eq_append_getElem hq2, List.append_assoc])
          have hml : (F0 ++ rl.take q).length = F0.length + q := by simp; omega
          generalize rl[q]'hq2 = y at hcs HT2
          have hv2 : World.ownsRow wr w.heap.size 9 1 _ (F0 ++ rl.take q).length ((F0 ++ rl.take q).map Value.string) := hv
          rw [hml] at hv2
          have HRow := hid (rowKeep (w' := wr.alloc (.cells #[.string y] 9)) hv2 (fun b hb => ((Below.refl wr.heap.size wr).alloc (Nat.le_refl _) _).block b (rowLt hv2 hb).2))
          have HX := hid (fun v' w' (h : World.ownsRow w' w.heap.size 9 1 v' (F0.length + q + 1) ((F0 ++ rl.take q).map Value.string ++ [.string y])) => (by
              unfold SL; rw [HT2.out, List.map_append, List.length_append, hml]; exact h : SL w' w.heap.size v' (F0 ++ rl.take (q + 1))))
          have HOL := hid (fun j hj => (rowLt hv (g := j) hj).1)
          have HBq := hid hbq
          have hbl : b < wr.heap.size := by omega
          have hbl2 : b2 < wr.heap.size := by omega
          clear hv hv2 hml hbq
          go_wp2_with (at_builtin; refine wpList_append_lies _ rfl _ _ 25 rfl w.heap.size 9 i0 (.string ⟨#[]⟩) 1 16 Try.underlying25 HI.out HZ0.out HZ1.out HZ2.out rfl (by decide) _ _ _ rfl HRow.out ⟨wr.heap.size, 0, none⟩ 1 1 [.string y] rfl rfl (cell_one_new _ _ _) (by simp [Value.oneCell']) (by decide) (by unfold maxLen; omega) (by omega) (by simp; omega) _ rfl ?_; intro g3 cap3 w3 hown3 hgrow3 hat3 hlt3)
          go_wp2_with fail
          go_roundw
          case rel => exact ⟨q + 1, by omega, by go_num, HX.out _ _ hown3, (HBq.out.alloc hz _).grown hgrow3 (by simp; omega) (fun j hj => HOL.out j hj)⟩
          case measure => simp [intOf]; omega
        · obtain rfl : q = len := by omega
          have hlq2 : ¬ (q : Int) < q := by omega
          have HT2 : Hid (rl.take q = rl) := hid (List.take_of_length_le (by rw [← HLn.out]; exact Nat.le_refl _))
          rw [HT2.out] at hv
          have HV2 := hid hv
          have HBq := hid hbq
          clear hv hbq
          go_wp2_with fail
          go_roundw
          case rel => exact ⟨k + 1, by omega, by go_num, by rw [HS.out]; exact HV2.out, HBq.out⟩
          case measure => simp [intOf]; omega
    · have hlt2 : ¬ (k : Int) < n := by omega
      have hkn : L.take k = L := List.take_of_length_le (by rw [← HN.out]; omega)
      rw [hkn] at hv
      have HV2 := hid hv
      have HBr := hid hbr
      clear hkn hv hbr
      go_wp2_with fail
      go_ret
      exact ⟨_, rfl, HV2.out, HBr.out⟩
end Go.Proofs.Yteblglkmkakcjaa

/- Rows of words in one row: slices.Grow, slices.Concat. -/
import Derived.Test.YtfjfobpdlmdddaaHWCopy
import Derived.Lib.AppendZeros
import Derived.Deep.LoopGhost
namespace Go.Proofs.Ytfjfobpdlmdddaa
set_option maxRecDepth 100000
open Go.RowKit Go.Maps
theorem wdL_zeros {w : World} {n : Nat} {cells : Array Value} {cap : Nat} (hc : cells.size = cap * 3) (h63 : cap ≤ maxLen) (_hn : n ≤ cap) : WdL (w.drew.alloc (.cells cells 37)) w.heap.size (.slice (some ⟨w.heap.size, 0, none⟩) 0 cap) [] := by
  refine ⟨rfl, Or.inr ⟨w.heap.size, cap, cells, rfl, Nat.le_refl _, ?_, Nat.zero_le _, h63, hc, by simp [wcs]⟩⟩
  have := World.alloc_heap_new w.drew (.cells cells 37)
  exact this
set_option maxHeartbeats 2000000 in
theorem Grow_any (w : World) (n : Nat) (hn : 0 < n) (hl : n ≤ 60000) :
    Calls Try.prog 52 #[.slice none 0 0, .int .i64 n] w fun e w' => ∃ v, e = .returned v ∧ WdL w' w.heap.size v [] ∧ (∃ g cap, v = .slice (some ⟨g, 0, none⟩) 0 cap) ∧ Below w.heap.size w w' := by
  obtain ⟨i0, hi, iz0, iz1, iz2⟩ := info_parts infoWd
  have hrun := Lib.run_append_nil_zeros (P := Try.prog) w 22 3 22 37 i0 _ .i64 .i64 Try.underlying22 Try.underlying3 hi iz0 n hn (by rw [iz1]; omega) (by omega) (by rw [iz2]; omega)
  have hcap := grownCap_ge w n 0 37
  have hmax := grownCap_le_maxLen w n 0 37 (by unfold maxLen; omega)
  generalize grownCap w n 0 37 = cp at hrun hcap hmax
  obtain ⟨cells, hcells⟩ : ∃ cells, cells = Builtin.zeroCells (Value.agg #[.int .i64 0, .int .i64 0, .string ⟨#[]⟩]).cells n ++ Builtin.zeroCells (Value.agg #[.int .i64 0, .int .i64 0, .string ⟨#[]⟩]).cells (cp - n) := ⟨_, rfl⟩
  rw [← hcells] at hrun
  have hsz : cells.size = cp * 3 := by
    rw [hcells, Array.size_append, size_zeroCells, size_zeroCells, show (Value.agg #[.int .i64 0, .int .i64 0, .string ⟨#[]⟩]).cells.size = 3 from rfl]
    omega
  have HW := hid (wdL_zeros (w := w) (n := n) hsz hmax hcap)
  have HB := hid ((bdrew (Below.refl w.heap.size w) 1).alloc (Nat.le_refl _) (.cells cells 37))
  have HRun := hid hrun
  have hcp : (0 : Int) ≤ cp := by omega
  have hn1 : (0 : Int) < n := by omega
  have hn2 : (n : Int) ≤ 60000 := by omega
  clear hrun hcells hsz hi iz0 iz1 iz2 hmax hcap
  go_enter Try.func52, Try.ntmps52
  go_wp2_with (at_builtin; refine Lib.wpList_append_run _ rfl _ _ 22 3 rfl (.slice none 0 0) (.int .i64 n) rfl rfl _ _ HRun.out ?_)
  go_ret
  exact ⟨_, rfl, HW.out, ⟨_, _, rfl⟩, HB.out⟩
theorem append_nothing (w : World) (g n cap c : Nat) (a : Option Addr) (ty : TypeId) (hn : n ≤ cap) :
    (Builtin.append_ #[22, 22] ty #[.slice (some ⟨g, 0, none⟩) n cap, .slice a 0 c]).run Try.prog w = .ok (.slice (some ⟨g, 0, none⟩) n cap) w := by
  obtain ⟨i0, hi, iz0, iz1, iz2⟩ := info_parts infoWd
  have h0 : Wds w 0 a [] := fun i hi => absurd hi (by simp)
  have hsrc := h0.src (P := Try.prog) (tx := 22) Try.underlying22 c
  rw [← iz1] at hsrc
  have h := run_append_room_src (P := Try.prog) (w := w) 22 22 ty 37 i0 Try.underlying22 hi g 0 n cap (.slice a 0 c) 0 [] hsrc (by omega) (fun j hj => by simp at hj) (fun j hj => by simp at hj)
  simpa [World.setCells] using h
set_option maxHeartbeats 4000000 in
theorem Concat_any (w : World) (B : Nat) (p : Option Addr) (n capp : Nat) (L : List Rw) (hR : Rws w B p L) (hB : B ≤ w.heap.size) (hn : n = L.length) (hl : (flat L).length ≤ 60000) (hpos : 0 < (flat L).length) (hn2 : n ≤ 1000) :
    Calls Try.prog 34 #[.slice p n capp] w fun e w' => ∃ v, e = .returned v ∧ WdL w' w.heap.size v (flat L) ∧ Below w.heap.size w w' := by
  have HN := hid hn
  clear hn
  obtain ⟨i0, hi, iz0, iz1, iz2⟩ := info_parts infoWd
  have HI := hid hi
  have HZ0 := hid iz0
  have HZ1 := hid iz1
  have HZ2 := hid iz2
  clear hi iz0 iz1 iz2
  obtain ⟨T, hT⟩ : ∃ T, T = (flat L).length := ⟨_, rfl⟩
  rw [← hT] at hl hpos
  have HT := hid hT
  clear hT
  have HG := hid (Grow_any w T hpos hl)
  go_enter Try.func34, Try.ntmps34
  go_wp2_with fail
  go_loop [3, 5, 11] (fun sz _ i => ∃ k : Nat, k ≤ n ∧ i = .int .i64 k ∧ sz = .int .i64 ((flat (L.take k)).length : Nat)) (fun _ _ i => n - (intOf i).toNat)
  case atStart => exact ⟨0, Nat.zero_le _, rfl, rfl⟩
  case round =>
    obtain ⟨k, hk, rfl, rfl⟩ := hrel
    by_cases hlt : k < n
    · have hlt2 : (k : Int) < n := by omega
      have hk2 : k < L.length := by rw [← HN.out]; exact hlt
      obtain ⟨⟨b, o, rfl, hbB, c0⟩, hWk⟩ := hR k hk2
      have hs := congrArg List.length (flat_snoc L k hk2)
      rw [List.length_append] at hs
      have hle := flat_le L k hk2 L[k].l.length (Nat.le_refl _)
      rw [List.length_append, List.length_take, Nat.min_self] at hle
      have hT2 := HT.out
      have HS := hid hs
      obtain ⟨q, hq⟩ : ∃ q, q = (flat (L.take k)).length := ⟨_, rfl⟩
      obtain ⟨r, hr⟩ : ∃ r, r = L[k].l.length := ⟨_, rfl⟩
      rw [← hr] at c0
      rw [← hq, ← hr] at hle HS
      rw [← hq]
      have hq6 : (q : Int) + r ≤ 60000 := by omega
      clear hs hq hr hT2 hWk
      generalize L[k].a = ra at c0
      generalize L[k].cap = rc at c0
      go_wp2_with fail
      go_round
      case rel => exact ⟨k + 1, by omega, by go_num, by rw [HS.out]; go_num⟩
      case measure => simp [intOf]; omega
    · have hlt2 : ¬ (k : Int) < n := by omega
      have hkn : L.take k = L := List.take_of_length_le (by rw [← HN.out]; omega)
      rw [hkn, ← HT.out]
      clear hkn
      go_wp2_with fail
      have hcall := HG.out
      go_fit hcall
      clear hcall
      rintro e w1 ⟨v, rfl, hv, ⟨g, cap, rfl⟩, hb1⟩
      have HV := hid hv
      have HB1 := hid hb1
      clear hv hb1
      go_wp2_with fail
      clear hlt2 hlt hk
      go_loopw [6, 8, 27] (fun v _ i wr => ∃ k : Nat, k ≤ n ∧ i = .int .i64 k ∧ WdL wr w.heap.size v (flat (L.take k)) ∧ (∃ g m cap, v = .slice (some ⟨g, 0, none⟩) m cap) ∧ Below w.heap.size w wr) (fun _ _ i _ => n - (intOf i).toNat)
      case atStart => exact ⟨0, Nat.zero_le _, rfl, by simpa [flat] using HV.out, ⟨_, _, _, rfl⟩, HB1.out⟩
      case round =>
        obtain ⟨k, hk, rfl, hv, ⟨g', m', cap', rfl⟩, hbr⟩ := hrel
        by_cases hlt : k < n
        · have hlt2 : (k : Int) < n := by omega
          have hk2 : k < L.length := by rw [← HN.out]; exact hlt
          obtain ⟨⟨b, o, rfl, hbB, c0⟩, hWk⟩ := hR k hk2
          have hs := flat_snoc L k hk2
          have hle := flat_le L k hk2 L[k].l.length (Nat.le_refl _)
          rw [List.length_append, List.length_take, Nat.min_self] at hle
          have hT2 : (flat (L.take k)).length + L[k].l.length ≤ 60000 := by have := HT.out; omega
          have hWk2 := hWk.below (hbr.mono hB)
          have c1 := (hbr.cell (p := ⟨b, o + k, none⟩) (by dsimp only; omega)).trans c0
          have HS := hid hs
          obtain ⟨F0, hF0⟩ : ∃ F0, F0 = flat (L.take k) := ⟨_, rfl⟩
          rw [← hF0] at hv hle HS hT2
          clear hs hF0 c0 hWk hle
          generalize L[k].a = ra at *
          generalize L[k].cap = rc at *
          generalize L[k].l = rl at *
          have hzr := hbr.size
          have HBr := hid hbr
          obtain ⟨_, _, hveq, hm1, _⟩ := hv.cells
          injection hveq with haa hmm hcc
          have hm2 : m' ≤ cap' := by omega
          clear haa hmm hcc hm1
          cases rl with
          | nil =>
            have HV2 := hid (show WdL wr w.heap.size (.slice (some ⟨g', 0, none⟩) m' cap') (F0 ++ []) by rw [List.append_nil]; exact hv)
            have hrun := fun ty => append_nothing wr g' m' cap' rc ra ty (by omega)
            have HRun := hid hrun
            clear hrun hv hbr hWk2
            go_wp2_with (at_builtin; refine Lib.wpList_append_run _ rfl _ _ 22 22 rfl _ _ rfl rfl _ _ (HRun.out _) ?_)
            go_wp2_with fail
            go_roundw
            case rel =>
              exact ⟨k + 1, by omega, by go_num, by rw [HS.out]; exact HV2.out, ⟨_, _, _, rfl⟩, HBr.out⟩
            case measure => simp [intOf]; omega
          | cons x r =>
            obtain ⟨bb, o2, rfl, hbb, hx0⟩ := hWk2 0 (by simp)
            clear hx0
            have hel : ∀ j u, (wcs (x :: r))[j]? = some u → wr.cell? ((⟨bb, o2, none⟩ : Addr).add j) = some u := fun j u hu => by rw [Addr.add_lit]; exact hWk2.at j u hu
            have HEl := hid hel
            have HOwn := hid hv
            have HOne := hid (wcs_one (x :: r))
            obtain ⟨rn, hrn⟩ : ∃ rn, rn = (x :: r).length := ⟨_, rfl⟩
            have HLn := hid (show (wcs (x :: r)).length = rn * 3 by rw [wcs_length, hrn])
            have HX := hid (fun v' w' (h : World.ownsRow w' w.heap.size 37 3 v' (F0.length + rn) (wcs F0 ++ wcs (x :: r))) => (by
              unfold WdL; rw [wcs_append, List.length_append, ← hrn]; exact h : WdL w' w.heap.size v' (F0 ++ (x :: r))))
            rw [← hrn] at c1 hT2
            have hown_lt := fun j hj => (hv.own_lt (g := j) hj).1
            have HOL := hid hown_lt
            clear hel hv hrn hWk2 hbr hown_lt
            generalize x :: r = rl at *
            go_wp2_with (at_builtin; refine wpList_append_own _ rfl _ _ 22 rfl w.heap.size 37 i0 (.agg #[.int .i64 0, .int .i64 0, .string ⟨#[]⟩]) 3 32 Try.underlying22 HI.out HZ0.out HZ1.out HZ2.out rfl (by decide) _ F0.length (wcs F0) rfl HOwn.out ⟨bb, o2, none⟩ rn rc (wcs rl) rfl HLn.out HEl.out HOne.out (by unfold maxLen; omega) (by omega) hzr ?_; intro v' w' hown' hgrow' hnil')
            have HV' := hid (HX.out _ _ hown')
            have HB' := hid (HBr.out.grown hgrow' (by omega) (fun j hj => HOL.out j hj))
            obtain ⟨g2, m2, cap2, rfl⟩ : ∃ g m cap, v' = .slice (some ⟨g, 0, none⟩) m cap := by
              rcases hown'.2 with ⟨h, _⟩ | ⟨g, c, cur, h, _⟩
              · exact absurd (hnil'.1 h).1 (by intro e; injection e with e; cases e)
              · exact ⟨g, _, c, h⟩
            clear hown' hgrow' hnil'
            go_wp2_with fail
            go_roundw
            case rel =>
              exact ⟨k + 1, by omega, by go_num, by rw [HS.out]; exact HV'.out, ⟨_, _, _, rfl⟩, HB'.out⟩
            case measure => simp [intOf]; omega
        · have hlt2 : ¬ (k : Int) < n := by omega
          have hkn : L.take k = L := List.take_of_length_le (by rw [← HN.out]; omega)
          rw [hkn] at hv
          have HV2 := hid hv
          have HBr := hid hbr
          clear hkn hv hbr
          go_wp2_with fail
          go_ret
          exact ⟨_, rfl, HV2.out, HBr.out⟩
end Go.Proofs.Ytfjfobpdlmdddaa

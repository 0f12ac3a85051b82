/- Rows of texts in one row: slices.Grow, slices.Concat; the document's texts. -/
import Derived.Test.YteblglkmkakcjaaUStrs
import Derived.Lib.AppendZeros
import Derived.Deep.LoopGhost
import Derived.Maps.AppendAt
import Derived.Deep.Draws
import Derived.Deep.AppendLies
import Derived.Deep.Upon
import Derived.RangeFuncRecord
namespace Go.Proofs.Yteblglkmkakcjaa
set_option maxRecDepth 100000
open Go.RowKit Go.WideMaps Go.Maps
theorem infoStr : (Try.prog.info? 9).map (fun i => (i.zero, i.size, i.bytes)) = some (some (.string ⟨#[]⟩), 1, 16) := by kernel_rfl
theorem rowKeep {w w' : World} {B k : Nat} {ty : TypeId} {v : Value} {n : Nat} {cells : List Value} (h : w.ownsRow B ty k v n cells) (hk : ∀ b, v.ownBlock = some b → w'.heap[b]? = w.heap[b]?) : w'.ownsRow B ty k v n cells := by
  refine ⟨h.1, ?_⟩
  rcases h.2 with h0 | ⟨g, c, cur, rfl, hb, hc, h5⟩
  · exact Or.inl h0
  · exact Or.inr ⟨g, c, cur, rfl, hb, (hk g rfl).trans hc, h5⟩
theorem rowLt {w : World} {B k : Nat} {ty : TypeId} {v : Value} {n : Nat} {cells : List Value} (h : w.ownsRow B ty k v n cells) {g : Nat} (hg : v.ownBlock = some g) : B ≤ g ∧ g < w.heap.size := by
  rcases h.2 with ⟨rfl, _⟩ | ⟨g', c, cur, rfl, hb, hc, _⟩
  · cases hg
  · injection hg with hg
    subst hg
    refine ⟨hb, ?_⟩
    rcases Nat.lt_or_ge g' w.heap.size with h' | h'
    · exact h'
    · rw [Array.getElem?_eq_none h'] at hc; cases hc
/-- A row of texts: where it lies, its capacity, the texts. -/
structure Rs where
  a : Option Addr
  cap : Nat
  l : List ByteArray
def Rss (w : World) (B : Nat) (p : Option Addr) (L : List Rs) : Prop :=
  ∀ i (h : i < L.length), (∃ b o, p = some ⟨b, o, none⟩ ∧ b < B ∧ w.cell? ⟨b, o + i, none⟩ = some (.slice L[i].a L[i].l.length L[i].cap)) ∧ Strs w B L[i].a L[i].l
def flatS (L : List Rs) : List ByteArray := (L.map fun r => r.l).flatten
theorem flatS_snoc (L : List Rs) (i : Nat) (h : i < L.length) : flatS (L.take (i + 1)) = flatS (L.take i) ++ L[i].l := by
  unfold flatS
  rw [List.take_succ_eq_append_getElem h, List.map_append, List.flatten_append]
  simp only [List.map_cons, List.map_nil, List.flatten_cons, List.flatten_nil, List.append_nil]
theorem flatS_le (L : List Rs) (i : Nat) (h : i < L.length) : (flatS (L.take i)).length + L[i].l.length ≤ (flatS L).length := by
  have h1 : flatS L = flatS (L.take i) ++ (L[i].l ++ flatS (L.drop (i + 1))) := by
    unfold flatS
    have e : L = L.take i ++ (L[i] :: L.drop (i + 1)) := by simp
    conv => lhs; rw [e]
    rw [List.map_append, List.flatten_append, List.map_cons, List.flatten_cons]
  rw [h1]
  simp
def SL (w : World) (B : Nat) (v : Value) (l : List ByteArray) : Prop := w.ownsRow B 9 1 v l.length (l.map Value.string)
theorem SL.nil (w : World) (B : Nat) : SL w B (.slice none 0 0) [] := ⟨rfl, Or.inl ⟨rfl, rfl⟩⟩
theorem SL.slice {w : World} {B : Nat} {v : Value} {l : List ByteArray} (h : SL w B v l) : ∃ a cap, v = .slice a l.length cap ∧ l.length ≤ cap := by
  rcases h.2 with ⟨rfl, h0⟩ | ⟨g, cap, cur, rfl, hb, hc, hn, hm, hcs, hcut⟩
  · exact ⟨none, 0, by rw [h0], by omega⟩
  · exact ⟨_, cap, rfl, hn⟩
theorem SL.strs {w : World} {B : Nat} {a : Option Addr} {n cap : Nat} {l : List ByteArray} (h : SL w B (.slice a n cap) l) (hs : ∀ s ∈ l, s.size ≤ maxLen) : Strs w w.heap.size a l := by
  rcases h.2 with ⟨h1, h0⟩ | ⟨g, cap, cur, h1, hb, hc, hn, hm, hcs, hcut⟩
  · intro i hi; omega
  · injection h1 with h1 h2 h3
    subst h1
    refine fun i hi => ⟨hs _ (List.getElem_mem hi), g, 0, rfl, ?_, ?_⟩
    · rcases Nat.lt_or_ge g w.heap.size with h' | h'
      · exact h'
      · rw [Array.getElem?_eq_none h'] at hc; cases hc
    · rw [show w.cell? ⟨g, 0 + i, none⟩ = cur[0 + i]? by simp [World.cell?, hc], Nat.zero_add]
      have e : (cur.toList.take (l.length * 1))[i]? = some (.string l[i]) := by rw [hcut, List.getElem?_map, List.getElem?_eq_getElem hi]; rfl
      rw [List.getElem?_take_of_lt (by omega)] at e
      simpa using e
theorem sl_zeros {w : World} {n : Nat} {cells : Array Value} {cap : Nat} (hc : cells.size = cap * 1) (h63 : cap ≤ maxLen) (_hn : n ≤ cap) : SL (w.drew.alloc (.cells cells 9)) w.heap.size (.slice (some ⟨w.heap.size, 0, none⟩) 0 cap) [] := by
  refine ⟨rfl, Or.inr ⟨w.heap.size, cap, cells, rfl, Nat.le_refl _, ?_, Nat.zero_le _, h63, hc, by simp⟩⟩
  have := World.alloc_heap_new w.drew (.cells cells 9)
  exact this
theorem bdrw {B : Nat} {a w : World} (h : Below B a w) (n : Nat) : Below B a (w.drewN n) := ⟨h.os, h.tape, h.output, h.size, h.block⟩
set_option maxHeartbeats 2000000 in
theorem Grow_pos (w : World) (n : Nat) (hn : 0 < n) (hl : n ≤ 60000) :
    Calls Try.prog 26 #[.slice none 0 0, .int .i64 n] w fun e w' => ∃ v, e = .returned v ∧ SL w' w.heap.size v [] ∧ Below w.heap.size w w' := by
  obtain ⟨i0, hi, iz0, iz1, iz2⟩ := info_parts infoStr
  have hrun := Lib.run_append_nil_zeros (P := Try.prog) w 25 3 25 9 i0 _ .i64 .i64 Try.underlying25 Try.underlying3 hi iz0 n hn (by rw [iz1]; omega) (by omega) (by rw [iz2]; omega)
  have hcap := grownCap_ge w n 0 9
  have hmax := grownCap_le_maxLen w n 0 9 (by unfold maxLen; omega)
  generalize grownCap w n 0 9 = cp at hrun hcap hmax
  obtain ⟨cells, hcells⟩ : ∃ cells, cells = Builtin.zeroCells (Value.string ⟨#[]⟩).cells n ++ Builtin.zeroCells (Value.string ⟨#[]⟩).cells (cp - n) := ⟨_, rfl⟩
  rw [← hcells] at hrun
  have hsz : cells.size = cp * 1 := by
    rw [hcells, Array.size_append, size_zeroCells, size_zeroCells, show (Value.string ⟨#[]⟩).cells.size = 1 from rfl]
    omega
  have HW := hid (sl_zeros (w := w) (n := n) hsz hmax hcap)
  have HB := hid ((bdrw (Below.refl w.heap.size w) 1).alloc (Nat.le_refl _) (.cells cells 9))
  have HRun := hid hrun
  have hcp : (0 : Int) ≤ cp := by omega
  have hn1 : (0 : Int) < n := by omega
  have hn2 : (n : Int) ≤ 60000 := by omega
  clear hrun hcells hsz hi iz0 iz1 iz2 hmax hcap
  go_enter Try.func26, Try.ntmps26
  go_wp2_with (at_builtin; refine Lib.wpList_append_run _ rfl _ _ 25 3 rfl (.slice none 0 0) (.int .i64 n) rfl rfl _ _ HRun.out ?_)
  go_ret
  exact ⟨_, rfl, HW.out, HB.out⟩
set_option maxHeartbeats 2000000 in
theorem Grow_zero (w : World) :
    Calls Try.prog 26 #[.slice none 0 0, .int .i64 0] w fun e w' => ∃ v, e = .returned v ∧ SL w' w.heap.size v [] ∧ Below w.heap.size w w' := by
  go_enter Try.func26, Try.ntmps26
  go_wp2_with fail
  go_ret
  exact ⟨_, rfl, SL.nil _ _, Below.refl _ _⟩
theorem Grow_str (w : World) (n : Nat) (hl : n ≤ 60000) :
    Calls Try.prog 26 #[.slice none 0 0, .int .i64 n] w fun e w' => ∃ v, e = .returned v ∧ SL w' w.heap.size v [] ∧ Below w.heap.size w w' := by
  rcases Nat.eq_zero_or_pos n with rfl | hn
  · exact Grow_zero w
  · exact Grow_pos w n hn hl
theorem app_nothing (w : World) (p : Option Addr) (n cap c : Nat) (a : Option Addr) (ty : TypeId) (hn : n ≤ cap) :
    (Builtin.append_ #[25, 25] ty #[.slice p n cap, .slice a 0 c]).run Try.prog w = .ok (.slice p n cap) w := by
  obtain ⟨i0, hi, iz0, iz1, iz2⟩ := info_parts infoStr
  refine run_append_nothing w 25 25 ty 9 i0 Try.underlying25 hi p n cap hn _ ?_
  cases a with
  | none => exact Src.ofNil w Try.underlying25 c
  | some A => exact Src.ofSlice w Try.underlying25 A 0 c [] (by simp) (fun j u hj => by simp at hj) (fun u hu => by simp at hu)
theorem strs_map {w : World} {B : Nat} {b o : Nat} {l : List ByteArray} (h : Strs w B (some ⟨b, o, none⟩) l) : ∀ j u, (l.map Value.string)[j]? = some u → w.cell? ((⟨b, o, none⟩ : Addr).add j) = some u := by
  intro j u hu
  rw [List.getElem?_map] at hu
  obtain ⟨x, hx, rfl⟩ := Option.map_eq_some_iff.1 hu
  obtain ⟨hj, rfl⟩ := List.getElem?_eq_some_iff.1 hx
  obtain ⟨_, b', o', e, _, hc⟩ := h j hj
  injection e with e; injection e with e1 e2
  subst e1 e2
  rw [Addr.add_lit]; exact hc
set_option maxHeartbeats 4000000 in
theorem Concat_str (w : World) (B : Nat) (p : Option Addr) (n capp : Nat) (L : List Rs) (hR : Rss w B p L) (hB : B ≤ w.heap.size) (hn : n = L.length) (hl : (flatS L).length ≤ 60000) (hn2 : n ≤ 1000) :
    Calls Try.prog 15 #[.slice p n capp] w fun e w' => ∃ v, e = .returned v ∧ SL w' w.heap.size v (flatS L) ∧ Below w.heap.size w w' := by
  have HN := hid hn
  clear hn
  obtain ⟨i0, hi, iz0, iz1, iz2⟩ := info_parts infoStr
  have HI := hid hi
  have HZ0 := hid iz0
  have HZ1 := hid iz1
  have HZ2 := hid iz2
  clear hi iz0 iz1 iz2
  obtain ⟨T, hT⟩ : ∃ T, T = (flatS L).length := ⟨_, rfl⟩
  rw [← hT] at hl
  have HT := hid hT
  clear hT
  have HG := hid (Grow_str w T hl)
  go_enter Try.func15, Try.ntmps15
  go_wp2_with fail
  go_loop [3, 5, 11] (fun sz _ i => ∃ k : Nat, k ≤ n ∧ i = .int .i64 k ∧ sz = .int .i64 ((flatS (L.take k)).length : Nat)) (fun _ _ i => n - (intOf i).toNat)
  case atStart => exact ⟨0, Nat.zero_le _, rfl, rfl⟩
  case round =>
    obtain ⟨k, hk, rfl, rfl⟩ := hrel
    by_cases hlt : k < n
    · have hlt2 : (k : Int) < n := by omega
      have hk2 : k < L.length := by rw [← HN.out]; exact hlt
      obtain ⟨⟨b, o, rfl, hbB, c0⟩, hWk⟩ := hR k hk2
      have hs := congrArg List.length (flatS_snoc L k hk2)
      rw [List.length_append] at hs
      have hle := flatS_le L k hk2
      have hT2 := HT.out
      have HS := hid hs
      obtain ⟨q, hq⟩ : ∃ q, q = (flatS (L.take k)).length := ⟨_, rfl⟩
      obtain ⟨r, hr⟩ : ∃ r, r = L[k].l.length := ⟨_, rfl⟩
      rw [← hr] at c0
      rw [← hq, ← hr] at hle HS
      rw [← hq]
      have hq6 : (q : Int) + r ≤ 60000 := by omega
      clear hs hq hr hT2 hWk
      generalize L[k].a = ra at c0
      generalize L[k].cap = rc at c0
      go_wp2_with fail
      go_round
      case rel => exact ⟨k + 1, by omega, by go_num, by rw [HS.out]; go_num⟩
      case measure => simp [intOf]; omega
    · have hlt2 : ¬ (k : Int) < n := by omega
      have hkn : L.take k = L := List.take_of_length_le (by rw [← HN.out]; omega)
      rw [hkn, ← HT.out]
      clear hkn
      go_wp2_with fail
      have hcall := HG.out
      go_fit hcall
      clear hcall
      rintro e w1 ⟨v, rfl, hv, hb1⟩
      have HV := hid hv
      have HB1 := hid hb1
      clear hv hb1
      go_wp2_with fail
      clear hlt2 hlt hk
      go_loopw [6, 8, 27] (fun v _ i wr => ∃ k : Nat, k ≤ n ∧ i = .int .i64 k ∧ SL wr w.heap.size v (flatS (L.take k)) ∧ Below w.heap.size w wr) (fun _ _ i _ => n - (intOf i).toNat)
      case atStart => exact ⟨0, Nat.zero_le _, rfl, by simpa [flatS] using HV.out, HB1.out⟩
      case round =>
        obtain ⟨k, hk, rfl, hv, hbr⟩ := hrel
        by_cases hlt : k < n
        · have hlt2 : (k : Int) < n := by omega
          have hk2 : k < L.length := by rw [← HN.out]; exact hlt
          obtain ⟨⟨b, o, rfl, hbB, c0⟩, hWk⟩ := hR k hk2
          have hs := flatS_snoc L k hk2
          have hle := flatS_le L k hk2
          have hT2 : (flatS (L.take k)).length + L[k].l.length ≤ 60000 := by have := HT.out; omega
          have hWk2 := hWk.below (hbr.mono hB)
          have c1 := (hbr.cell (p := ⟨b, o + k, none⟩) (by dsimp only; omega)).trans c0
          have HS := hid hs
          obtain ⟨F0, hF0⟩ : ∃ F0, F0 = flatS (L.take k) := ⟨_, rfl⟩
          rw [← hF0] at hv hle HS hT2
          clear hs hF0 c0 hWk hle
          generalize L[k].a = ra at *
          generalize L[k].cap = rc at *
          generalize L[k].l = rl at *
          have hzr := hbr.size
          have HBr := hid hbr
          obtain ⟨va, vc, rfl, hm2⟩ := hv.slice
          by_cases hrl : rl = []
          · subst hrl
            have HV2 := hid (show SL wr w.heap.size (.slice va F0.length vc) (F0 ++ []) by rw [List.append_nil]; exact hv)
            have hrun := fun ty => app_nothing wr va F0.length vc rc ra ty hm2
            have HRun := hid hrun
            clear hrun hv hbr hWk2
            go_wp2_with (at_builtin; refine Lib.wpList_append_run _ rfl _ _ 25 25 rfl _ _ rfl rfl _ _ (HRun.out _) ?_)
            go_wp2_with fail
            go_roundw
            case rel =>
              exact ⟨k + 1, by omega, by go_num, by rw [HS.out]; exact HV2.out, HBr.out⟩
            case measure => simp [intOf]; omega
          · obtain ⟨_, bb, o2, rfl, hbb, _⟩ := hWk2 0 (List.length_pos_iff.2 hrl)
            have HEl := hid (strs_map hWk2)
            have HOwn := hid hv
            have HOne := hid (show ∀ u ∈ rl.map Value.string, u.oneCell' = true from fun u hu => by obtain ⟨y, _, rfl⟩ := List.mem_map.1 hu; rfl)
            obtain ⟨rn, hrn⟩ : ∃ rn, rn = rl.length := ⟨_, rfl⟩
            have HLn := hid (show (rl.map Value.string).length = rn * 1 by rw [List.length_map, hrn, Nat.mul_one])
            have HX := hid (fun v' w' (h : World.ownsRow w' w.heap.size 9 1 v' (F0.length + rn) (F0.map Value.string ++ rl.map Value.string)) => (by
              unfold SL; rw [List.map_append, List.length_append, ← hrn]; exact h : SL w' w.heap.size v' (F0 ++ rl)))
            rw [← hrn] at c1 hT2
            have hown_lt := fun j hj => (rowLt hv (g := j) hj).1
            have HOL := hid hown_lt
            clear hv hrn hWk2 hbr hown_lt
            go_wp2_with (at_builtin; refine wpList_append_own _ rfl _ _ 25 rfl w.heap.size 9 i0 (.string ⟨#[]⟩) 1 16 Try.underlying25 HI.out HZ0.out HZ1.out HZ2.out rfl (by decide) _ F0.length (F0.map Value.string) rfl HOwn.out ⟨bb, o2, none⟩ rn rc (rl.map Value.string) rfl HLn.out HEl.out HOne.out (by unfold maxLen; omega) (by omega) hzr ?_; intro v' w' hown' hgrow' hnil')
            have HV' := hid (HX.out _ _ hown')
            have HB' := hid (HBr.out.grown hgrow' (by omega) (fun j hj => HOL.out j hj))
            clear hown' hgrow' hnil'
            go_wp2_with fail
            go_roundw
            case rel =>
              exact ⟨k + 1, by omega, by go_num, by rw [HS.out]; exact HV'.out, HB'.out⟩
            case measure => simp [intOf]; omega
        · have hlt2 : ¬ (k : Int) < n := by omega
          have hkn : L.take k = L := List.take_of_length_le (by rw [← HN.out]; omega)
          rw [hkn] at hv
          have HV2 := hid hv
          have HBr := hid hbr
          clear hkn hv hbr
          go_wp2_with fail
          go_ret
          exact ⟨_, rfl, HV2.out, HBr.out⟩
end Go.Proofs.Yteblglkmkakcjaa

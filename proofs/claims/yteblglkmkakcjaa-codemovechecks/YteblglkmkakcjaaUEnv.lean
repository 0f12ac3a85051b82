/- An environment that may be: unit's checkEnv: P2.3. -/
import Derived.Test.YteblglkmkakcjaaUFind
import Derived.RegionTactic
import Derived.BigRegion
import Derived.Deep.RegionWith
import Derived.Deep.CutBlock
import Derived.Deep.DeepCutAuto
namespace Go.Proofs.Yteblglkmkakcjaa
set_option maxRecDepth 100000
open Go.RowKit Go.WideMaps Go.Maps
def globI (gs : List ByteArray) (i : Nat) : Int := match gs[i]? with
  | some s => if freeB s.data.toList = false then 4 else if hasS (gs.take i) s = true then 7 else 0
  | none => 0
def recI (l : List Sh) (i : Nat) : Int := match l[i]? with
  | some s => if ¬ shapeI s.name s.fs = 0 then shapeI s.name s.fs else if 0 ≤ posI l i s.name then 7 else 0
  | none => 0
def envI (gs : List ByteArray) (l : List Sh) : Int :=
  if 40 < gs.length ∨ 8 < l.length then 1 else if ¬ firstI (globI gs) 0 gs.length = 0 then firstI (globI gs) 0 gs.length else firstI (recI l) 0 l.length
theorem globI_at (gs : List ByteArray) (i : Nat) (h : i < gs.length) : globI gs i = if freeB gs[i].data.toList = false then 4 else if hasS (gs.take i) gs[i] = true then 7 else 0 := by
  unfold globI; rw [List.getElem?_eq_getElem h]
theorem recI_at (l : List Sh) (i : Nat) (h : i < l.length) : recI l i = if ¬ shapeI l[i].name l[i].fs = 0 then shapeI l[i].name l[i].fs else if 0 ≤ posI l i l[i].name then 7 else 0 := by
  unfold recI; rw [List.getElem?_eq_getElem h]
theorem envI_many {gs : List ByteArray} {l : List Sh} (h : 40 < gs.length ∨ 8 < l.length) : envI gs l = 1 := by unfold envI; rw [if_pos h]
theorem envI_glob {gs : List ByteArray} {l : List Sh} (h : ¬ (40 < gs.length ∨ 8 < l.length)) (h2 : ¬ firstI (globI gs) 0 gs.length = 0) : envI gs l = firstI (globI gs) 0 gs.length := by unfold envI; rw [if_neg h, if_pos h2]
theorem envI_rec {gs : List ByteArray} {l : List Sh} (h : ¬ (40 < gs.length ∨ 8 < l.length)) (h2 : firstI (globI gs) 0 gs.length = 0) : envI gs l = firstI (recI l) 0 l.length := by unfold envI; rw [if_neg h, if_neg (by simpa using h2)]
theorem foundV_shape (l : List Sh) (p : Int) : ∃ n a len cap, foundV l p = .agg #[.string n, .slice a len cap] := by
  unfold foundV emptySh
  split
  · split
    · exact ⟨_, _, _, _, rfl⟩
    · exact ⟨_, _, _, _, rfl⟩
  · exact ⟨_, _, _, _, rfl⟩
set_option maxHeartbeats 2000000 in
theorem checkEnv_any (W : World) (B : Nat) (k p : Nat) (ga sa : Option Addr) (gs : List ByteArray) (l : List Sh) (gl gc sl sc : Nat) (w : World) (hgl : gl = gs.length) (hsl : sl = l.length) (hg : gl ≤ 9223372036854775807) (hs : sl ≤ 9223372036854775807) (hgc : gl ≤ gc) (hsc : sl ≤ sc)
    (hWo : Words w k p) (hB : Below B W w) (hBw : B ≤ w.heap.size) (hG : Strs W B ga gs) (hS : Shs W B sa l) :
    Calls Try.prog 38 #[.agg #[.map (some k), .map (some p)], .agg #[.slice ga gl gc, .slice sa sl sc]] w fun e w' => e = .returned (.int .i64 (envI gs l)) ∧ Below w.heap.size w w' := by
  have hb0 := hid (below2 w (.cells #[.map (some k), .map (some p)] 60) (.cells #[.slice ga gl gc, .slice sa sl sc] 58))
  have HG := hid hgl
  have HS := hid hsl
  clear hgl hsl
  by_cases hm1 : 40 < gl
  · have HE := hid (envI_many (gs := gs) (l := l) (Or.inl (by rw [← HG.out]; exact hm1)))
    have hm2 : (40 : Int) < gl := by omega
    go_enter Try.func38, Try.ntmps38
    go_wp2_with fail
    go_ret
    exact ⟨ret_int HE.out.symm, hb0.out⟩
  by_cases hm3 : 8 < sl
  · have HE := hid (envI_many (gs := gs) (l := l) (Or.inr (by rw [← HS.out]; exact hm3)))
    have hm2 : ¬ (40 : Int) < gl := by omega
    have hm4 : (8 : Int) < sl := by omega
    go_enter Try.func38, Try.ntmps38
    go_wp2_with fail
    go_ret
    exact ⟨ret_int HE.out.symm, hb0.out⟩
  have hno : Hid (¬ (40 < gs.length ∨ 8 < l.length)) := hid (by rw [← HG.out, ← HS.out]; omega)
  have hm2 : ¬ (40 : Int) < gl := by omega
  have hm4 : ¬ (8 : Int) < sl := by omega
  go_enter Try.func38, Try.ntmps38
  go_wp2_with fail
  go_loopw [25] (fun i wr => ∃ j : Nat, j ≤ gl ∧ i = .int .i64 j ∧ firstI (globI gs) 0 gs.length = firstI (globI gs) j (gs.length - j) ∧ Below (w.heap.size + 2) ((w.alloc (.cells #[.map (some k), .map (some p)] 60)).alloc (.cells #[.slice ga gl gc, .slice sa sl sc] 58)) wr) (fun i _ => gl - (intOf i).toNat)
  case atStart => exact ⟨0, Nat.zero_le _, rfl, rfl, Below.refl _ _⟩
  case round =>
    obtain ⟨j, hj, rfl, hfi, hbr⟩ := hrel
    have HF := hid hfi
    have hBr := hid ((hB.trans (hb0.out.mono hBw)).trans (hbr.mono (by omega)))
    have hsz := hbr.size
    simp at hsz
    clear hfi
    have hWr := hid (hWo.below (hb0.out.trans (hbr.mono (by omega))))
    obtain ⟨g0, g1, g2, g3⟩ := boxes22 hbr
    by_cases hlt : j < gl
    · have hj2 : j < gs.length := by rw [← HG.out]; exact hlt
      obtain ⟨hss, b, o, rfl, hbB, hc⟩ := (hG.below hBr.out) j hj2
      have HX := hid (globI_at gs j hj2)
      have HSt := hid (firstI_step (globI gs) gs.length j hj2)
      have HT := hid (firstI_stop (globI gs) gs.length j hj2)
      generalize hy : gs[j] = y at HX hc hss
      clear hy
      cases hnm : freeB y.data.toList
      · have e4 := HX.out
        rw [if_pos hnm] at e4
        have HTT := hid (HT.out (by rw [e4]; decide))
        have HE := hid (envI_glob (l := l) hno.out (by rw [HF.out, HTT.out, e4]; decide))
        go_wp2_with fail
        have hcall := isFree_any k p y wr hss hWr.out
        rw [hnm] at hcall
        go_fit hcall
        rintro e w2 ⟨rfl, hb2⟩
        go_wp2_with fail
        go_ret
        exact ⟨ret_int (by rw [HE.out, HF.out, HTT.out, e4]), hb0.out.trans ((hbr.mono (by omega)).trans (hb2.mono (by omega)))⟩
      · go_wp2_with fail
        have hcall := isFree_any k p y wr hss hWr.out
        rw [hnm] at hcall
        go_fit hcall
        rintro e w2 ⟨rfl, hb2⟩
        clear hcall g0 g1 g2 g3
        have hbr2 := hbr.trans (hb2.mono (by omega))
        obtain ⟨g0, g1, g2, g3⟩ := boxes22 hbr2
        have hS2 := hid ((hG.below hBr.out).below (hb2.mono (by omega)))
        clear hbr hb2 hBr
        cases hcn : hasS (gs.take j) y
        · have e0 := HX.out
          rw [if_neg (by simp [hnm]), if_neg (by simp [hcn])] at e0
          have HSS := hid (HSt.out e0)
          clear e0 HX HSt HT
          go_wp2_with fail
          have hcall := contains_any w2 B _ gs j gc y hS2.out (by omega) (by omega)
          rw [hcn] at hcall
          go_fit hcall
          rintro e w3 ⟨rfl, rfl⟩
          go_wp2_with fail
          go_roundw
          case rel => exact ⟨j + 1, by omega, by go_num, HF.out.trans HSS.out, hbr2⟩
          case measure => simp [intOf]; omega
        · have e7 := HX.out
          rw [if_neg (by simp [hnm]), if_pos hcn] at e7
          have HTT := hid (HT.out (by rw [e7]; decide))
          have HE := hid (envI_glob (l := l) hno.out (by rw [HF.out, HTT.out, e7]; decide))
          clear HX HSt HT
          go_wp2_with fail
          have hcall := contains_any w2 B _ gs j gc y hS2.out (by omega) (by omega)
          rw [hcn] at hcall
          go_fit hcall
          rintro e w3 ⟨rfl, rfl⟩
          go_wp2_with fail
          go_ret
          exact ⟨ret_int (by rw [HE.out, HF.out, HTT.out, e7]), hb0.out.trans (hbr2.mono (by omega))⟩
    · have HTT := hid (firstI_end (globI gs) gs.length j (by rw [← HG.out]; exact hlt))
      have HE := hid (envI_rec hno.out (HF.out.trans HTT.out))
      clear HF HTT hBr hWr
      go_wp2_with fail
      go_loopw [44] (fun i wr => ∃ j : Nat, j ≤ sl ∧ i = .int .i64 j ∧ firstI (recI l) 0 l.length = firstI (recI l) j (l.length - j) ∧ Below (w.heap.size + 2) ((w.alloc (.cells #[.map (some k), .map (some p)] 60)).alloc (.cells #[.slice ga gl gc, .slice sa sl sc] 58)) wr) (fun i _ => sl - (intOf i).toNat)
      case atStart => exact ⟨0, Nat.zero_le _, rfl, rfl, hbr⟩
      case round =>
        clear g0 g1 g2 g3 hbr hsz hlt hj
        obtain ⟨i, hi, rfl, hfi, hbr⟩ := hrel
        have HF := hid hfi
        have hBr := hid ((hB.trans (hb0.out.mono hBw)).trans (hbr.mono (by omega)))
        have hsz := hbr.size
        simp at hsz
        clear hfi
        obtain ⟨g0, g1, g2, g3⟩ := boxes22 hbr
        by_cases hlt : i < sl
        · have hj2 : i < l.length := by rw [← HS.out]; exact hlt
          obtain ⟨b, o, rfl, hbB, c0, c1, hn1, hn2, hn3, hn4⟩ := (hS.below hBr.out) i hj2
          have HX := hid (recI_at l i hj2)
          have HSt := hid (firstI_step (recI l) l.length i hj2)
          have HT := hid (firstI_stop (recI l) l.length i hj2)
          generalize (l[i]'hj2).name = y at HX c0 hn1
          generalize (l[i]'hj2).adr = ya at c1 hn4
          generalize (l[i]'hj2).fs = yf at HX c1 hn2 hn3 hn4
          generalize (l[i]'hj2).cap = yc at c1 hn2
          generalize hyl : yf.length = yl at c1
          have hyl2 : yl ≤ yc := by omega
          have hyl3 : yl ≤ 9223372036854775807 := by unfold maxLen at hn3; omega
          have HY := hid hyl
          clear hyl hn2 hn3
          have hWr := hid ((hWo.below (hb0.out.trans (hbr.mono (by omega)))).below ((Below.refl wr.heap.size wr).alloc (Nat.le_refl _) (.cells #[.string y, .slice ya yl yc] 64)))
          have hBa := hid ((Below.refl B wr).alloc (by omega) (.cells #[.string y, .slice ya yl yc] 64))
          have hl1 : w.heap.size < wr.heap.size := by omega
          have hl2 : w.heap.size + 1 < wr.heap.size := by omega
          by_cases hse : shapeI y yf = 0
          · have e1 := HX.out
            rw [if_neg (by simpa using hse)] at e1
            have HX1 := hid e1
            clear e1 HX
            go_wp2_with fail
            have hcall := checkShape_any wr B k p y ya yf yl yc _ hn1 HY.out.symm hyl3 hyl2 hWr.out hBa.out (by simp; omega) hn4
            rw [hse] at hcall
            go_fit hcall
            clear hcall
            rintro e w2 ⟨rfl, hb2⟩
            have hb3 := hid (hbr.trans ((((Below.refl wr.heap.size wr).alloc (Nat.le_refl _) (.cells #[.string y, .slice ya yl yc] 64)).trans (hb2.mono (by simp))).mono (by omega)))
            obtain ⟨x0, x1, x2, x3⟩ := boxes22 hb3.out
            have hsy : w2.cell? ⟨wr.heap.size, 0, none⟩ = some (.string y) := by
              rw [hb2.cell (p := ⟨wr.heap.size, 0, none⟩) (by simp)]; go_simp
            have hz2 : wr.heap.size + 1 ≤ w2.heap.size := by have h := hb2.size; simpa using h
            have hl3 : w.heap.size + 1 < w2.heap.size := by omega
            have hl4 : wr.heap.size < w2.heap.size := by omega
            have hS2 := hid (hS.below ((hB.trans (hb0.out.mono hBw)).trans (hb3.out.mono (by omega))))
            have hisc : i ≤ sc := by omega
            have HC := hid (fun (X : World) (q : Nat) (h : Below w2.heap.size w2 X) => find_any B _ l i sc q y X (hS2.out.below (h.mono (by omega))) (by have := h.size; omega) (by omega) (by omega))
            clear c0 c1 hb2 g0 g1 g2 g3 hbr
            go_upto_region 17 with fail
            go_cut [11] (fun ok wx => ok = .bool (decide (0 ≤ posI l i y)) ∧ Below w2.heap.size w2 wx)
            case first =>
              go_region_with (first
                | (go_at_call 44; refine (finder_any _ _ _ _).mono ?_; rintro e w' ⟨rfl, rfl⟩)
                | (go_at_call 48; refine (HC.out _ _ (by repeat (first | exact Below.refl _ _ | refine Below.drew ?_ | refine Below.alloc ?_ (by first | omega | (simp <;> omega)) _)) (by simp <;> omega) (by go_simp)).mono ?_; rintro e w3 ⟨rfl, hb4⟩; have hbw : Below w2.heap.size w2 w3 := Below.trans (by repeat (first | exact Below.refl _ _ | refine Below.drew ?_ | refine Below.alloc ?_ (by first | omega | (simp <;> omega)) _)) (hb4.mono (by simp <;> omega)); obtain ⟨hcc, hff⟩ := bcell hb4; obtain ⟨n9, a9, l9, c9, hfv⟩ := foundV_shape l (posI l i y); rw [hfv]))
              all_goals go_wp2_with fail
              all_goals go_meet
              all_goals (refine ⟨rfl, ?_⟩; have hz9 := hbw.size; clear hcc hff; repeat (first | exact hbw | refine Below.alloc ?_ (by first | omega | (simp <;> omega)) _ | refine Below.setCell ?_ (by first | omega | (simp <;> omega)) _ | refine Below.drew ?_))
            case rest =>
              obtain ⟨rfl, hbx⟩ := hcut
              by_cases hpos : 0 ≤ posI l i y
              · have e7 := HX1.out
                rw [if_pos hpos] at e7
                have HTT := hid (HT.out (by rw [e7]; decide))
                clear HX1 HSt HT
                go_wp2_with fail
                go_ret
                exact ⟨ret_int (by rw [HE.out, HF.out, HTT.out, e7]), hb0.out.trans ((hb3.out.trans (hbx.mono (by omega))).mono (by omega))⟩
              · have e0 := HX1.out
                rw [if_neg hpos] at e0
                have HSS := hid (HSt.out e0)
                clear e0 HX1 HSt HT
                go_wp2_with fail
                go_roundw
                case rel => exact ⟨i + 1, by omega, by go_num, HF.out.trans HSS.out, hb3.out.trans (hbx.mono (by omega))⟩
                case measure => simp [intOf]; omega
          · have e1 := HX.out
            rw [if_pos hse] at e1
            have HTT := hid (HT.out (by rw [e1]; exact hse))
            clear HX HT HSt
            generalize hr : shapeI y yf = r at hse e1
            have HR := hid hr
            have HE1 := hid e1
            clear hr e1
            go_wp2_with fail
            have hcall := checkShape_any wr B k p y ya yf yl yc _ hn1 HY.out.symm hyl3 hyl2 hWr.out hBa.out (by simp; omega) hn4
            rw [HR.out] at hcall
            go_fit hcall
            clear hcall
            rintro e w2 ⟨rfl, hb2⟩
            go_wp2_with fail
            go_ret
            exact ⟨ret_int (by rw [HE.out, HF.out, HTT.out, HE1.out]), hb0.out.trans ((hbr.mono (by omega)).trans (((Below.refl _ _).alloc (Nat.le_refl _) _ |>.trans (hb2.mono (by simp))).mono (by omega)))⟩
        · have HTT := hid (firstI_end (recI l) l.length i (by rw [← HS.out]; exact hlt))
          go_wp2_with fail
          go_ret
          exact ⟨ret_int (by rw [HE.out, HF.out, HTT.out]), hb0.out.trans (hbr.mono (by omega))⟩
end Go.Proofs.Yteblglkmkakcjaa

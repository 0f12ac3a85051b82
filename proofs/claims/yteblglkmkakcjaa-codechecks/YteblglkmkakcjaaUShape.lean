/- A record that may be: unit's checkShape and the document's ShapeFault: P2.3. -/
import Derived.Test.YteblglkmkakcjaaURefFree
namespace Go.Proofs.Yteblglkmkakcjaa
set_option maxRecDepth 100000
open Go.RowKit Go.WideMaps Go.Maps
def fieldI (ss : List ByteArray) (i : Nat) : Int := match ss[i]? with
  | some s => if nameB s.data.toList = false then 4 else if hasS (ss.take i) s = true then 7 else 0
  | none => 0
def shapeI (n : ByteArray) (ss : List ByteArray) : Int := if freeB n.data.toList = false then 4 else if 6 < ss.length then 1 else firstI (fieldI ss) 0 ss.length
theorem fieldI_at (ss : List ByteArray) (i : Nat) (h : i < ss.length) : fieldI ss i = if nameB ss[i].data.toList = false then 4 else if hasS (ss.take i) ss[i] = true then 7 else 0 := by
  unfold fieldI; rw [List.getElem?_eq_getElem h]
theorem shapeI_free {n : ByteArray} {ss : List ByteArray} (h : freeB n.data.toList = false) : shapeI n ss = 4 := by unfold shapeI; rw [if_pos h]
theorem shapeI_many {n : ByteArray} {ss : List ByteArray} (h : freeB n.data.toList = true) (h2 : 6 < ss.length) : shapeI n ss = 1 := by unfold shapeI; rw [if_neg (by simp [h]), if_pos h2]
theorem shapeI_loop {n : ByteArray} {ss : List ByteArray} (h : freeB n.data.toList = true) (h2 : ¬ 6 < ss.length) : shapeI n ss = firstI (fieldI ss) 0 ss.length := by unfold shapeI; rw [if_neg (by simp [h]), if_neg h2]
theorem boxes22 {w w1 : World} {v0 v1 u0 u1 : Value} {t t' : TypeId} (hb : Below (w.heap.size + 2) ((w.alloc (.cells #[v0, v1] t)).alloc (.cells #[u0, u1] t')) w1) :
    w1.cell? ⟨w.heap.size, 0, none⟩ = some v0 ∧ w1.cell? ⟨w.heap.size, 1, none⟩ = some v1 ∧ w1.cell? ⟨w.heap.size + 1, 0, none⟩ = some u0 ∧ w1.cell? ⟨w.heap.size + 1, 1, none⟩ = some u1 := by
  refine ⟨?_, ?_, ?_, ?_⟩
  · rw [hb.cell (p := ⟨w.heap.size, 0, none⟩) (show w.heap.size < w.heap.size + 2 by omega)]; go_simp
  · rw [hb.cell (p := ⟨w.heap.size, 1, none⟩) (show w.heap.size < w.heap.size + 2 by omega)]; go_simp
  · rw [hb.cell (p := ⟨w.heap.size + 1, 0, none⟩) (show w.heap.size + 1 < w.heap.size + 2 by omega)]; go_simp
  · rw [hb.cell (p := ⟨w.heap.size + 1, 1, none⟩) (show w.heap.size + 1 < w.heap.size + 2 by omega)]; go_simp
theorem box22 {w w1 : World} {u0 u1 : Value} {t : TypeId} (hb : Below (w.heap.size + 1) (w.alloc (.cells #[u0, u1] t)) w1) :
    w1.cell? ⟨w.heap.size, 0, none⟩ = some u0 ∧ w1.cell? ⟨w.heap.size, 1, none⟩ = some u1 := by
  refine ⟨?_, ?_⟩
  · rw [hb.cell (p := ⟨w.heap.size, 0, none⟩) (show w.heap.size < w.heap.size + 1 by omega)]; go_simp
  · rw [hb.cell (p := ⟨w.heap.size, 1, none⟩) (show w.heap.size < w.heap.size + 1 by omega)]; go_simp
theorem below2 (w : World) (o o' : Obj) : Below w.heap.size w ((w.alloc o).alloc o') := ((Below.refl _ _).alloc (Nat.le_refl _) _).alloc (by simp) _
set_option maxHeartbeats 2000000 in
theorem checkShape_any (W : World) (B : Nat) (k p : Nat) (n : ByteArray) (a : Option Addr) (ss : List ByteArray) (len cap : Nat) (w : World) (hn : n.size ≤ maxLen) (hlen : len = ss.length) (hl : len ≤ 9223372036854775807) (hcap : len ≤ cap)
    (hWo : Words w k p) (hB : Below B W w) (hBw : B ≤ w.heap.size) (hS : Strs W B a ss) :
    Calls Try.prog 43 #[.agg #[.map (some k), .map (some p)], .agg #[.string n, .slice a len cap]] w fun e w' => e = .returned (.int .i64 (shapeI n ss)) ∧ Below w.heap.size w w' := by
  have hb0 := hid (below2 w (.cells #[.map (some k), .map (some p)] 60) (.cells #[.string n, .slice a len cap] 64))
  have hWo2 := hid (hWo.below hb0.out)
  have hL := hid hlen
  clear hlen
  cases hf : freeB n.data.toList
  · have HE := hid (shapeI_free (ss := ss) hf)
    go_enter Try.func43, Try.ntmps43
    go_wp2_with fail
    have hcall := isFree_any k p n _ hn hWo2.out
    go_fit hcall
    rintro e w1 ⟨rfl, hb⟩
    go_wp2_with fail
    go_ret
    exact ⟨ret_int HE.out.symm, hb0.out.trans (hb.mono (by simp; omega))⟩
  · go_enter Try.func43, Try.ntmps43
    go_wp2_with fail
    have hcall := isFree_any k p n _ hn hWo2.out
    go_fit hcall
    rintro e w1 ⟨rfl, hb⟩
    have hb1 : Below (w.heap.size + 2) ((w.alloc (.cells #[.map (some k), .map (some p)] 60)).alloc (.cells #[.string n, .slice a len cap] 64)) w1 := hb.mono (by simp)
    obtain ⟨g0, g1, g2, g3⟩ := boxes22 hb1
    clear hb hcall
    by_cases hm : 6 < len
    · have HE := hid (shapeI_many (ss := ss) hf (by rw [← hL.out]; exact hm))
      have hm2 : (6 : Int) < len := by omega
      go_wp2_with fail
      go_ret
      exact ⟨ret_int HE.out.symm, hb0.out.trans (hb1.mono (by omega))⟩
    · have HE := hid (shapeI_loop (ss := ss) hf (by rw [← hL.out]; exact hm))
      have hm2 : ¬ (6 : Int) < len := by omega
      go_wp2_with fail
      go_loopw [19] (fun i wr => ∃ j : Nat, j ≤ len ∧ i = .int .i64 j ∧ firstI (fieldI ss) 0 ss.length = firstI (fieldI ss) j (ss.length - j) ∧ Below (w.heap.size + 2) ((w.alloc (.cells #[.map (some k), .map (some p)] 60)).alloc (.cells #[.string n, .slice a len cap] 64)) wr) (fun i _ => len - (intOf i).toNat)
      case atStart => exact ⟨0, Nat.zero_le _, rfl, rfl, hb1⟩
      case round =>
        obtain ⟨j, hj, rfl, hfi, hbr⟩ := hrel
        have HF := hid hfi
        have hBr := hid ((hB.trans (hb0.out.mono hBw)).trans (hbr.mono (by omega)))
        have hsz := hbr.size
        simp at hsz
        clear hfi g0 g1 g2 g3 hb1
        by_cases hlt : j < len
        · have hj2 : j < ss.length := by rw [← hL.out]; exact hlt
          obtain ⟨hss, b, o, rfl, hbB, hc⟩ := (hS.below hBr.out) j hj2
          have HX := hid (fieldI_at ss j hj2)
          have HS := hid (firstI_step (fieldI ss) ss.length j hj2)
          have HT := hid (firstI_stop (fieldI ss) ss.length j hj2)
          have hss2 : ss[j].size ≤ 9223372036854775807 := by unfold maxLen at hss; omega
          generalize hy : ss[j] = y at HX hc hss hss2
          have HY := hid hy
          clear hy
          cases hnm : nameB y.data.toList
          · have e4 := HX.out
            rw [if_pos hnm] at e4
            have HTT := hid (HT.out (by rw [e4]; decide))
            go_wp2_with fail
            have hcall := uisName_any y wr hss2
            rw [hnm] at hcall
            go_fit hcall
            rintro e w2 ⟨rfl, hb2⟩
            go_wp2_with fail
            go_ret
            exact ⟨ret_int (by rw [HE.out, HF.out, HTT.out, e4]), hb0.out.trans ((hbr.mono (by omega)).trans (hb2.mono (by omega)))⟩
          · go_wp2_with fail
            have hcall := uisName_any y wr hss2
            rw [hnm] at hcall
            go_fit hcall
            rintro e w2 ⟨rfl, hb2⟩
            clear hcall
            have hbr2 := hbr.trans (hb2.mono (by omega))
            obtain ⟨g0, g1, g2, g3⟩ := boxes22 hbr2
            have hS2 := hid ((hS.below hBr.out).below (hb2.mono (by omega)))
            clear hbr hb2 hBr
            cases hcn : hasS (ss.take j) y
            · have e0 := HX.out
              rw [if_neg (by simp [hnm]), if_neg (by simp [hcn])] at e0
              have HSS := hid (HS.out e0)
              clear e0 HX HS HT
              go_wp2_with fail
              have hcall := contains_any w2 B _ ss j cap y hS2.out (by omega) (by omega)
              rw [hcn] at hcall
              go_fit hcall
              rintro e w3 ⟨rfl, rfl⟩
              go_wp2_with fail
              go_roundw
              case rel => exact ⟨j + 1, by omega, by go_num, HF.out.trans HSS.out, hbr2⟩
              case measure => simp [intOf]; omega
            · have e7 := HX.out
              rw [if_neg (by simp [hnm]), if_pos hcn] at e7
              have HTT := hid (HT.out (by rw [e7]; decide))
              clear HX HS HT
              go_wp2_with fail
              have hcall := contains_any w2 B _ ss j cap y hS2.out (by omega) (by omega)
              rw [hcn] at hcall
              go_fit hcall
              rintro e w3 ⟨rfl, rfl⟩
              go_wp2_with fail
              go_ret
              exact ⟨ret_int (by rw [HE.out, HF.out, HTT.out, e7]), hb0.out.trans (hbr2.mono (by omega))⟩
        · have HTT := hid (firstI_end (fieldI ss) ss.length j (by rw [← hL.out]; exact hlt))
          go_wp2_with fail
          go_ret
          exact ⟨ret_int (by rw [HE.out, HF.out, HTT.out]), hb0.out.trans (hbr.mono (by omega))⟩
end Go.Proofs.Yteblglkmkakcjaa

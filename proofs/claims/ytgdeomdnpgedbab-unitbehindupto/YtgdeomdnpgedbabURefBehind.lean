/- The document's ShapesBehind: P2.4. -/
import Derived.Test.YtgdeomdnpgedbabUShapesW
import Derived.RegionTactic
namespace Go.Proofs.Ytgdeomdnpgedbab
open Go.RowKit Go.WideMaps Go.Maps
/-- What stands behind j records: the list holds them. -/
def St2 (W2 : World) (L : List (ByteArray × List ByteArray)) (j : Nat) (wr : World) (v : Value) : Prop :=
  ∃ l : List Sh, Below W2.heap.size W2 wr ∧ ShL wr W2.heap.size v l ∧ l.map pairOf = behindP (L.take j)
theorem boxes23 {w w1 : World} {v0 v1 u0 u1 u2 : Value} {t t' : TypeId} (hb : Below (w.heap.size + 1 + 1) ((w.alloc (.cells #[v0, v1] t)).alloc (.cells #[u0, u1, u2] t')) w1) :
    w1.cell? ⟨w.heap.size, 1, none⟩ = some v1 ∧ w1.cell? ⟨w.heap.size + 1, 0, none⟩ = some u0 := by
  refine ⟨?_, ?_⟩
  · rw [hb.cell (p := ⟨w.heap.size, 1, none⟩) (show w.heap.size < w.heap.size + 1 + 1 by omega)]; go_simp
  · rw [hb.cell (p := ⟨w.heap.size + 1, 0, none⟩) (show w.heap.size + 1 < w.heap.size + 1 + 1 by omega)]; go_simp
/-- The k-th of all records. -/
structure El (wr : World) (B : Nat) (L : List (ByteArray × List ByteArray)) (k : Nat) (y : ByteArray) (ya : Option Addr) (yf : List ByteArray) (yl : Nat) : Prop where
  name : y.size ≤ maxLen
  strs : Strs wr B ya yf
  len : yl = yf.length
  bound : yl ≤ 2097152
  next : behindP (L.take (k + 1)) = putP (behindP (L.take k)) (y, yf)
/-- A new variable holds a record of one's own. -/
def CutX (W1 wx : World) (y : ByteArray) (yf : List ByteArray) (yl : Nat) (a : Value) : Prop :=
  ∃ X a2 cap2, a = .pointer (some ⟨X, 0, none⟩) ∧ Below W1.heap.size W1 wx ∧ W1.heap.size ≤ X ∧ wx.cell? ⟨X, 0, none⟩ = some (.string y) ∧ wx.cell? ⟨X, 1, none⟩ = some (.slice a2 yl cap2) ∧ yl ≤ cap2 ∧ yl ≤ maxLen ∧ StrsS wx (fun b => W1.heap.size ≤ b ∧ b < wx.heap.size) a2 yf
theorem cutX_B {W1 w3 : World} {y : ByteArray} {yf : List ByteArray} {yl N3 cap2 : Nat} {a2 : Option Addr} {t : TypeId} (hb : Below W1.heap.size W1 w3) (q1 : yl ≤ cap2) (q2 : yl ≤ maxLen) (q3 : StrsS w3 (fun b => N3 ≤ b ∧ b < w3.heap.size) a2 yf) (hN : W1.heap.size ≤ N3) :
    CutX W1 (w3.alloc (.cells #[.string y, .slice a2 yl cap2] t)) y yf yl (.pointer (some ⟨w3.heap.size, 0, none⟩)) :=
  ⟨w3.heap.size, a2, cap2, rfl, hb.alloc hb.size _, hb.size, by go_simp, by go_simp, q1, q2, q3.keep (fun b h => ⟨((Below.refl w3.heap.size w3).alloc (Nat.le_refl _) _).block b h.2, by omega, by simp; omega⟩)⟩
theorem cutX_A {W1 w3 : World} {y : ByteArray} {yf : List ByteArray} {yl N3 cap2 g : Nat} {a2 : Option Addr} {z0 z1 : Value} (hb : Below W1.heap.size W1 w3) (q1 : yl ≤ cap2) (q2 : yl ≤ maxLen) (q3 : StrsS w3 (fun b => N3 ≤ b ∧ b < w3.heap.size) a2 yf) (hN : W1.heap.size ≤ g) (hg : g < N3)
    (c0 : w3.cell? ⟨g, 0, none⟩ = some z0) (c1 : w3.cell? ⟨g, 1, none⟩ = some z1) (_f0 : w3.frozen? ⟨g, 0, none⟩ = false) (_f1 : w3.frozen? ⟨g, 1, none⟩ = false) :
    CutX W1 ((w3.setCell ⟨g, 0, none⟩ (.string y)).setCell ⟨g, 1, none⟩ (.slice a2 yl cap2)) y yf yl (.pointer (some ⟨g, 0, none⟩)) := by
  refine ⟨g, a2, cap2, rfl, (hb.setCell (p := ⟨g, 0, none⟩) hN _).setCell (p := ⟨g, 1, none⟩) hN _, hN, by go_simp, by go_simp, q1, q2, q3.keep (fun b h => ⟨?_, by omega, by simpa using h.2⟩)⟩
  rw [Below.heap_setCell _ _ _ _ (show ¬ b = g by omega), Below.heap_setCell _ _ _ _ (show ¬ b = g by omega)]
set_option maxHeartbeats 4000000 in
theorem ShapesBehind_any (B : Nat) (va ua ga da pa : Option Addr) (V U : List Sh) (vl vc ul uc gl gc dl dc pl pc : Nat) (w : World) (hV : Shs w B va V) (hU : Shs w B ua U) (hB : B ≤ w.heap.size) (hvl : vl = V.length) (hul : ul = U.length)
    (hsum : vl + ul ≤ 2097152) (hfs : ∀ s ∈ V ++ U, s.fs.length ≤ 2097152) :
    Calls Try.prog 11 #[.agg #[.slice ga gl gc, .slice va vl vc], .agg #[.slice ua ul uc, .slice da dl dc, .slice pa pl pc]] w fun e w' =>
      ∃ a cap l, e = .returned (.slice a (List.length l) cap) ∧ l.map pairOf = behindP ((V ++ U).map pairOf) ∧ Shs w' w'.heap.size a l ∧ Below w.heap.size w w' := by
  have HV := hid (sel_one (U := U) hV hvl hfs)
  have HU := hid (sel_two (V := V) hU hvl hul hfs)
  have HLn : Hid (((V ++ U).map pairOf).length = vl + ul) := hid (by simp; omega)
  clear hvl hul hV hU hfs
  generalize (V ++ U).map pairOf = L at HV HU HLn
  obtain ⟨W2, hW2⟩ : ∃ W2, W2 = (w.alloc (.cells #[.slice ga gl gc, .slice va vl vc] 30)).alloc (.cells #[.slice ua ul uc, .slice da dl dc, .slice pa pl pc] 36) := ⟨_, rfl⟩
  have hz2 : W2.heap.size = w.heap.size + 1 + 1 := by rw [hW2]; simp
  have hb2 : Below w.heap.size w W2 := by rw [hW2]; exact below2 _ _ _
  have hbx : Hid (∀ wr, Below W2.heap.size W2 wr → wr.cell? ⟨w.heap.size, 1, none⟩ = some (.slice va vl vc) ∧ wr.cell? ⟨w.heap.size + 1, 0, none⟩ = some (.slice ua ul uc)) := hid (fun wr h => boxes23 (by have h' := h; rw [hW2] at h'; exact h'.mono (by simp)))
  have HW := hid hW2
  clear hW2
  obtain ⟨i0, hi, hz0, hz1, hz2'⟩ := info_parts info_shape
  have HI := hid hi
  have HZ0 := hid hz0
  have HZ1 := hid hz1
  have HZ2 := hid hz2'
  clear hi hz0 hz1 hz2'
  go_enter Try.func11, Try.ntmps11
  go_wp2_with fail
  rw [← HW.out]
  go_loopw [5, 6] (fun v i wr => ∃ k : Nat, k ≤ vl + ul ∧ i = .int .i64 k ∧ St2 W2 L k wr v) (fun _ i _ => vl + ul - (intOf i).toNat)
  case atStart => exact ⟨0, by omega, rfl, [], Below.refl _ _, ShL.nil _ _, rfl⟩
  case round =>
    obtain ⟨k, hk, rfl, l, hbr, hlst, heq⟩ := hrel
    obtain ⟨la, lcap, rfl, hl1, hl2, hl3⟩ := hlst.shs
    obtain ⟨gv, gu⟩ := hbx.out wr hbr
    have hzr := hbr.size
    have hv1 : w.heap.size < wr.heap.size := by omega
    have hu1 : w.heap.size + 1 < wr.heap.size := by omega
    by_cases hlt : k < vl + ul
    · have hlt2 : (k : Int) < (vl : Int) + ul := by omega
      have hbw := hid (hb2.trans (hbr.mono (by omega)))
      go_upto_if 26 with fail
      go_cut [] (fun wx => ∃ y ya yf yl yc, El wr B L k y ya yf yl ∧ wx = wr.alloc (.cells #[.string y, .slice ya yl yc] 24))
      case first =>
        rcases (show k < vl ∨ ∃ q, k = vl + q ∧ q < ul by rcases Nat.lt_or_ge k vl with h | h; exact Or.inl h; exact Or.inr ⟨k - vl, by omega, by omega⟩) with hkv | ⟨q, rfl, hq⟩
        · have hkl : k < V.length := by rw [← HV.out.len]; exact hkv
          obtain ⟨hkL, hget⟩ := HV.out.get k hkl
          obtain ⟨b, o, hab, hbB, c0, c1, hn1, hn2, hn3, hn4⟩ := (HV.out.shs.below (hbw.out.mono hB)) k hkl
          have HE := hid (El.mk (yl := (V[k]'hkl).fs.length) hn1 hn4 rfl (HV.out.fs _ (List.getElem_mem hkl)) (by have h := behindP_take L (0 + k) hkL; rw [hget, Nat.zero_add] at h; exact h))
          generalize (V[k]'hkl).name = y at c0 HE
          generalize (V[k]'hkl).adr = ya at c1 HE
          generalize (V[k]'hkl).fs.length = yl at c1 HE
          generalize (V[k]'hkl).fs = yf at HE
          generalize (V[k]'hkl).cap = yc at c1
          clear hn1 hn2 hn3 hn4
          subst hab
          have hbl : b < wr.heap.size := by omega
          have hki : (k : Int) < vl := by omega
          go_wp2_with fail
          go_meet
          case rel => exact ⟨y, ya, yf, yl, yc, HE.out, rfl⟩
        · have hkl : q < U.length := by rw [← HU.out.len]; exact hq
          obtain ⟨hkL, hget⟩ := HU.out.get q hkl
          obtain ⟨b, o, hab, hbB, c0, c1, hn1, hn2, hn3, hn4⟩ := (HU.out.shs.below (hbw.out.mono hB)) q hkl
          have HE := hid (El.mk (yl := (U[q]'hkl).fs.length) hn1 hn4 rfl (HU.out.fs _ (List.getElem_mem hkl)) (by have h := behindP_take L (vl + q) hkL; rw [hget] at h; exact h))
          generalize (U[q]'hkl).name = y at c0 HE
          generalize (U[q]'hkl).adr = ya at c1 HE
          generalize (U[q]'hkl).fs.length = yl at c1 HE
          generalize (U[q]'hkl).fs = yf at HE
          generalize (U[q]'hkl).cap = yc at c1
          clear hn1 hn2 hn3 hn4
          subst hab
          have hbl : b < wr.heap.size := by omega
          have hki : ¬ ((vl + q : Nat) : Int) < vl := by omega
          have hqi : (q : Int) < ul := by omega
          go_wp2_with fail
          go_meet
          case rel => exact ⟨y, ya, yf, yl, yc, HE.out, rfl⟩
      case rest =>
        obtain ⟨y, ya, yf, yl, yc, hel, hW1⟩ := hcut
        obtain ⟨W1, rfl⟩ : ∃ W1, W1 = wc := ⟨_, rfl⟩
        have hS1 := hid (hel.strs.below ((Below.refl B wr).alloc (show B ≤ wr.heap.size by omega) (.cells #[.string y, .slice ya yl yc] 24)))
        have hbW := hid ((Below.refl wr.heap.size wr).alloc (Nat.le_refl _) (.cells #[.string y, .slice ya yl yc] 24))
        rw [← hW1] at hS1 hbW
        have hzw : W1.heap.size = wr.heap.size + 1 := by rw [hW1]; simp
        have x0 : W1.cell? ⟨wr.heap.size, 0, none⟩ = some (.string y) := by rw [hW1]; go_simp
        have x1 : W1.cell? ⟨wr.heap.size, 1, none⟩ = some (.slice ya yl yc) := by rw [hW1]; go_simp
        have hlw : wr.heap.size < W1.heap.size := by omega
        have hBW : B ≤ W1.heap.size := by omega
        have hyb := hel.bound
        have HEL := hid hel
        have HC := hid (fun (X : World) (g : Nat) (h : Below W1.heap.size W1 X) => texts_any B ya yf yl yc g X (hS1.out.below (h.mono (by omega))) (by have := h.size; omega) HEL.out.len (by omega))
        have HZW := hid hzw
        clear hW1 hzw hel gv gu
        go_upto_region 9 with fail
        go_cut [8] (fun a wx => CutX W1 wx y yf yl a)
        case first =>
          go_region_with (go_at_call 21; refine (HC.out _ _ (by repeat (first | exact Below.refl _ _ | refine Below.drew ?_ | refine Below.alloc ?_ (by first | omega | (simp <;> omega)) _)) (by simp <;> omega) (by go_simp)).mono ?_; rintro e w3 ⟨a2, cap2, rfl, q1, q2, q3, hb4⟩; have hbw3 : Below W1.heap.size W1 w3 := Below.trans (by repeat (first | exact Below.refl _ _ | refine Below.drew ?_ | refine Below.alloc ?_ (by first | omega | (simp <;> omega)) _)) (hb4.mono (by simp <;> omega)); have y0 := (hbw3.cell (p := ⟨wr.heap.size, 0, none⟩) hlw).trans x0; have hl9 : wr.heap.size < w3.heap.size := Nat.lt_of_lt_of_le hlw hbw3.size; obtain ⟨hcc, hff⟩ := bcell hb4)
          all_goals go_wp2_with fail
          all_goals go_meet
          all_goals first
            | exact cutX_B hbw3 q1 q2 q3 (by simp <;> omega)
            | exact cutX_A (z0 := .string ⟨#[]⟩) (z1 := .slice none 0 0) hbw3 q1 q2 q3 (by first | omega | (simp <;> omega)) (by simp <;> omega) (by go_simp) (by go_simp) (by go_simp) (by go_simp)
        case rest =>
          obtain ⟨X, a2, cap2, rfl, hbx, hX, d0, d1, q1, q2, q3⟩ := hcut
          have hzx := hbx.size
          have hzr2 := HZW.out
          have z0 := (hbx.cell (p := ⟨wr.heap.size, 0, none⟩) hlw).trans x0
          have hbwr := hbW.out.trans (hbx.mono (by omega))
          have hlst2 : ShL wc W2.heap.size (.slice la l.length lcap) l := hlst.keep (by omega) (fun b _ h2 => hbwr.block b h2)
          have hbW2 : Below W2.heap.size W2 wc := hbr.trans (hbwr.mono (by omega))
          have hlim : k < 2097152 := by omega
          have hll : l.length ≤ k := by
            have h1 := behindP_len (L.take k)
            rw [← heq] at h1
            simp at h1
            omega
          have hown := fun g hg => hlst.own_lt (g := g) hg
          have HEQ := hid heq
          have HL2 := hid hlst2
          have HB2 := hid hbW2
          have HQ3 := hid q3
          have HBR := hid hbwr
          obtain ⟨ra, rcap, hra, r1, r2, r3⟩ := hlst2.shs
          injection hra with hra1 hra2 hra3
          subst hra1 hra3
          have HSA := hid (shapeAt_any wc.heap.size la l l.length lcap y wc r3 (Nat.le_refl _) (by unfold maxLen at r2; omega))
          clear hzr2 hbwr hlst2 hbW2 heq q3 r3 hl3
          rcases posA_cases l y with hpos | ⟨k0, hk0, hpos⟩
          · have HPOS := hid hpos
            have hcall := HSA.out
            rw [show posI l l.length y = -1 from hpos] at hcall
            clear hpos HSA
            have HEl := hid (HL2.out.keep (w' := wc.alloc (.cells #[.string y, .slice a2 yl cap2] 24)) (by simp) (fun b _ h2 => ((Below.refl wc.heap.size wc).alloc (Nat.le_refl _) _).block b h2))
            obtain ⟨cells, hrow, hits⟩ := HEl.out
            have HIT := hid hits
            have hXl : X < wc.heap.size := World.block_lt_of_cell? _ _ d0
            clear hits
            go_wp2_with fail
            go_fit hcall
            clear hcall
            rintro e w9 ⟨rfl, hw9⟩
            obtain rfl := hw9.symm
            go_wp2_with (at_builtin; refine wpList_append_lies _ rfl _ _ 28 rfl W2.heap.size 24 i0 (.agg #[.string ⟨#[]⟩, .slice none 0 0]) 2 40 Try.underlying28 HI.out HZ0.out HZ1.out HZ2.out rfl (by decide) _ l.length _ rfl hrow ⟨wc.heap.size, 0, none⟩ 1 1 [.string y, .slice a2 yl cap2] rfl rfl (cell_two_new _ _ _ _) (by simp [Value.oneCell']) (by decide) (by unfold maxLen; omega) (by omega) (by simp; omega) _ rfl ?_; intro g5 cap5 w5 hown5 hgrow5 hat5 hlt5)
            go_wp2_with fail
            go_roundw
            case rel =>
              have hy := HEL.out.len
              subst hy
              have hb5 := (Below.refl wc.heap.size wc).alloc (Nat.le_refl _) (.cells #[.string y, .slice a2 yf.length cap2] 24)
              have hD4 : StrsS (wc.alloc (.cells #[.string y, .slice a2 yf.length cap2] 24)) (fun b => W1.heap.size ≤ b ∧ b < (wc.alloc (.cells #[.string y, .slice a2 yf.length cap2] 24)).heap.size) a2 yf :=
                HQ3.out.keep (fun b hb => ⟨hb5.block b hb.2, hb.1, by simp; omega⟩)
              have hL5 := ShL.append (s := ⟨y, a2, yf, cap2⟩) HIT.out hrow.1 ⟨HEL.out.name, q1, q2⟩ hD4 (by omega) (fun k' hk' => by have := (hown k' hk').2; omega) hown5 hgrow5 hat5 rfl
              refine ⟨k + 1, by omega, by go_num, l ++ [⟨y, a2, yf, cap2⟩], ?_, hL5, ?_⟩
              · exact ((HB2.out.alloc (by omega) _).grown hgrow5 (by simp; omega) (fun j hj => (hown j hj).1))
              · rw [HEL.out.next, ← HEQ.out]
                exact put_new l ⟨y, a2, yf, cap2⟩ HPOS.out
            case measure => simp [intOf]; omega
          · have HPOS := hid hpos
            have hcall := HSA.out
            rw [show posI l l.length y = k0 from hpos] at hcall
            clear hpos HSA
            obtain ⟨g, rfl⟩ := hlst.adr0 (by omega)
            have hgl := hlst.own_lt (g := g) rfl
            obtain ⟨v0, v1, hzz, _, _, hz5⟩ := HL2.out.shs
            injection hzz with hzz1 hzz2 hzz3
            subst hzz1 hzz3
            obtain ⟨b', o', hbo, _, e0, e1, _⟩ := hz5 k0 hk0
            injection hbo with hbo
            injection hbo with hbo1 hbo2
            subst hbo1 hbo2
            rw [Nat.zero_add] at e0 e1
            have p0 := HL2.out.frozen rfl (k0 * 2)
            have p1 := HL2.out.frozen rfl (k0 * 2 + 1)
            generalize l[k0].name = n0 at e0
            generalize Value.slice l[k0].adr l[k0].fs.length l[k0].cap = n1 at e1
            have hne : ¬ g = X := by have := HZW.out; omega
            have hk0i : (k0 : Int) < l.length := by omega
            clear hz5
            go_wp2_with fail
            go_fit hcall
            clear hcall
            rintro e w9 ⟨rfl, hw9⟩
            obtain rfl := hw9.symm
            go_wp2_with fail
            go_roundw
            case rel =>
              have hy := HEL.out.len
              subst hy
              have hzz9 := HZW.out
              have hL5 := HL2.out.set (s := ⟨y, a2, yf, cap2⟩) (N := W1.heap.size) rfl hk0 ⟨HEL.out.name, q1, q2⟩ HQ3.out (by omega) (by omega)
              refine ⟨k + 1, by omega, by go_num, l.set k0 ⟨y, a2, yf, cap2⟩, ?_, by simpa using hL5, ?_⟩
              · exact (HB2.out.setCell (p := ⟨g, k0 * 2, none⟩) (show W2.heap.size ≤ g from hgl.1) _).setCell (p := ⟨g, k0 * 2 + 1, none⟩) (show W2.heap.size ≤ g from hgl.1) _
              · rw [HEL.out.next, ← HEQ.out]
                exact put_set l ⟨y, a2, yf, cap2⟩ k0 HPOS.out
            case measure => simp [intOf]; omega
    · obtain rfl : k = vl + ul := by omega
      have HR : Hid (l.map pairOf = behindP L) := hid (by rw [heq, List.take_of_length_le (by rw [HLn.out]; exact Nat.le_refl _)])
      clear heq hlst
      go_wp2_with fail
      go_ret
      exact ⟨la, lcap, l, rfl, HR.out, hl3, hb2.trans (hbr.mono (by omega))⟩
end Go.Proofs.Ytgdeomdnpgedbab

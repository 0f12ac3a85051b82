/- unit.Shapes: the records behind a unit. -/
import Derived.Test.YtgdeomdnpgedbabUSame
import Derived.Maps.OwnSet
import Derived.Deep.RegionWith
import Derived.Deep.CutBlock
import Derived.Deep.DeepCutAuto
namespace Go.Proofs.Ytgdeomdnpgedbab
open Go.RowKit Go.WideMaps Go.Maps
theorem info_shape : (Try.prog.info? 24).map (fun i => (i.zero, i.size, i.bytes)) = some (some (.agg #[.string ⟨#[]⟩, .slice none 0 0]), 2, 40) := by kernel_rfl
theorem ownsMap_block {w w' : World} {b n : Nat} {D : DataW Unit} (h : w.ownsMap Try.prog 9 (plainElem (H := Unit) Try.prog 3) b n D) (hb : w'.heap[b]? = w.heap[b]?) : w'.ownsMap Try.prog 9 (plainElem (H := Unit) Try.prog 3) b n D := by
  obtain ⟨es, c, e1, e2⟩ := h
  exact ⟨es, c, hb.trans e1, e2⟩
theorem Past.setCell {rb : Nat} {a w : World} (h : Past rb a w) {p : Addr} (hp : a.heap.size ≤ p.block) (u : Value) : Past rb a (w.setCell p u) := by
  have e := (Below.refl p.block w).setCell (Nat.le_refl _) u
  exact h.step e hp
theorem ShL.frozen {w : World} {B g len cap : Nat} {v : Value} {l : List Sh} (h : ShL w B v l) (hv : v = .slice (some ⟨g, 0, none⟩) len cap) (i : Nat) : w.frozen? ⟨g, i, none⟩ = false := by
  obtain ⟨cells, ho, _⟩ := h
  rcases ho.2 with ⟨hv', _⟩ | ⟨g', cap', cur, hv', hb, hc, _⟩
  · rw [hv] at hv'; cases hv'
  · rw [hv] at hv'; injection hv' with e; injection e with e; injection e with e
    subst e
    exact Joins.unfrozen_of_block hc i
theorem ShL.adr0 {w : World} {B : Nat} {a : Option Addr} {len cap : Nat} {l : List Sh} (h : ShL w B (.slice a len cap) l) (hl : 0 < l.length) : ∃ g, a = some ⟨g, 0, none⟩ := by
  obtain ⟨cells, ho, _⟩ := h
  rcases ho.2 with ⟨hv', h0⟩ | ⟨g', cap', cur, hv', hb, hc, _⟩
  · omega
  · injection hv' with e; exact ⟨g', e⟩
/-- What stands behind j records: the map tells their places, the list holds them. -/
def St (W4 : World) (P : Nat) (L : List (ByteArray × List ByteArray)) (j : Nat) (wr : World) (v : Value) : Prop :=
  ∃ (l : List Sh) (D : DataW Unit), Past P W4 wr ∧ wr.ownsMap Try.prog 9 (plainElem (H := Unit) Try.prog 3) P j D ∧ Tells D l ∧ ShL wr W4.heap.size v l ∧ l.map pairOf = behindP (L.take j)
/-- One of both lists. -/
structure Sel (w : World) (B : Nat) (L : List (ByteArray × List ByteArray)) (off off' : Nat) (Lt : List Sh) (a : Option Addr) (n : Nat) : Prop where
  len : n = Lt.length
  shs : Shs w B a Lt
  fs : ∀ s ∈ Lt, s.fs.length ≤ 2097152
  get : ∀ k (h : k < Lt.length), ∃ h' : off + k < L.length, L[off + k] = pairOf Lt[k]
  next : off' = off + n
theorem sel_one {w : World} {B : Nat} {va : Option Addr} {V U : List Sh} {vl : Nat} (hV : Shs w B va V) (hv : vl = V.length) (hfs : ∀ s ∈ V ++ U, s.fs.length ≤ 2097152) : Sel w B ((V ++ U).map pairOf) 0 vl V va vl :=
  ⟨hv, hV, fun s hs => hfs s (List.mem_append_left _ hs), fun k h => ⟨by simp; omega, by rw [List.getElem_map]; simp only [Nat.zero_add]; rw [List.getElem_append_left h]⟩, by omega⟩
theorem sel_two {w : World} {B : Nat} {ua : Option Addr} {V U : List Sh} {vl ul : Nat} (hU : Shs w B ua U) (hv : vl = V.length) (hu : ul = U.length) (hfs : ∀ s ∈ V ++ U, s.fs.length ≤ 2097152) : Sel w B ((V ++ U).map pairOf) vl (vl + ul) U ua ul :=
  ⟨hu, hU, fun s hs => hfs s (List.mem_append_right _ hs), fun k h => ⟨by simp; omega, by subst hv; rw [List.getElem_map, List.getElem_append_right (by omega)]; simp⟩, rfl⟩
set_option maxHeartbeats 4000000 in
theorem Shapes_any (B : Nat) (va ua ga da pa : Option Addr) (V U : List Sh) (vl vc ul uc gl gc dl dc pl pc : Nat) (w : World) (hV : Shs w B va V) (hU : Shs w B ua U) (hB : B ≤ w.heap.size) (hvl : vl = V.length) (hul : ul = U.length)
    (hsum : vl + ul ≤ 2097152) (hfs : ∀ s ∈ V ++ U, s.fs.length ≤ 2097152) :
    Calls Try.prog 10 #[.agg #[.slice ga gl gc, .slice va vl vc], .agg #[.slice ua ul uc, .slice da dl dc, .slice pa pl pc]] w fun e w' =>
      ∃ a cap l, e = .returned (.slice a (List.length l) cap) ∧ l.map pairOf = behindP ((V ++ U).map pairOf) ∧ Shs w' w'.heap.size a l ∧ Below w.heap.size w w' := by
  have hmm := @run_makeMap Try.prog
  have HV := hid (sel_one (U := U) hV hvl hfs)
  have HU := hid (sel_two (V := V) hU hvl hul hfs)
  have HLn : Hid (((V ++ U).map pairOf).length = vl + ul) := hid (by simp; omega)
  clear hvl hul hV hU hfs
  generalize (V ++ U).map pairOf = L at HV HU HLn
  obtain ⟨W4, hW4⟩ : ∃ W4, W4 = (((w.alloc (.cells #[.slice ga gl gc, .slice va vl vc] 30)).alloc (.cells #[.slice ua ul uc, .slice da dl dc, .slice pa pl pc] 36)).alloc (.map #[] 0)).alloc (.cells #[.slice va vl vc, .slice ua ul uc] 28) := ⟨_, rfl⟩
  have hz4 : W4.heap.size = w.heap.size + 1 + 1 + 1 + 1 := by rw [hW4]; simp
  have hb4 : Below w.heap.size w W4 := by rw [hW4]; exact (((((Below.refl _ _).alloc (Nat.le_refl _) _).alloc (by simp) _).alloc (by simp; omega) _).alloc (by simp; omega) _)
  have hm4 : W4.ownsMap Try.prog 9 (plainElem (H := Unit) Try.prog 3) (w.heap.size + 1 + 1) 0 (.map []) := by
    rw [hW4]
    refine World.ownsMap.alloc ?_ _
    have h := World.ownsMap_made ((w.alloc (.cells #[.slice ga gl gc, .slice va vl vc] 30)).alloc (.cells #[.slice ua ul uc, .slice da dl dc, .slice pa pl pc] 36)) Try.prog 9 (plainElem (H := Unit) Try.prog 3)
    rw [show ((w.alloc (.cells #[.slice ga gl gc, .slice va vl vc] 30)).alloc (.cells #[.slice ua ul uc, .slice da dl dc, .slice pa pl pc] 36)).heap.size = w.heap.size + 1 + 1 from by simp] at h
    exact h
  have hq0 : W4.cell? ⟨w.heap.size + 1 + 1 + 1, 0, none⟩ = some (.slice va vl vc) := by rw [hW4]; go_simp
  have hq1 : W4.cell? ⟨w.heap.size + 1 + 1 + 1, 1, none⟩ = some (.slice ua ul uc) := by rw [hW4]; go_simp
  have HSt0 : Hid (St W4 (w.heap.size + 1 + 1) L 0 W4 (.slice none 0 0)) := hid ⟨[], _, Past.refl _ _, hm4, Tells.nil, ShL.nil _ _, rfl⟩
  have HW := hid hW4
  have HSel : Hid (∀ t : Nat, t < 2 → ∃ off off' Lt a n c, Sel w B L off off' Lt a n ∧ W4.cell? ⟨w.heap.size + 1 + 1 + 1, t, none⟩ = some (.slice a n c) ∧ (if t = 0 then 0 else vl) = off ∧ (if t + 1 = 0 then 0 else if t + 1 = 1 then vl else vl + ul) = off') := hid (fun t ht => by
    rcases (show t = 0 ∨ t = 1 by omega) with rfl | rfl
    · exact ⟨_, _, _, _, _, _, HV.out, hq0, rfl, rfl⟩
    · exact ⟨_, _, _, _, _, _, HU.out, hq1, rfl, rfl⟩)
  clear hW4 hm4 hq0 hq1
  go_enter Try.func10, Try.ntmps10
  go_wp2_with fail
  rw [← HW.out]
  go_loopw [5, 20] (fun v i wr => ∃ t : Nat, t ≤ 2 ∧ i = .int .i64 t ∧ St W4 (w.heap.size + 1 + 1) L (if t = 0 then 0 else if t = 1 then vl else vl + ul) wr v) (fun _ i _ => 2 - (intOf i).toNat)
  case atStart => exact ⟨0, by omega, rfl, HSt0.out⟩
  case round =>
    obtain ⟨t, ht, rfl, hst⟩ := hrel
    have HST := hid hst
    clear hst
    by_cases hlt : t < 2
    · obtain ⟨off, off', Lt, a, n, c, hsel, hq, ho1, ho2⟩ := HSel.out t hlt
      have hlt2 : (t : Int) < 2 := by omega
      obtain ⟨l, D, hpast, hown, htell, hlst, heq⟩ := HST.out
      have hq2 := (hpast.cell (p := ⟨w.heap.size + 1 + 1 + 1, t, none⟩) (by show w.heap.size + 1 + 1 + 1 < _; omega) (by show ¬ w.heap.size + 1 + 1 + 1 = _; omega)).trans hq
      clear hpast hown htell hlst heq hq
      go_wp2_with fail
      go_loopw [5, 26] (fun v i wr => ∃ k : Nat, k ≤ n ∧ i = .int .i64 k ∧ St W4 (w.heap.size + 1 + 1) L (off + k) wr v) (fun _ i _ => n - (intOf i).toNat)
      case atStart => exact ⟨0, Nat.zero_le _, rfl, by rw [Nat.add_zero, ← ho1]; rcases (show t = 0 ∨ t = 1 by omega) with rfl | rfl <;> exact HST.out⟩
      case round =>
        clear hq2 HST
        obtain ⟨k, hk, rfl, l, D, hpast, hown, htell, hlst, heq⟩ := hrel
        obtain ⟨la, lcap, rfl, hl1, hl2, hl3⟩ := hlst.shs
        have hbw := hid (hb4.trans (hpast.below (by omega) (by omega)))
        have hzr := hpast.size
        by_cases hkn : k < n
        · have hkl : k < Lt.length := by rw [← hsel.len]; exact hkn
          obtain ⟨hkL, hget⟩ := hsel.get k hkl
          obtain ⟨b, o, rfl, hbB, c0, c1, hn1, hn2, hn3, hn4⟩ := (hsel.shs.below (hbw.out.mono hB)) k hkl
          have hfs1 := hsel.fs _ (List.getElem_mem hkl)
          have HNX := hid (behindP_take L (off + k) hkL)
          rw [hget] at HNX
          unfold pairOf at HNX
          generalize (Lt[k]'hkl).name = y at c0 hn1 HNX
          generalize (Lt[k]'hkl).adr = ya at c1 hn4
          generalize (Lt[k]'hkl).fs = yf at c1 hn2 hn3 hn4 hfs1 HNX
          generalize (Lt[k]'hkl).cap = yc at c1 hn2
          generalize hyl : yf.length = yl at c1 hfs1
          have HY := hid hyl
          clear hyl hn2 hn3 hget
          have hS1 := hid (hn4.below ((Below.refl B wr).alloc (show B ≤ wr.heap.size by omega) (.cells #[.string y, .slice ya yl yc] 24)))
          clear hn4
          go_wp2_with fail
          have hcall := clone_any B ya yf yl yc _ hS1.out HY.out.symm (by omega)
          go_fit hcall
          clear hcall
          rintro e w2 ⟨a2, cap2, rfl, q1, q2, q3, hb2⟩
          have hb2' : Below (wr.heap.size + 1) (wr.alloc (.cells #[.string y, .slice ya yl yc] 24)) w2 := hb2.mono (by simp)
          obtain ⟨g0, g1⟩ := box22 hb2'
          have f1 : w2.frozen? ⟨wr.heap.size, 1, none⟩ = false := by rw [hb2'.frozen (p := ⟨wr.heap.size, 1, none⟩) (show wr.heap.size < wr.heap.size + 1 by omega)]; go_simp
          have hz2 : wr.heap.size + 1 ≤ w2.heap.size := by have h := hb2'.size; simpa using h
          have hbA := (((Below.refl wr.heap.size wr).alloc (Nat.le_refl _) (.cells #[.string y, .slice ya yl yc] 24)).trans (hb2'.mono (by omega)))
          obtain ⟨w3, hw3⟩ : ∃ w3, w3 = w2.setCell ⟨wr.heap.size, 1, none⟩ (.slice a2 yl cap2) := ⟨_, rfl⟩
          have hz3 : w3.heap.size = w2.heap.size := by rw [hw3]; simp
          have hbB3 : Below wr.heap.size wr w3 := by rw [hw3]; exact hbA.setCell (p := ⟨wr.heap.size, 1, none⟩) (Nat.le_refl _) _
          have x0 : w3.cell? ⟨wr.heap.size, 0, none⟩ = some (.string y) := by rw [hw3]; go_simp
          have x1 : w3.cell? ⟨wr.heap.size, 1, none⟩ = some (.slice a2 yl cap2) := by rw [hw3]; go_simp
          have hD3 : StrsS w3 (fun b => wr.heap.size + 1 ≤ b ∧ b < w3.heap.size) a2 yf := q3.keep (fun b hb => ⟨by rw [hw3]; exact Below.heap_setCell _ _ _ _ (by have := hb.1; simp at this; show ¬ b = wr.heap.size; omega), by have := hb.1; simpa using this, by rw [hz3]; exact hb.2⟩)
          have hlst3 : ShL w3 W4.heap.size (.slice la l.length lcap) l := hlst.keep hbB3.size (fun b _ h2 => hbB3.block b h2)
          have hown3 : w3.ownsMap Try.prog 9 (plainElem (H := Unit) Try.prog 3) (w.heap.size + 1 + 1) (off + k) D := ownsMap_block hown (hbB3.block _ hown.lt)
          have hpast3 : Past (w.heap.size + 1 + 1) W4 w3 := hpast.step hbB3 hzr
          have HW3 := hid hw3
          have HB3 := hid hbB3
          have HD3 := hid hD3
          have HL3 := hid hlst3
          have HP3 := hid hpast3
          clear hw3 hbA hb2 hb2' hbB3 hD3 hlst3 hpast3 q3 hown hpast hl3 c0 c1
          have hlim : off + k < 2097152 := by have := HLn.out; omega
          have hll : l.length ≤ off + k := by
            have h1 := behindP_len (L.take (off + k))
            rw [← heq] at h1
            simp at h1
            omega
          have HEQ := hid heq
          clear heq
          have hlr : wr.heap.size < w3.heap.size := by omega
          rcases posA_cases l y with hpos | ⟨k0, hk0, hpos⟩
          · have hhas : Maps.has D (.string y.data.toList) = false := by rw [htell.has, hpos]; rfl
            have HPOS := hid hpos
            clear hpos
            have hx4 : Hid (∀ w4, w3.grownBy w4 (some (w.heap.size + 1 + 1)) → w4.cell? ⟨wr.heap.size, 0, none⟩ = some (.string y) ∧ w4.cell? ⟨wr.heap.size, 1, none⟩ = some (.slice a2 yl cap2)) := hid (fun w4 hg =>
              ⟨(World.cell?_of_block (w := w3) (a := ⟨wr.heap.size, 0, none⟩) (hg.block _ (by show wr.heap.size < _; omega) (fun e => by injection e with e; have : wr.heap.size = w.heap.size + 1 + 1 := e; omega))).trans x0,
               (World.cell?_of_block (w := w3) (a := ⟨wr.heap.size, 1, none⟩) (hg.block _ (by show wr.heap.size < _; omega) (fun e => by injection e with e; have : wr.heap.size = w.heap.size + 1 + 1 := e; omega))).trans x1⟩)
            have hrow4 : Hid (∀ w4, w3.grownBy w4 (some (w.heap.size + 1 + 1)) → ShL (w4.alloc (.cells #[.string y, .slice a2 yl cap2] 24)) W4.heap.size (.slice la l.length lcap) l) := hid (fun w4 hg =>
              (HL3.out.keep hg.size (fun b h1 h2 => hg.block b h2 (fun e => by injection e with e; omega))).keep (by simp) (fun b _ h2 => ((Below.refl w4.heap.size w4).alloc (Nat.le_refl _) _).block b h2))
            obtain ⟨i0, hi, hz0, hz1, hz2'⟩ := info_parts info_shape
            have HI := hid hi
            have HZ0 := hid hz0
            have HZ1 := hid hz1
            have HZ2 := hid hz2'
            clear hi hz0 hz1 hz2'
            go_wp2_with (first
              | (rw [← HW3.out]; at_lookup; refine wpList_lookup_own_ok_int _ rfl _ _ 40 rfl 9 3 .i64 lawK Try.underlying40 Try.underlying3 (zeroI _) (w.heap.size + 1 + 1) _ D rfl hown3 _ _ rfl (keyOf_string_mk Try.underlying9 hn1) ?_; intro cc hat hwc)
              | (at_mapUpdate; refine wpList_mapUpdate_own _ rfl _ _ _ 40 rfl 9 3 lawK Try.underlying40 _ (w.heap.size + 1 + 1) (off + k) D rfl hown3 (by unfold maxLen; omega) _ _ _ rfl rfl (keyOf_string_mk Try.underlying9 hn1) _ [] (plainElem_int Try.underlying3 (WalkArith.wf_i64 (by omega))) ?_; intro w4 hown4 hgrow4; obtain ⟨y0, y1⟩ := hx4.out w4 hgrow4; obtain ⟨cells, hrow, hits⟩ := hrow4.out w4 hgrow4; have HIT := hid hits; clear hits)
              | (at_builtin; refine wpList_append_lies _ rfl _ _ 28 rfl W4.heap.size 24 i0 (.agg #[.string ⟨#[]⟩, .slice none 0 0]) 2 40 Try.underlying28 HI.out HZ0.out HZ1.out HZ2.out rfl (by decide) _ l.length _ rfl hrow ⟨w4.heap.size, 0, none⟩ 1 1 [.string y, .slice a2 yl cap2] rfl rfl (cell_two_new _ _ _ _) (by simp [Value.oneCell']) (by decide) (by unfold maxLen; omega) (by omega) (by have := hgrow4.size; simp; omega) _ rfl ?_; intro g5 cap5 w5 hown5 hgrow5 hat5 hlt5))
            go_wp2_with fail
            go_roundw
            case rel =>
              have hy := HY.out
              subst hy
              have hz4 := hgrow4.size
              have hb4a := (Below.refl w4.heap.size w4).alloc (Nat.le_refl _) (.cells #[.string y, .slice a2 yf.length cap2] 24)
              have hD4 : StrsS (w4.alloc (.cells #[.string y, .slice a2 yf.length cap2] 24)) (fun b => wr.heap.size + 1 ≤ b ∧ b < (w4.alloc (.cells #[.string y, .slice a2 yf.length cap2] 24)).heap.size) a2 yf :=
                HD3.out.keep (fun b hb => ⟨(hb4a.block b (by omega)).trans (hgrow4.block b hb.2 (fun e => by injection e with e; omega)), hb.1, by simp; omega⟩)
              have hL5 := ShL.append (s := ⟨y, a2, yf, cap2⟩) HIT.out hrow.1 ⟨hn1, q1, q2⟩ hD4 (by omega) (fun k' hk' => by have := (hlst.own_lt hk').2; omega) hown5 hgrow5 hat5 rfl
              have hrowlt : ∀ k', (Value.slice la l.length lcap).ownBlock = some k' → W4.heap.size ≤ k' := fun k' hk' => (hlst.own_lt hk').1
              refine ⟨k + 1, by omega, by go_num, l ++ [⟨y, a2, yf, cap2⟩], _, ?_, ?_, htell.put ⟨y, a2, yf, cap2⟩ HPOS.out, hL5, ?_⟩
              · exact ((HP3.out.grown hgrow4 (fun k' hk' => by injection hk' with hk'; exact Or.inl hk'.symm)).step hb4a (by omega)).grown hgrow5 (fun k' hk' => Or.inr (hrowlt k' hk'))
              · rw [← Nat.add_assoc]
                exact (hown4.alloc _).kept hgrow5 (fun e => by have := hrowlt _ e.symm; omega)
              · rw [← Nat.add_assoc, HNX.out, ← HEQ.out]
                exact put_new l ⟨y, a2, yf, cap2⟩ HPOS.out
            case measure => simp [intOf]; omega
          · have hhas : Maps.has D (.string y.data.toList) = true := by rw [htell.has, hpos]; simp
            have hat0 := hid (htell.at' y k0 hpos)
            obtain ⟨_, hnm⟩ := posA_name l y k0 hpos
            have HPOS := hid hpos
            have HNM := hid hnm
            clear hpos hnm
            obtain ⟨g, rfl⟩ := hlst.adr0 (by omega)
            have hgl := hlst.own_lt (g := g) rfl
            obtain ⟨z0, z1, hzz, hz3', hz4', hz5⟩ := HL3.out.shs
            injection hzz with hzz1 hzz2 hzz3
            subst hzz1 hzz3
            obtain ⟨b', o', hbo, _, d0, d1, _⟩ := hz5 k0 hk0
            injection hbo with hbo
            injection hbo with hbo1 hbo2
            subst hbo1 hbo2
            rw [Nat.zero_add] at d0 d1
            have e0 := HL3.out.frozen rfl (k0 * 2)
            have e1 := HL3.out.frozen rfl (k0 * 2 + 1)
            generalize l[k0].name = n0 at d0
            generalize Value.slice l[k0].adr l[k0].fs.length l[k0].cap = n1 at d1
            have hne : ¬ g = wr.heap.size := by omega
            have hk0i : (k0 : Int) < l.length := by omega
            clear hz5
            go_wp2_with (rw [← HW3.out]; at_lookup; refine wpList_lookup_own_ok_int _ rfl _ _ 40 rfl 9 3 .i64 lawK Try.underlying40 Try.underlying3 (zeroI _) (w.heap.size + 1 + 1) _ D rfl hown3 _ _ rfl (keyOf_string_mk Try.underlying9 hn1) ?_; intro cc hat hwc; obtain rfl : cc = (k0 : Int) := by rw [hat0.out] at hat; injection hat with hat; injection hat with _ hat; exact hat.symm)
            go_roundw
            case rel =>
              have hy := HY.out
              subst hy
              have hL5 := HL3.out.set (s := ⟨y, a2, yf, cap2⟩) (N := wr.heap.size + 1) rfl hk0 ⟨hn1, q1, q2⟩ HD3.out (by omega) (by omega)
              refine ⟨k + 1, by omega, by go_num, l.set k0 ⟨y, a2, yf, cap2⟩, D, ?_, ?_, htell.set ⟨y, a2, yf, cap2⟩ k0 hk0 HNM.out, by simpa using hL5, ?_⟩
              · exact (HP3.out.setCell (p := ⟨g, k0 * 2, none⟩) (show W4.heap.size ≤ g from hgl.1) _).setCell (p := ⟨g, k0 * 2 + 1, none⟩) (show W4.heap.size ≤ g from hgl.1) _
              · rw [← Nat.add_assoc]
                exact ((hown3.setCell (a := ⟨g, k0 * 2, none⟩) (show w.heap.size + 1 + 1 ≠ g by omega) _).setCell (a := ⟨g, k0 * 2 + 1, none⟩) (show w.heap.size + 1 + 1 ≠ g by omega) _).mono (by omega)
              · rw [← Nat.add_assoc, HNX.out, ← HEQ.out]
                exact put_set l ⟨y, a2, yf, cap2⟩ k0 HPOS.out
            case measure => simp [intOf]; omega
        · obtain rfl : k = n := by omega
          go_wp2_with fail
          go_roundw
          case rel => exact ⟨t + 1, by omega, by go_num, by rw [show (if t + 1 = 0 then 0 else if t + 1 = 1 then vl else vl + ul) = off + k from by rw [ho2, hsel.next]]; exact ⟨l, D, hpast, hown, htell, hlst, heq⟩⟩
          case measure => simp [intOf]; omega
    · obtain rfl : t = 2 := by omega
      obtain ⟨l, D, hpast, hown, htell, hlst, heq⟩ := HST.out
      obtain ⟨a, cap, rfl, h1, h2, h3⟩ := hlst.shs
      have HR : Hid (l.map pairOf = behindP L) := hid (by rw [heq]; simp only [show ¬ (2 : Nat) = 0 by omega, show ¬ (2 : Nat) = 1 by omega, if_false]; rw [List.take_of_length_le (by rw [HLn.out]; exact Nat.le_refl _)])
      clear heq hown htell hlst
      go_wp2_with fail
      go_ret
      exact ⟨a, cap, l, rfl, HR.out, h3, hb4.trans (hpast.below (by omega) (by omega))⟩
end Go.Proofs.Ytgdeomdnpgedbab

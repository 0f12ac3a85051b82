/- The document's one datum: a list. -/
import Derived.Test.YtmgpppijildccaaDoorOne2
namespace Go.Proofs.YtmgpppijildccaaDoor
open Go.RowKit
set_option linter.unusedSimpArgs false
set_option linter.unusedVariables false
theorem Box.set3 {w : World} {g : Nat} {v0 v1 v2 v3 : Value} (h : Box w g v0 v1 v2 v3) (x : Value) : Box (w.setCell ⟨g, 3, none⟩ x) g v0 v1 v2 x := by
  obtain ⟨c0, c1, c2, c3, f0, f1, f2, f3⟩ := h
  constructor <;> go_simp
theorem gbox {Q : Prop} {w2 Wa w3 : World} {G : Nat} {v0 v1 v2 v3 : Value} {row : Option Nat} (hb : Below w2.heap.size w2 Wa) (hx : Box w2 G v0 v1 v2 v3) (hg : Wa.grownBy w3 row) (hr : ∀ k, row = some k → G + 1 ≤ k) (k : Box w3 G v0 v1 v2 v3 → Q) : Q := by
  have ha := hx.below hb hx.lt
  exact k (ha.of_block (hg.block _ ha.lt (fun e => by have := hr G e.symm; omega)))
theorem tlist_end {w wr : World} {tb B d : Nat} {s : ByteArray} {pl cc : Nat} {b : Int} {acc : List (DataW Unit)} {a : Option Addr} {cap : Nat} (hrb : tb < w.heap.size) (hB : w.heap.size + 1 ≤ B) (hT : Tx wr tb s pl cc b 0) (hlt : pl < s.size) (hcap : acc.length ≤ cap) (hac : acc.length ≤ 400) (nq : Nat)
    (hrow : RowD wr (fun b => B ≤ b ∧ b < wr.heap.size) (Dat wr (fun b => B ≤ b ∧ b < wr.heap.size) d) acc a acc.length) :
    OutO w ((((((wr.drewN nq).setCell ⟨tb, 1, none⟩ (.int .i64 ((pl : Int) + 1))).setCell ⟨w.heap.size, 0, none⟩ (.int .i64 4)).setCell ⟨w.heap.size, 1, none⟩ (.int .i64 0)).setCell ⟨w.heap.size, 2, none⟩ (.string ⟨#[]⟩)).setCell ⟨w.heap.size, 3, none⟩ (.slice a acc.length cap)) tb s (d + 1)
      (.inr (.slice acc [], (s.data.toList.drop pl).tail, cc)) (.returned (.agg #[.int .i64 4, .int .i64 0, .string ⟨#[]⟩, .slice a acc.length cap])) := by
  refine ⟨_, _, _, _, _, _, b, rfl, ?_, Or.inr ⟨acc, a, acc.length, cap, rfl, rfl, rfl, rfl, rfl, ⟨hcap, by omega⟩, ?_⟩⟩
  · rw [show s.size - (s.data.toList.drop pl).tail.length = pl + 1 from by simp; omega]
    exact ((hT.drewN nq).setPlace (pl + 1) _ (by omega)).set4 (by omega) _ _ _ _
  · refine RowD.keep (fun b hb => ⟨?_, by omega, by simp; exact hb.2⟩) hrow
    rw [heap_set4 _ (by omega), Below.heap_setCell _ _ _ _ (by show ¬ b = tb; omega)]
    rfl
set_option maxRecDepth 100000 in
set_option maxHeartbeats 8000000 in
theorem one_list (d : Nat) (ih : OneSaid d) (tb : Nat) (s : ByteArray) (p c : Nat) (b : Int) (w : World) (l : Int) (hT : Tx w tb s p c b 0) (hp : p ≤ s.size) (hs : s.size ≤ 3000) (hl : 1 ≤ l) (hd : l + (d + 1) = 41)
    (pl : Nat) (hpl : skipTo s.data.toList p = pl) (h1 : pl < s.size) (h4 : ¬ 400 ≤ c) (h40 : s[pl].toNat = 40) :
    Calls Tryd.prog 26 #[.pointer (some ⟨tb, 0, none⟩), .int .i64 l] w fun e w' => OutO w w' tb s (d + 1) (pDatum (d + 1) (s.data.toList.drop p) c) e ∧ Past tb w w' := by
  have hlt := hT.lt
  have hsk := one_skip hT hp hs
  have HDr := hid (drop_skipTo s p)
  rw [hpl] at hsk HDr
  have hD0 := hid (HDr.out.symm.trans (drop_at s pl h1))
  have hpi : (pl : Int) < s.size := by omega
  have hpe : ((pl : Int) == s.size) = false := beq_eq_false_iff_ne.2 (by omega)
  have h4i : ¬ (400 : Int) < (c : Int) + 1 := by omega
  have hli : ¬ (40 : Int) < l := by omega
  have b41 : ((s[pl].toNat : Int) == 41) = false := by simp; omega
  have b39 : ((s[pl].toNat : Int) == 39) = false := by simp; omega
  have b40 : ((s[pl].toNat : Int) == 40) = true := by simp [h40]
  have HE := hid (pDatum_list (d := d) hD0.out h4 h40)
  clear h40 hpl
  obtain ⟨i0, hi, hz0, hz1', hz2'⟩ := info_parts info_datum
  have HI := hid hi
  have HZ0 := hid hz0
  have HZ1 := hid hz1'
  have HZ2 := hid hz2'
  clear hi hz0 hz1' hz2'
  go_enter Tryd.func26, Tryd.ntmps26
  go_wp2_with fail
  go_fit hsk
  clear hsk
  rintro e w1 ⟨rfl, hT1, hP1, hz1, hB1⟩
  have HT1 := hid hT1
  have HB1 := hid hB1
  obtain ⟨c0, c1, c2, c3, c4, f1, f2, f3, f4⟩ := hT1
  obtain ⟨W2, hW2⟩ : ∃ W2, W2 = (w1.setCell ⟨tb, 2, none⟩ (.int .i64 ((c : Int) + 1))).setCell ⟨tb, 1, none⟩ (.int .i64 ((pl : Int) + 1)) := ⟨_, rfl⟩
  have HT2 : Hid (Tx W2 tb s (pl + 1) (c + 1) b 0) := by rw [hW2]; exact (HT1.out.setCount (c + 1) _ (by omega)).setPlace (pl + 1) _ (by omega)
  have HP2 : Hid (Past tb w W2) := by rw [hW2]; exact Past.setCell (p := ⟨tb, 1, none⟩) (Past.setCell (p := ⟨tb, 2, none⟩) hP1 (Or.inl rfl) _) (Or.inl rfl) _
  have HB2 : Hid (Box W2 w.heap.size (.int .i64 0) (.int .i64 0) (.string ⟨#[]⟩) (.slice none 0 0)) := by
    rw [hW2]
    exact HB1.out.of_block ((Below.heap_setCell (w1.setCell ⟨tb, 2, none⟩ (.int .i64 ((c : Int) + 1))) ⟨tb, 1, none⟩ _ w.heap.size (by show ¬ w.heap.size = tb; omega)).trans (Below.heap_setCell w1 ⟨tb, 2, none⟩ _ w.heap.size (by show ¬ w.heap.size = tb; omega)))
  obtain ⟨G, hG⟩ : ∃ G, G = w1.heap.size := ⟨_, rfl⟩
  have hz2 : W2.heap.size = G := by rw [hW2, hG]; simp
  have hGw : w.heap.size < G := by omega
  have hBd := Box.new W2 (.int .i64 4) (.int .i64 0) (.string ⟨#[]⟩) (.slice none 0 0) 24
  rw [hz2] at hBd
  have HBd := hid hBd
  have HW2 := hid hW2
  have HG := hid hG
  clear hW2 hBd hG
  go_wp2_with fail
  rw [← HW2.out, ← HG.out]
  go_loopg [9] 401 (fun k x wr => (∃ acc pl cc v b, pItems (pDatum d) k acc (skipB false (s.data.toList.drop pl)) cc = pDatum (d + 1) (s.data.toList.drop p) c ∧ acc.length ≤ cc ∧ cc ≤ 400 ∧ 401 ≤ k + cc ∧ pl ≤ s.size ∧ Tx wr tb s pl cc b 0 ∧ Past tb w wr ∧ Box wr w.heap.size (.int .i64 0) (.int .i64 0) (.string ⟨#[]⟩) (.slice none 0 0) ∧ Box wr G (.int .i64 4) (.int .i64 0) (.string ⟨#[]⟩) v ∧ Lst wr (G + 1) 24 d v acc) ∨
      (∃ y q p' c' a len cap, pDatum (d + 1) (s.data.toList.drop p) c = .inl (y, q) ∧ ¬ y = 0 ∧ p' ≤ s.size ∧ Tx wr tb s p' c' ((s.size - q.length : Nat) : Int) y ∧ Past tb w wr ∧ Box wr w.heap.size (.int .i64 0) (.int .i64 0) (.string ⟨#[]⟩) (.slice none 0 0) ∧ Box wr G (.int .i64 4) (.int .i64 0) (.string ⟨#[]⟩) (.slice a len cap)))
  case atStart => exact Or.inl ⟨[], pl + 1, c + 1, _, b, HE.out.symm, Nat.zero_le _, by omega, by omega, by omega, HT2.out.alloc _, HP2.out.alloc _, HB2.out.below ((Below.refl _ _).alloc (Nat.le_refl _) _) HB2.out.lt, HBd.out, Lst.nil _ _ _ _⟩
  case round =>
    rcases hrel with ⟨acc, pl', cc, v, b', hit, hac, hcc, hk, hpl', hTr, hPr, hBr, hBG, hLr⟩ | ⟨y, q, p', c', a, len, cap, hres, hy0, hp', hTr, hPr, hBr, hBG⟩
    · obtain ⟨m, rfl⟩ : ∃ m, gk = m + 1 := ⟨gk - 1, by omega⟩
      have HIT := hid hit
      have hzr := hPr.size
      have hGr := hBG.lt
      have HTr := hid hTr
      have HBr := hid hBr
      have HBG := hid hBG
      have hskp := tskip_any tb s pl' cc b' 0 wr hTr hpl' hs
      have HDs := hid (drop_skipTo s pl')
      have hpS := skipTo_le s pl'
      obtain ⟨a, cap, hv, hcap, hrow⟩ := hLr.shape
      subst hv
      have HLr := hid hLr
      have HOwn : Hid (∀ k, (Value.slice a acc.length cap).ownBlock = some k → G + 1 ≤ k ∧ k < wr.heap.size) := fun k hk => HLr.out.own_lt hk
      clear hit hrow hLr c0 c1 c2 c3 c4 f1 f2 f3 f4
      obtain ⟨c0, c1, c2, c3, c4, f1, f2, f3, f4⟩ := hTr
      generalize skipTo s.data.toList pl' = pS at hskp HDs hpS
      go_wp2_with fail
      go_fit hskp
      clear hskp c0 c1 c2 c3 c4 f1 f2 f3 f4
      rintro e wS ⟨rfl, hTs, hPs⟩
      have HTs := hid hTs
      have HBRs := hid (hBr.past hPs (by omega))
      have HBGs := hid (hBG.past hPs (by omega))
      have HLs := hid (HLr.out.past hPs (by omega))
      have hzs := hPs.size
      rw [← HDs.out] at HIT
      obtain ⟨c0, c1, c2, c3, c4, f1, f2, f3, f4⟩ := hTs
      by_cases hex : ∃ h : pS < s.size, (s[pS].toNat : Int) = 41
      · obtain ⟨hl1, h41⟩ := hex
        have hpSi : (pS : Int) < s.size := by omega
        have hq0 : (0 : Int) ≤ pS := by omega
        have q41 : ((s[pS].toNat : Int) == 41) = true := by simp [h41]
        have HDone := hid (HIT.out.symm.trans (pItems_done (by rw [drop_at s pS hl1]; simp; omega)))
        obtain ⟨a2, cap2, hv2, hcap2, hrow2⟩ := HLs.out.shape
        obtain ⟨rfl, _, rfl⟩ : a = a2 ∧ acc.length = acc.length ∧ cap = cap2 := by simpa using hv2
        have HRow := hid hrow2
        clear h41 hv2 hrow2
        obtain ⟨x0, x1, x2, x3, y0, y1, y2, y3⟩ := HBRs.out
        obtain ⟨n0, n1, n2, n3, m0, m1, m2, m3⟩ := HBGs.out
        go_wp2_with fail
        go_quiet (fail)
        go_wp2_with fail
        refine bodyPost_ret (v := .agg #[.int .i64 4, .int .i64 0, .string ⟨#[]⟩, .slice a acc.length cap]) (by simp [results, Tryd.results26, go_sem, x0, x1, x2, x3]) rfl ?_
        refine ⟨?_, past_set4 (Past.setCell (p := ⟨tb, 1, none⟩) ((hPr.trans hPs).drewN _) (Or.inl rfl) _) (Nat.le_refl _) _ _ _ _⟩
        rw [HDone.out]
        exact tlist_end hlt (by omega) HTs.out hl1 hcap (by omega) nq HRow.out
      · have hhead : ¬ (s.data.toList.drop pS).head?.map UInt8.toNat = some 41 := by
          intro hh
          by_cases hl1 : pS < s.size
          · rw [drop_at s pS hl1] at hh
            simp at hh
            exact hex ⟨hl1, by omega⟩
          · rw [List.drop_of_length_le (by simp; omega)] at hh
            simp at hh
        have hgo : (∃ h : pS < s.size, (pS : Int) < s.size ∧ ((s[pS].toNat : Int) == 41) = false) ∨ ((s.size : Int) ≤ pS ∧ ¬ pS < s.size) := by
          by_cases hl1 : pS < s.size
          · exact Or.inl ⟨hl1, by omega, by simp; intro e; exact hex ⟨hl1, by omega⟩⟩
          · exact Or.inr ⟨by omega, hl1⟩
        have hgood := pDatum_good d (s.data.toList.drop pS) cc
        have HH := hid hhead
        have hq0 : (0 : Int) ≤ pS := by omega
        clear hhead hex
        cases hD : pDatum d (s.data.toList.drop pS) cc with
        | inl eq =>
          obtain ⟨x, q⟩ := eq
          rw [hD] at hgood
          have hx0 := hgood.2
          have HErr := hid (HIT.out.symm.trans (pItems_err HH.out hD))
          have HD := hid hD
          clear hD hgood
          rcases hgo with ⟨hl1, hpSi, q41⟩ | ⟨hpSi, q41⟩
          all_goals
            go_wp2_with fail
            go_quiet (fail)
            have hcall := ih tb s pS cc b' (wS.drewN nq) (l + 1) (HTs.out.drewN nq) hpS hs hcc (by omega) (by omega)
            rw [HD.out] at hcall
            go_wp2_with fail
            go_fit hcall
            clear hcall
            rintro e w2 ⟨⟨k, n, z, a', len', cap', rfl, p2, c2', hp2, hT2⟩, hP2'⟩
            have hP2 : Past tb wS w2 := ((Past.refl tb wS).drewN nq).trans hP2'
            have hPW : Past tb w w2 := (hPr.trans hPs).trans hP2
            have hBG2 := HBGs.out.past hP2 (by omega)
            have hBR2 := HBRs.out.past hP2 (by omega)
            have HL2 : Hid (Lst w2 (G + 1) 24 d (.slice a acc.length cap) acc) := HLs.out.past hP2 (by omega)
            have hz2 : wS.heap.size ≤ w2.heap.size := hP2.size
            obtain ⟨Wa, hWa⟩ : ∃ Wa, Wa = (w2.alloc (.cells #[.int .i64 k, .int .i64 n, .string z, .slice a' len' cap'] 24)).alloc (.cells #[.int .i64 k, .int .i64 n, .string z, .slice a' len' cap'] 24) := ⟨_, rfl⟩
            have hBa : Below w2.heap.size w2 Wa := by rw [hWa]; exact ((Below.refl _ _).alloc (Nat.le_refl _) _).alloc (by simp) _
            have hza : Wa.heap.size = w2.heap.size + 2 := by rw [hWa]; simp
            have hel := elem_news w2 k n z a' len' cap' 24
            rw [← hWa] at hel
            obtain ⟨cells, hown, hitems⟩ := HL2.out.keep (w' := Wa) (by omega) (fun b _ h2 => hBa.block b h2)
            have HEl := hid hel
            have HOwn2 := hid hown
            have HIt := hid hitems
            have HWa := hid hWa
            have HBa := hid hBa
            have hclen := hown.1
            have HBG2 := hid hBG2
            have HBR2 := hid hBR2
            have hGlt : G < w2.heap.size := hBG2.lt
            have hGlt1 : G < w2.heap.size + 1 := by omega
            obtain ⟨n0, n1, n2, n3, m0, m1, m2, m3⟩ := hBG2
            clear hel hown hitems hBa hWa hBR2
            go_wp2_with (at_builtin; rw [← HWa.out]; refine wpList_append_lies _ rfl (.tmp 136) (.tmp 138) 22 rfl (G + 1) 24 i0 (.agg #[.int .i64 0, .int .i64 0, .string ⟨#[]⟩, .slice none 0 0]) 4 56 Tryd.underlying22 HI.out HZ0.out HZ1.out HZ2.out rfl (by decide) _ acc.length cells rfl HOwn2.out ⟨w2.heap.size + 1, 0, none⟩ 1 1 [.int .i64 k, .int .i64 n, .string z, .slice a' len' cap'] rfl rfl HEl.out (by simp [Value.oneCell']) (by decide) (by unfold maxLen; omega) (by omega) (by omega) _ rfl ?_; intro g cap3 w3 hown3 hgrow3 hat3 hlt3; refine gbox HBa.out HBG2.out hgrow3 (fun k' hk' => (HOwn.out k' hk').1) ?_; rintro ⟨i0', i1', i2', i3', j0', j1', j2', j3'⟩)
            have hPa : Past tb w Wa := hPW.trans (Past.of_below HBa.out)
            have hP3 : Past tb w w3 := hPa.grown hgrow3 (fun k' hk' => by have := (HOwn.out k' hk').1; omega)
            have hTa := hT2.below HBa.out
            have hT3 := hTa.of_block (hgrow3.block tb hTa.lt (fun e => by have := (HOwn.out tb e.symm).1; omega))
            have hBRa := HBR2.out.below HBa.out (by omega)
            have hBR3 : Box w3 w.heap.size (.int .i64 0) (.int .i64 0) (.string ⟨#[]⟩) (.slice none 0 0) := hBRa.of_block (hgrow3.block _ hBRa.lt (fun e => by have := (HOwn.out _ e.symm).1; omega))
            have hBG3 : Box w3 G (.int .i64 4) (.int .i64 0) (.string ⟨#[]⟩) (.slice a acc.length cap) := ⟨i0', i1', i2', i3', j0', j1', j2', j3'⟩
            have hB4 : Box (w3.setCell ⟨G, 3, none⟩ (.slice (some ⟨g, 0, none⟩) (acc.length + 1) cap3)) G (.int .i64 4) (.int .i64 0) (.string ⟨#[]⟩) (.slice (some ⟨g, 0, none⟩) (acc.length + 1) cap3) := hBG3.set3 _
            have hBR4 : Box (w3.setCell ⟨G, 3, none⟩ (.slice (some ⟨g, 0, none⟩) (acc.length + 1) cap3)) w.heap.size (.int .i64 0) (.int .i64 0) (.string ⟨#[]⟩) (.slice none 0 0) := hBR3.of_block (Below.heap_setCell w3 ⟨G, 3, none⟩ _ w.heap.size (by show ¬ w.heap.size = G; omega))
            have hT4 := hT3.of_block (w' := w3.setCell ⟨G, 3, none⟩ (.slice (some ⟨g, 0, none⟩) (acc.length + 1) cap3)) (Below.heap_setCell w3 ⟨G, 3, none⟩ _ tb (by show ¬ tb = G; omega))
            have hP4 : Past tb w (w3.setCell ⟨G, 3, none⟩ (.slice (some ⟨g, 0, none⟩) (acc.length + 1) cap3)) := Past.setCell (p := ⟨G, 3, none⟩) hP3 (Or.inr (by show w.heap.size ≤ G; omega)) _
            go_wp2_with fail
            go_roundg m
            case measure => omega
            case rel => exact Or.inr ⟨x, q, p2, c2', _, _, _, HErr.out, hx0, hp2, hT4, hP4, hBR4, hB4⟩
        | inr tq =>
          obtain ⟨t, q, c'⟩ := tq
          rw [hD] at hgood
          obtain ⟨hg1, hg2, hg3⟩ := hgood
          have HNext := hid (HIT.out.symm.trans (pItems_next HH.out hD))
          have HD := hid hD
          have HQ := hid (drop_len (hg1.trans (List.drop_suffix _ _)))
          clear hD hg1
          rcases hgo with ⟨hl1, hpSi, q41⟩ | ⟨hpSi, q41⟩
          all_goals
            go_wp2_with fail
            go_quiet (fail)
            have hcall := ih tb s pS cc b' (wS.drewN nq) (l + 1) (HTs.out.drewN nq) hpS hs hcc (by omega) (by omega)
            rw [HD.out] at hcall
            go_wp2_with fail
            go_fit hcall
            clear hcall
            rintro e w2 ⟨⟨k, n, z, a', len', cap', b2, rfl, hT2, hDat⟩, hP2'⟩
            have hP2 : Past tb wS w2 := ((Past.refl tb wS).drewN nq).trans hP2'
            have HDat := hid hDat
            clear hDat
            have hPW : Past tb w w2 := (hPr.trans hPs).trans hP2
            have hBG2 := HBGs.out.past hP2 (by omega)
            have hBR2 := HBRs.out.past hP2 (by omega)
            have HL2 : Hid (Lst w2 (G + 1) 24 d (.slice a acc.length cap) acc) := HLs.out.past hP2 (by omega)
            have hz2 : wS.heap.size ≤ w2.heap.size := hP2.size
            obtain ⟨Wa, hWa⟩ : ∃ Wa, Wa = (w2.alloc (.cells #[.int .i64 k, .int .i64 n, .string z, .slice a' len' cap'] 24)).alloc (.cells #[.int .i64 k, .int .i64 n, .string z, .slice a' len' cap'] 24) := ⟨_, rfl⟩
            have hBa : Below w2.heap.size w2 Wa := by rw [hWa]; exact ((Below.refl _ _).alloc (Nat.le_refl _) _).alloc (by simp) _
            have hza : Wa.heap.size = w2.heap.size + 2 := by rw [hWa]; simp
            have hel := elem_news w2 k n z a' len' cap' 24
            rw [← hWa] at hel
            obtain ⟨cells, hown, hitems⟩ := HL2.out.keep (w' := Wa) (by omega) (fun b _ h2 => hBa.block b h2)
            have HEl := hid hel
            have HOwn2 := hid hown
            have HIt := hid hitems
            have HWa := hid hWa
            have HBa := hid hBa
            have hclen := hown.1
            have HBG2 := hid hBG2
            have HBR2 := hid hBR2
            have hGlt : G < w2.heap.size := hBG2.lt
            have hGlt1 : G < w2.heap.size + 1 := by omega
            obtain ⟨n0, n1, n2, n3, m0, m1, m2, m3⟩ := hBG2
            clear hel hown hitems hBa hWa hBR2
            go_wp2_with (at_builtin; rw [← HWa.out]; refine wpList_append_lies _ rfl (.tmp 136) (.tmp 138) 22 rfl (G + 1) 24 i0 (.agg #[.int .i64 0, .int .i64 0, .string ⟨#[]⟩, .slice none 0 0]) 4 56 Tryd.underlying22 HI.out HZ0.out HZ1.out HZ2.out rfl (by decide) _ acc.length cells rfl HOwn2.out ⟨w2.heap.size + 1, 0, none⟩ 1 1 [.int .i64 k, .int .i64 n, .string z, .slice a' len' cap'] rfl rfl HEl.out (by simp [Value.oneCell']) (by decide) (by unfold maxLen; omega) (by omega) (by omega) _ rfl ?_; intro g cap3 w3 hown3 hgrow3 hat3 hlt3; refine gbox HBa.out HBG2.out hgrow3 (fun k' hk' => (HOwn.out k' hk').1) ?_; rintro ⟨i0', i1', i2', i3', j0', j1', j2', j3'⟩)
            have hPa : Past tb w Wa := hPW.trans (Past.of_below HBa.out)
            have hP3 : Past tb w w3 := hPa.grown hgrow3 (fun k' hk' => by have := (HOwn.out k' hk').1; omega)
            have hTa := hT2.below HBa.out
            have hT3 := hTa.of_block (hgrow3.block tb hTa.lt (fun e => by have := (HOwn.out tb e.symm).1; omega))
            have hBRa := HBR2.out.below HBa.out (by omega)
            have hBR3 : Box w3 w.heap.size (.int .i64 0) (.int .i64 0) (.string ⟨#[]⟩) (.slice none 0 0) := hBRa.of_block (hgrow3.block _ hBRa.lt (fun e => by have := (HOwn.out _ e.symm).1; omega))
            have hBG3 : Box w3 G (.int .i64 4) (.int .i64 0) (.string ⟨#[]⟩) (.slice a acc.length cap) := ⟨i0', i1', i2', i3', j0', j1', j2', j3'⟩
            have hB4 : Box (w3.setCell ⟨G, 3, none⟩ (.slice (some ⟨g, 0, none⟩) (acc.length + 1) cap3)) G (.int .i64 4) (.int .i64 0) (.string ⟨#[]⟩) (.slice (some ⟨g, 0, none⟩) (acc.length + 1) cap3) := hBG3.set3 _
            have hBR4 : Box (w3.setCell ⟨G, 3, none⟩ (.slice (some ⟨g, 0, none⟩) (acc.length + 1) cap3)) w.heap.size (.int .i64 0) (.int .i64 0) (.string ⟨#[]⟩) (.slice none 0 0) := hBR3.of_block (Below.heap_setCell w3 ⟨G, 3, none⟩ _ w.heap.size (by show ¬ w.heap.size = G; omega))
            have hT4 := hT3.of_block (w' := w3.setCell ⟨G, 3, none⟩ (.slice (some ⟨g, 0, none⟩) (acc.length + 1) cap3)) (Below.heap_setCell w3 ⟨G, 3, none⟩ _ tb (by show ¬ tb = G; omega))
            have hP4 : Past tb w (w3.setCell ⟨G, 3, none⟩ (.slice (some ⟨g, 0, none⟩) (acc.length + 1) cap3)) := Past.setCell (p := ⟨G, 3, none⟩) hP3 (Or.inr (by show w.heap.size ≤ G; omega)) _
            have hDa := Dat.keep (w' := Wa) (S' := fun b => wS.heap.size ≤ b ∧ b < Wa.heap.size) (fun b hb => ⟨HBa.out.block b hb.2, by simpa using hb.1, by have := hb.2; omega⟩) d HDat.out
            have hL3 := Lst.append HIt.out hclen hDa (by omega) (fun k' hk' => by have := (HOwn.out k' hk').2; omega) hown3 hgrow3 hat3 rfl
            have hL4 := hL3.keep (w' := w3.setCell ⟨G, 3, none⟩ (.slice (some ⟨g, 0, none⟩) (acc.length + 1) cap3)) (by simp) (fun b h1 _ => Below.heap_setCell w3 ⟨G, 3, none⟩ _ b (by show ¬ b = G; omega))
            have HNx : Hid (pItems (pDatum d) m (acc ++ [t]) (skipB false (s.data.toList.drop (s.size - q.length))) c' = pDatum (d + 1) (s.data.toList.drop p) c) := by rw [HQ.out]; exact HNext.out.symm
            have HL4 := hid hL4
            clear hL3 hL4 hown3 hgrow3
            go_wp2_with fail
            go_roundg m
            case measure => omega
            case rel => exact Or.inl ⟨acc ++ [t], s.size - q.length, c', _, b2, HNx.out, by simp; omega, hg3, by omega, by omega, hT4, hP4, hBR4, hB4, HL4.out⟩
    · have HRes := hid hres
      have hye : (y == 0) = false := beq_eq_false_iff_ne.2 hy0
      have HTr := hid hTr
      clear hres c0 c1 c2 c3 c4 f1 f2 f3 f4
      obtain ⟨c0, c1, c2, c3, c4, f1, f2, f3, f4⟩ := hTr
      obtain ⟨x0, x1, x2, x3, y0, y1, y2, y3⟩ := hBr
      obtain ⟨n0, n1, n2, n3, m0, m1, m2, m3⟩ := hBG
      go_wp2_with fail
      refine bodyPost_ret (v := .agg #[.int .i64 4, .int .i64 0, .string ⟨#[]⟩, .slice a len cap]) (by simp [results, Tryd.results26, go_sem, x0, x1, x2, x3]) rfl ?_
      refine ⟨?_, past_set4 hPr (Nat.le_refl _) _ _ _ _⟩
      rw [HRes.out]
      exact oout_inl hlt hp' HTr.out _ _ _ _
end Go.Proofs.YtmgpppijildccaaDoor

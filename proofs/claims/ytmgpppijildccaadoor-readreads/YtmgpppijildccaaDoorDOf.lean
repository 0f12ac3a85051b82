/- The document's data of a text. -/
import Derived.Test.YtmgpppijildccaaDoorOne4
import Derived.Test.YtmgpppijildccaaDoorRead
namespace Go.Proofs.YtmgpppijildccaaDoor
open Go.RowKit
set_option linter.unusedSimpArgs false
set_option linter.unusedVariables false
theorem one_any : ∀ d, OneSaid d
  | 0 => fun tb s p c b w l hT hp hs hc hl hd => one_early 0 tb s p c b w l hT hp hs hc hl hd (Or.inr (Or.inr (Or.inl rfl)))
  | d + 1 => fun tb s p c b w l hT hp hs hc hl hd => by
    by_cases h1 : skipTo s.data.toList p < s.size
    · by_cases h4 : 400 ≤ c
      · exact one_early (d + 1) tb s p c b w l hT hp hs hc hl hd (Or.inr (Or.inl h4))
      · by_cases h41 : s[skipTo s.data.toList p].toNat = 41
        · exact one_early (d + 1) tb s p c b w l hT hp hs hc hl hd (Or.inr (Or.inr (Or.inr ⟨h1, h41⟩)))
        · by_cases h39 : s[skipTo s.data.toList p].toNat = 39
          · exact one_quote d (one_any d) tb s p c b w l hT hp hs hl hd _ rfl h1 h4 h39
          · by_cases h40 : s[skipTo s.data.toList p].toNat = 40
            · exact one_list d (one_any d) tb s p c b w l hT hp hs hl hd _ rfl h1 h4 h40
            · exact one_word d tb s p c b w l hT hp hs hl hd _ rfl h1 h4 h41 h40 h39
    · exact one_early (d + 1) tb s p c b w l hT hp hs hc hl hd (Or.inl h1)
theorem text_new (w : World) (s : ByteArray) (t : TypeId) : Tx (w.alloc (.cells #[.string s, .int .i64 0, .int .i64 0, .int .i64 0, .int .i64 0] t)) w.heap.size s 0 0 0 0 := by
  constructor <;> go_simp
set_option maxRecDepth 100000 in
set_option maxHeartbeats 4000000 in
theorem dataOf_any (s : ByteArray) (w : World) (hs : s.size ≤ 9223372036854775807) :
    Calls Tryd.prog 11 #[.string s] w fun e w' => OutR w w' s (readT s.data.toList) e ∧ Below w.heap.size w w' := by
  by_cases hbig : 3000 < s.size
  · have hbi : (3000 : Int) < s.size := by omega
    have HT : Hid (readT s.data.toList = .inl (1, s.data.toList)) := by unfold readT; rw [if_pos (by simpa using hbig)]; exact rfl
    go_enter Tryd.func11, Tryd.ntmps11
    go_wp2_with fail
    go_ret3
    refine ⟨?_, Below.refl _ _⟩
    rw [HT.out]
    show _ = _
    simp
  · have hbi : ¬ (3000 : Int) < s.size := by omega
    have HT : Hid (readT s.data.toList = pAll 401 [] (skipB false s.data.toList) 0) := by unfold readT; rw [if_neg (by simpa using hbig)]; exact rfl
    have hs3 : s.size ≤ 3000 := by omega
    obtain ⟨i0, hi, hz0, hz1, hz2⟩ := info_parts info_datum
    have HI := hid hi
    have HZ0 := hid hz0
    have HZ1 := hid hz1
    have HZ2 := hid hz2
    clear hi hz0 hz1 hz2
    have hb1 : Below w.heap.size w (w.alloc (.cells #[.string s, .int .i64 0, .int .i64 0, .int .i64 0, .int .i64 0] 58)) := (Below.refl _ _).alloc (Nat.le_refl _) _
    have hcall := tskip_any w.heap.size s 0 0 0 0 _ (text_new w s 58) (by omega) hs3
    go_enter Tryd.func11, Tryd.ntmps11
    go_wp2_with fail
    go_fit hcall
    clear hcall
    rintro e w1 ⟨rfl, hT1, hP1⟩
    have HD1 := hid (drop_skipTo s 0)
    have hz1 := hP1.size
    have hz1' : w.heap.size + 1 ≤ w1.heap.size := by simpa using hz1
    go_wp2_with fail
    go_loopg [6] 401 (fun k v wr => ∃ acc pl cc b, pAll k acc (s.data.toList.drop pl) cc = pAll 401 [] (skipB false s.data.toList) 0 ∧ acc.length ≤ cc ∧ cc ≤ 400 ∧ 401 ≤ k + cc ∧ pl ≤ s.size ∧
      Tx wr w.heap.size s pl cc b 0 ∧ Below w.heap.size w wr ∧ w.heap.size + 1 ≤ wr.heap.size ∧ Lst wr (w.heap.size + 1) 24 40 v acc)
    case atStart => exact ⟨[], _, 0, 0, by rw [HD1.out]; rfl, Nat.le_refl _, by omega, by omega, skipTo_le s _, hT1, hb1.trans (hP1.below (Nat.le_refl _) (by simp)), hz1', Lst.nil _ _ _ _⟩
    case round =>
      obtain ⟨acc, pl, cc, b, hit, hac, hcc, hk, hpl, hTr, hPr, hzr, hLr⟩ := hrel
      obtain ⟨m, rfl⟩ : ∃ m, gk = m + 1 := ⟨gk - 1, by omega⟩
      have HIT := hid hit
      have HLr := hid hLr
      have HTr := hid hTr
      obtain ⟨a, cap, hv, hcap, hrow⟩ := hLr.shape
      have HRow := hid hrow
      clear hit hrow hLr
      subst hv
      by_cases hlt : pl < s.size
      · have hpi : (pl : Int) < s.size := by omega
        have hne : ¬ s.data.toList.drop pl = [] := by rw [drop_at s pl hlt]; simp
        have hgood := pDatum_good 40 (s.data.toList.drop pl) cc
        have HH := hid hne
        have HOwn : Hid (∀ k, (Value.slice a acc.length cap).ownBlock = some k → w.heap.size + 1 ≤ k ∧ k < wr.heap.size) := fun k hk => HLr.out.own_lt hk
        clear hne
        obtain ⟨c0, c1, c2, c3, c4, f1, f2, f3, f4⟩ := hTr
        have hcall := one_any 40 w.heap.size s pl cc b wr 1 HTr.out hpl hs3 hcc (by omega) (by omega)
        cases hD : pDatum 40 (s.data.toList.drop pl) cc with
        | inl eq =>
          obtain ⟨x, q⟩ := eq
          rw [hD] at hgood hcall
          have hx0 := hgood.2
          have hxe : (x != 0) = true := by simpa using hx0
          have HErr := hid (HIT.out.symm.trans (pAll_err HH.out hD))
          clear hD hgood
          go_wp2_with fail
          go_fit hcall
          clear hcall c0 c1 c2 c3 c4 f1 f2 f3 f4
          rintro e w2 ⟨⟨k, n, z, a', len', cap', rfl, p2, c2', hp2, hT2⟩, hP2⟩
          have hPW : Below w.heap.size w w2 := hPr.trans (hP2.below (Nat.le_refl _) hPr.size)
          have hlt2 : w.heap.size < w2.heap.size := hT2.lt
          obtain ⟨c0, c1, c2, c3, c4, f1, f2, f3, f4⟩ := hT2
          go_wp2_with fail
          go_quiet (fail)
          go_wp2_with fail
          go_ret3
          refine ⟨?_, ?_⟩
          · rw [HT.out, HErr.out]
            exact rfl
          · exact below_drewN (hPW.alloc hPW.size _) _
        | inr tq =>
          obtain ⟨t, q, c'⟩ := tq
          rw [hD] at hgood hcall
          obtain ⟨hg1, hg2, hg3⟩ := hgood
          have HNext := hid (HIT.out.symm.trans (pAll_next HH.out hD))
          have HQ := hid (drop_len (hg1.trans (List.drop_suffix _ _)))
          have hql : q.length ≤ s.size := by have := (hg1.trans (List.drop_suffix pl _)).length_le; simpa using this
          clear hD hg1
          go_wp2_with fail
          go_fit hcall
          clear hcall c0 c1 c2 c3 c4 f1 f2 f3 f4
          rintro e w2 ⟨⟨k, n, z, a', len', cap', b2, rfl, hT2, hDat⟩, hP2⟩
          have HDat := hid hDat
          have HT2 := hid hT2
          clear hDat
          have hPW : Below w.heap.size w w2 := hPr.trans (hP2.below (Nat.le_refl _) hPr.size)
          have hlt2 : w.heap.size < w2.heap.size := hT2.lt
          obtain ⟨c0, c1, c2, c3, c4, f1, f2, f3, f4⟩ := hT2
          have HL2 : Hid (Lst w2 (w.heap.size + 1) 24 40 (.slice a acc.length cap) acc) := HLr.out.past hP2 (by omega)
          have hz2 : wr.heap.size ≤ w2.heap.size := hP2.size
          obtain ⟨Wa, hWa⟩ : ∃ Wa, Wa = (w2.alloc (.cells #[.int .i64 k, .int .i64 n, .string z, .slice a' len' cap'] 24)).alloc (.cells #[.int .i64 k, .int .i64 n, .string z, .slice a' len' cap'] 24) := ⟨_, rfl⟩
          have hBa : Below w2.heap.size w2 Wa := by rw [hWa]; exact ((Below.refl _ _).alloc (Nat.le_refl _) _).alloc (by simp) _
          have hza : Wa.heap.size = w2.heap.size + 2 := by rw [hWa]; simp
          have hel := elem_news w2 k n z a' len' cap' 24
          rw [← hWa] at hel
          obtain ⟨cells, hown, hitems⟩ := HL2.out.keep (w' := Wa) (by omega) (fun b _ h2 => hBa.block b h2)
          have HEl := hid hel
          have HOwn2 := hid hown
          have HIt := hid hitems
          have HWa := hid hWa
          have HBa := hid hBa
          have hclen := hown.1
          clear hel hown hitems hBa hWa
          go_wp2_with (at_builtin; rw [← HWa.out]; refine wpList_append_lies _ rfl (.tmp 38) (.tmp 40) 22 rfl (w.heap.size + 1) 24 i0 (.agg #[.int .i64 0, .int .i64 0, .string ⟨#[]⟩, .slice none 0 0]) 4 56 Tryd.underlying22 HI.out HZ0.out HZ1.out HZ2.out rfl (by decide) _ acc.length cells rfl HOwn2.out ⟨w2.heap.size + 1, 0, none⟩ 1 1 [.int .i64 k, .int .i64 n, .string z, .slice a' len' cap'] rfl rfl HEl.out (by simp [Value.oneCell']) (by decide) (by unfold maxLen; omega) (by omega) (by omega) _ rfl ?_; intro g cap3 w3 hown3 hgrow3 hat3 hlt3)
          have hPa : Below w.heap.size w Wa := hPW.trans (HBa.out.mono (by omega))
          have hTa := HT2.out.below HBa.out
          have hT3 : Tx w3 w.heap.size s (s.size - q.length) c' b2 0 := hTa.of_block (hgrow3.block w.heap.size hTa.lt (fun e => by have := (HOwn.out w.heap.size e.symm).1; omega))
          have hDa := Dat.keep (w' := Wa) (S' := fun b => wr.heap.size ≤ b ∧ b < Wa.heap.size) (fun b hb => ⟨HBa.out.block b hb.2, by simpa using hb.1, by have := hb.2; omega⟩) 40 HDat.out
          have hL3 := Lst.append HIt.out hclen hDa (by omega) (fun k' hk' => (HOwn.out k' hk').2) hown3 hgrow3 hat3 rfl
          have HL3 := hid hL3
          have HP3 : Hid (Below w.heap.size w w3) := hPa.grown hgrow3 (by omega) (fun k' hk' => by have := (HOwn.out k' hk').1; omega)
          have hz3 : w.heap.size + 1 ≤ w3.heap.size := by have := hT3.lt; omega
          have hcall2 := tskip_any w.heap.size s (s.size - q.length) c' b2 0 w3 hT3 (by omega) hs3
          clear hPa hTa hT3 hDa hL3 hown3 hgrow3 hat3
          go_fit hcall2
          clear hcall2
          rintro e w4 ⟨rfl, hT4, hP4⟩
          have HDr := hid ((drop_skipTo s (s.size - q.length)).trans (by rw [HQ.out]))
          have hz4 := hP4.size
          go_wp2_with fail
          go_roundg m
          case measure => omega
          case rel => exact ⟨acc ++ [t], skipTo s.data.toList (s.size - q.length), c', b2, by rw [HDr.out]; exact HNext.out.symm, by simp; omega, hg3, by omega, skipTo_le s _, hT4, HP3.out.trans (hP4.below (Nat.le_refl _) (by omega)), by omega, HL3.out.past hP4 (by omega)⟩
      · have hpi : (s.size : Int) ≤ pl := by omega
        have HDone := hid (HIT.out.symm.trans (pAll_done (List.drop_of_length_le (by simp; omega))))
        obtain ⟨c0, c1, c2, c3, c4, f1, f2, f3, f4⟩ := hTr
        go_wp2_with fail
        go_ret3
        refine ⟨?_, hPr⟩
        rw [HT.out, HDone.out]
        exact ⟨a, cap, rfl, hcap, by omega, RowD.keep (fun b hb => ⟨rfl, by have := hb.1; omega, hb.2⟩) HRow.out⟩
end Go.Proofs.YtmgpppijildccaaDoor

/- The document's one datum: a word. -/
import Derived.Test.YtmgpppijildccaaDoorOne3
import Derived.Test.YtmgpppijildccaaDoorFits
import Derived.Test.YtmgpppijildccaaDoorNames
namespace Go.Proofs.YtmgpppijildccaaDoor
open Go.RowKit
set_option linter.unusedSimpArgs false
set_option linter.unusedVariables false
theorem tword_end {w wr : World} {tb : Nat} {s : ByteArray} {q c : Nat} {b : Int} {t : DataW Unit} {k n : Int} {z : ByteArray} (hrb : tb < w.heap.size) (hT : Tx wr tb s q c b 0) (hq : q ≤ s.size) (hl : Leaf t (.int .i64 k) (.int .i64 n) (.string z) (.slice none 0 0)) {r : List UInt8} (hr : r = s.data.toList.drop q) (d : Nat) :
    OutO w ((((wr.setCell ⟨w.heap.size, 0, none⟩ (.int .i64 k)).setCell ⟨w.heap.size, 1, none⟩ (.int .i64 n)).setCell ⟨w.heap.size, 2, none⟩ (.string z)).setCell ⟨w.heap.size, 3, none⟩ (.slice none 0 0)) tb s d
      (.inr (t, r, c)) (.returned (.agg #[.int .i64 k, .int .i64 n, .string z, .slice none 0 0])) := by
  subst hr
  refine ⟨k, n, z, none, 0, 0, b, rfl, ?_, Dat.leaf hl _⟩
  rw [show s.size - (s.data.toList.drop q).length = q from by simp; omega]
  exact hT.set4 (by omega) _ _ _ _
theorem refT_bad {l : List UInt8} (h : (wholeB l && fitsB l) = false) : refT l = .inl 4 := by unfold refT; rw [if_neg (by rw [h]; simp)]
theorem refT_great {l : List UInt8} (h1 : wholeB l = true) (h2 : fitsB l = true) (h3 : 1099511627776 < satFrom 0 (bodyOf l)) : refT l = .inl 2 := by unfold refT; rw [if_pos (by rw [h1, h2]; rfl), if_pos h3]
theorem refT_ok {l : List UInt8} (h1 : wholeB l = true) (h2 : fitsB l = true) (h3 : ¬ 1099511627776 < satFrom 0 (bodyOf l)) : refT l = .inr (.lit (.int .i64 (if minus l = true then -(satFrom 0 (bodyOf l) : Int) else satFrom 0 (bodyOf l)))) := by unfold refT; rw [if_pos (by rw [h1, h2]; rfl), if_neg h3]
set_option maxRecDepth 100000 in
set_option maxHeartbeats 8000000 in
theorem one_word (d : Nat) (tb : Nat) (s : ByteArray) (p c : Nat) (b : Int) (w : World) (l : Int) (hT : Tx w tb s p c b 0) (hp : p ≤ s.size) (hs : s.size ≤ 3000) (hl : 1 ≤ l) (hd : l + (d + 1) = 41)
    (pl : Nat) (hpl : skipTo s.data.toList p = pl) (h1 : pl < s.size) (h4 : ¬ 400 ≤ c) (h41 : ¬ s[pl].toNat = 41) (h40 : ¬ s[pl].toNat = 40) (h39 : ¬ s[pl].toNat = 39) :
    Calls Tryd.prog 26 #[.pointer (some ⟨tb, 0, none⟩), .int .i64 l] w fun e w' => OutO w w' tb s (d + 1) (pDatum (d + 1) (s.data.toList.drop p) c) e ∧ Past tb w w' := by
  have hlt := hT.lt
  have hsk := one_skip hT hp hs
  have HDr := hid (drop_skipTo s p)
  rw [hpl] at hsk HDr
  have hD0 := hid (HDr.out.symm.trans (drop_at s pl h1))
  have hpi : (pl : Int) < s.size := by omega
  have hpe : ((pl : Int) == s.size) = false := beq_eq_false_iff_ne.2 (by omega)
  have h4i : ¬ (400 : Int) < (c : Int) + 1 := by omega
  have hli : ¬ (40 : Int) < l := by omega
  have b41 : ((s[pl].toNat : Int) == 41) = false := by simp; omega
  have b39 : ((s[pl].toNat : Int) == 39) = false := by simp; omega
  have b40 : ((s[pl].toNat : Int) == 40) = false := by simp; omega
  have hsh := skip_head hD0.out
  have HE := hid ((pDatum_word (d := d) hD0.out h4 h41 h40 h39).trans (by rw [← drop_at s pl h1]))
  have HI : Hid (endsI s[pl].toNat = false) := by
    have := hsh.1
    unfold Hid endsI; rw [this]; simp; omega
  clear h41 h40 h39 hpl hsh
  go_enter Tryd.func26, Tryd.ntmps26
  go_wp2_with fail
  go_fit hsk
  clear hsk
  rintro e w1 ⟨rfl, hT1, hP1, hz1, hB1⟩
  have HT1 := hid hT1
  have HB1 := hid hB1
  obtain ⟨c0, c1, c2, c3, c4, f1, f2, f3, f4⟩ := hT1
  obtain ⟨W2, hW2⟩ : ∃ W2, W2 = w1.setCell ⟨tb, 2, none⟩ (.int .i64 ((c : Int) + 1)) := ⟨_, rfl⟩
  have HT2 : Hid (Tx W2 tb s pl (c + 1) b 0) := by rw [hW2]; exact HT1.out.setCount (c + 1) _ (by omega)
  have HP2 : Hid (Past tb w W2) := by rw [hW2]; exact Past.setCell (p := ⟨tb, 2, none⟩) hP1 (Or.inl rfl) _
  have HB2 : Hid (Box W2 w.heap.size (.int .i64 0) (.int .i64 0) (.string ⟨#[]⟩) (.slice none 0 0)) := by
    rw [hW2]
    exact HB1.out.of_block (Below.heap_setCell w1 ⟨tb, 2, none⟩ _ w.heap.size (by show ¬ w.heap.size = tb; omega))
  have HW2 := hid hW2
  clear hW2
  go_wp2_with fail
  rw [← HW2.out]
  go_loopg [150] (s.size - pl) (fun k x wr => ∃ q, q + k = s.size ∧ pl ≤ q ∧ (∀ j, pl ≤ j → j < q → ∃ x, s.data.toList[j]? = some x ∧ inWord x = true) ∧ Tx wr tb s q (c + 1) b 0 ∧ Past tb w wr ∧ Box wr w.heap.size (.int .i64 0) (.int .i64 0) (.string ⟨#[]⟩) (.slice none 0 0))
  case atStart => exact ⟨pl, by omega, Nat.le_refl _, fun j h1 h2 => by omega, HT2.out, HP2.out, HB2.out⟩
  case round =>
    obtain ⟨q, hqk, hpq, hall, hTr, hPr, hBr⟩ := hrel
    have HA := hid hall
    have HTr := hid hTr
    have HBr := hid hBr
    have hzr := hPr.size
    clear hall hBr c0 c1 c2 c3 c4 f1 f2 f3 f4
    obtain ⟨c0, c1, c2, c3, c4, f1, f2, f3, f4⟩ := hTr
    have hq0 : (0 : Int) ≤ q := by omega
    by_cases hgo : ∃ h : q < s.size, endsI s[q].toNat = false
    · obtain ⟨hlq, he⟩ := hgo
      have hqi : (q : Int) < s.size := by omega
      have HE2 := hid he
      go_wp2_with fail
      go_quiet ((go_at_call 40; exact Calls.quiet_of_same (ends_any _ _)))
      go_wp2_with fail
      go_roundg (gk - 1)
      case measure => omega
      case rel =>
        refine ⟨q + 1, by omega, by omega, fun j h1 h2 => ?_, (HTr.out.drewN _).setPlace (q + 1) _ (by omega), Past.setCell (p := ⟨tb, 1, none⟩) (hPr.drewN _) (Or.inl rfl) _, ?_⟩
        · by_cases hj : j < q
          · exact HA.out j h1 hj
          · obtain rfl : j = q := by omega
            exact ⟨s[j], by rw [List.getElem?_eq_getElem (by simpa using hlq)]; rfl, by unfold inWord; rw [HE2.out]; rfl⟩
        · exact HBr.out.of_block (Below.heap_setCell (wr.drewN _) ⟨tb, 1, none⟩ _ w.heap.size (by show ¬ w.heap.size = tb; omega))
    · have hend : ∀ x, s.data.toList[q]? = some x → inWord x = false := fun x hx => by
        by_cases hlq : q < s.size
        · rw [List.getElem?_eq_getElem (by simpa using hlq)] at hx
          injection hx with hx
          subst hx
          unfold inWord
          cases he : endsI (s.data.toList[q]'(by simpa using hlq)).toNat
          · exact absurd ⟨hlq, he⟩ hgo
          · rfl
        · rw [List.getElem?_eq_none (by simp; omega)] at hx; cases hx
      have hg : (∃ h : q < s.size, (q : Int) < s.size ∧ endsI s[q].toNat = true) ∨ ((s.size : Int) ≤ q ∧ ¬ q < s.size) := by
        by_cases hlq : q < s.size
        · refine Or.inl ⟨hlq, by omega, ?_⟩
          cases he : endsI s[q].toNat
          · exact absurd ⟨hlq, he⟩ hgo
          · rfl
        · exact Or.inr ⟨by omega, hlq⟩
      have hcut := word_cut s pl q hpq HA.out hend
      have HC1 := hid hcut.1
      have HC2 := hid hcut.2
      have hpqi : (pl : Int) ≤ q := by omega
      have hqs : (q : Int) ≤ s.size := by omega
      clear hend hgo hcut
      have hpq1 : pl < q := by
        rcases hg with ⟨hlq, _, he⟩ | ⟨_, he⟩
        · by_cases e : q = pl
          · subst e; rw [HI.out] at he; cases he
          · omega
        · omega
      have hwz : (s.extract pl q).size ≤ 3000 := by simp; omega
      have hw0 : 0 < (s.extract pl q).size := by simp; omega
      have HBx := HBr.out
      obtain ⟨x0, x1, x2, x3, y0, y1, y2, y3⟩ := HBx
      have HEnd : Hid (∀ t, wordT (s.extract pl q).data.toList = .inr t → pDatum (d + 1) (s.data.toList.drop p) c = .inr (t, (s.data.toList.drop pl).dropWhile inWord, c + 1)) := fun t ht => HE.out.trans (pWord_inr (HC1.out ▸ ht))
      have HBad : Hid (∀ x, wordT (s.extract pl q).data.toList = .inl x → pDatum (d + 1) (s.data.toList.drop p) c = .inl (x, s.data.toList.drop pl)) := fun t ht => HE.out.trans (pWord_inl (HC1.out ▸ ht))
      have HQ : Hid (((s.size - (s.data.toList.drop pl).length : Nat) : Int) = pl) := by
        have : s.size - (s.data.toList.drop pl).length = pl := by simp; omega
        exact hid (by rw [this])
      by_cases k1 : (s.extract pl q).data.toList = [35, 116]
      · have q1 : ((s.extract pl q).toList == [35, 116]) = true := by rw [ByteArray.toList_eq, k1]; rfl
        have HW : Hid (wordT (s.extract pl q).data.toList = .inr (.lit (.bool true))) := by unfold wordT; rw [if_pos k1]; exact rfl
        clear k1
        rcases hg with ⟨hlq, hqi, he⟩ | ⟨hqi, he⟩
        all_goals
          go_wp2_with fail
          go_quiet ((go_at_call 40; exact Calls.quiet_of_same (ends_any _ _)))
          revert nq
          intro n1
          go_wp2_with fail
          go_quiet (fail)
          go_wp2_with fail
          refine bodyPost_ret (v := .agg #[.int .i64 2, .int .i64 1, .string ⟨#[]⟩, .slice none 0 0]) (by simp [results, Tryd.results26, go_sem, x0, x1, x2, x3]) rfl ?_
          refine ⟨?_, past_set4 (hPr.drewN _) (Nat.le_refl _) _ _ _ _⟩
          rw [HEnd.out _ HW.out]
          exact tword_end hlt (HTr.out.drewN _) (by omega) (Or.inr (Or.inl ⟨true, rfl, rfl, rfl, rfl, rfl⟩)) HC2.out _
      have q1 : ((s.extract pl q).toList == [35, 116]) = false := by rw [ByteArray.toList_eq]; exact beq_eq_false_iff_ne.2 k1
      by_cases k2 : (s.extract pl q).data.toList = [35, 102]
      · have q2 : ((s.extract pl q).toList == [35, 102]) = true := by rw [ByteArray.toList_eq, k2]; rfl
        have HW : Hid (wordT (s.extract pl q).data.toList = .inr (.lit (.bool false))) := by unfold wordT; rw [if_neg k1, if_pos k2]; exact rfl
        clear k1 k2
        rcases hg with ⟨hlq, hqi, he⟩ | ⟨hqi, he⟩
        all_goals
          go_wp2_with fail
          go_quiet ((go_at_call 40; exact Calls.quiet_of_same (ends_any _ _)))
          revert nq
          intro n1
          go_wp2_with fail
          go_quiet (fail)
          go_wp2_with fail
          refine bodyPost_ret (v := .agg #[.int .i64 2, .int .i64 0, .string ⟨#[]⟩, .slice none 0 0]) (by simp [results, Tryd.results26, go_sem, x0, x1, x2, x3]) rfl ?_
          refine ⟨?_, past_set4 (hPr.drewN _) (Nat.le_refl _) _ _ _ _⟩
          rw [HEnd.out _ HW.out]
          exact tword_end hlt (HTr.out.drewN _) (by omega) (Or.inr (Or.inl ⟨false, rfl, rfl, rfl, rfl, rfl⟩)) HC2.out _
      have q2 : ((s.extract pl q).toList == [35, 102]) = false := by rw [ByteArray.toList_eq]; exact beq_eq_false_iff_ne.2 k2
      cases k3 : nameB (s.extract pl q).data.toList
      rotate_left
      · have HN := hid k3
        have HW : Hid (wordT (s.extract pl q).data.toList = .inr (.lit (.string (s.extract pl q).data.toList))) := by unfold wordT; rw [if_neg k1, if_neg k2, if_pos k3]; exact rfl
        clear k1 k2 k3
        rcases hg with ⟨hlq, hqi, he⟩ | ⟨hqi, he⟩
        all_goals
          go_wp2_with fail
          go_quiet ((go_at_call 40; exact Calls.quiet_of_same (ends_any _ _)))
          revert nq
          intro n1
          go_wp2_with fail
          go_quiet (fail)
          go_wp2_with fail
          have hnm := NameMay_any (s.extract pl q) (wr.drewN (n1 + nq)) (by omega)
          rw [HN.out] at hnm
          go_fit hnm
          clear hnm
          rintro e w2 ⟨rfl, n2, hw2⟩
          rw [show (wr.drewN (n1 + nq)).drewN n2 = wr.drewN (n1 + nq + n2) from (by first | rfl | simp)] at hw2
          subst hw2
          generalize n1 + nq + n2 = n3
          go_wp2_with fail
          refine bodyPost_ret (v := .agg #[.int .i64 3, .int .i64 0, .string (s.extract pl q), .slice none 0 0]) (by simp [results, Tryd.results26, go_sem, x0, x1, x2, x3]) rfl ?_
          refine ⟨?_, past_set4 (hPr.drewN _) (Nat.le_refl _) _ _ _ _⟩
          rw [HEnd.out _ HW.out]
          exact tword_end hlt (HTr.out.drewN _) (by omega) (Or.inr (Or.inr ⟨_, rfl, rfl, rfl, rfl, rfl⟩)) HC2.out _
      have HN := hid k3
      have HR : Hid (wordT (s.extract pl q).data.toList = refT (s.extract pl q).data.toList) := by unfold wordT; rw [if_neg k1, if_neg k2, if_neg (by rw [k3]; simp)]; exact numT_ref _
      clear k1 k2 k3
      cases k4 : wholeB (s.extract pl q).data.toList
      · have HO : Hid (∀ e, OutN (s.extract pl q).data.toList e → e = .returned (.tuple #[.int .i64 0, .bool false, .bool false])) := fun e h => by unfold OutN at h; rw [if_neg (by rw [k4]; simp)] at h; exact h
        have HW : Hid (wordT (s.extract pl q).data.toList = .inl 4) := HR.out.trans (refT_bad (by rw [k4]; rfl))
        clear k4
        rcases hg with ⟨hlq, hqi, he⟩ | ⟨hqi, he⟩
        all_goals
          go_wp2_with fail
          go_quiet ((go_at_call 40; exact Calls.quiet_of_same (ends_any _ _)))
          revert nq
          intro n1
          go_wp2_with fail
          go_quiet (fail)
          go_wp2_with fail
          have hnm := NameMay_any (s.extract pl q) (wr.drewN (n1 + nq)) (by omega)
          rw [HN.out] at hnm
          go_fit hnm
          clear hnm
          rintro e w2 ⟨rfl, n2, hw2⟩
          rw [show (wr.drewN (n1 + nq)).drewN n2 = wr.drewN (n1 + nq + n2) from (by first | rfl | simp)] at hw2
          subst hw2
          generalize n1 + nq + n2 = n3
          go_wp2_with fail
          have hwh := wholeIn_any (s.extract pl q) (wr.drewN n3) hwz
          go_fit hwh
          clear hwh
          rintro e w2 ⟨ho, hw2⟩
          obtain rfl := hw2.symm
          obtain rfl := HO.out e ho
          clear ho
          go_wp2_with fail
          have hcall := wrong_any tb s q (c + 1) b pl 4 (wr.drewN n3) (HTr.out.drewN _)
          go_fit hcall
          clear hcall
          rintro e w3 ⟨rfl, hT3, hP3⟩
          have hPW : Past tb w w3 := (hPr.drewN _).trans hP3
          have hPX : Past tb wr w3 := ((Past.refl tb wr).drewN _).trans hP3
          clear x0 x1 x2 x3 y0 y1 y2 y3
          obtain ⟨x0, x1, x2, x3, y0, y1, y2, y3⟩ := HBr.out.past hPX (by omega)
          go_wp2_with fail
          refine bodyPost_ret (v := .agg #[.int .i64 0, .int .i64 0, .string ⟨#[]⟩, .slice none 0 0]) (by simp [results, Tryd.results26, go_sem, x0, x1, x2, x3]) rfl ?_
          refine ⟨?_, past_set4 hPW (Nat.le_refl _) _ _ _ _⟩
          rw [HBad.out _ HW.out]
          exact oout_inl hlt (p' := q) (by omega) (by rw [HQ.out]; exact hT3) _ _ _ _
      have HF0 := hid k4
      by_cases k6 : 1099511627776 < satFrom 0 (bodyOf (s.extract pl q).data.toList)
      · have HO : Hid (∀ e, OutN (s.extract pl q).data.toList e → e = .returned (.tuple #[.int .i64 0, .bool true, .bool true])) := fun e h => by unfold OutN at h; rw [if_pos k4, if_pos k6] at h; exact h
        cases k5 : fitsB (s.extract pl q).data.toList
        · have HF := hid k5
          have HW : Hid (wordT (s.extract pl q).data.toList = .inl 4) := HR.out.trans (refT_bad (by rw [k4, k5]; rfl))
          clear k4 k5 k6
          rcases hg with ⟨hlq, hqi, he⟩ | ⟨hqi, he⟩
          all_goals
            go_wp2_with fail
            go_quiet ((go_at_call 40; exact Calls.quiet_of_same (ends_any _ _)))
            revert nq
            intro n1
            go_wp2_with fail
            go_quiet (fail)
            go_wp2_with fail
            have hnm := NameMay_any (s.extract pl q) (wr.drewN (n1 + nq)) (by omega)
            rw [HN.out] at hnm
            go_fit hnm
            clear hnm
            rintro e w2 ⟨rfl, n2, hw2⟩
            rw [show (wr.drewN (n1 + nq)).drewN n2 = wr.drewN (n1 + nq + n2) from (by first | rfl | simp)] at hw2
            subst hw2
            generalize n1 + nq + n2 = n3
            go_wp2_with fail
            have hwh := wholeIn_any (s.extract pl q) (wr.drewN n3) hwz
            go_fit hwh
            clear hwh
            rintro e w2 ⟨ho, hw2⟩
            obtain rfl := hw2.symm
            obtain rfl := HO.out e ho
            clear ho
            go_wp2_with fail
            have hft := fits64_any (s.extract pl q) (wr.drewN n3) hwz hw0
            rw [HF.out] at hft
            go_fit hft
            clear hft
            rintro e w2 ⟨rfl, hw2⟩
            obtain rfl := hw2.symm
            go_wp2_with fail
            have hcall := wrong_any tb s q (c + 1) b pl 4 (wr.drewN n3) (HTr.out.drewN _)
            go_fit hcall
            clear hcall
            rintro e w3 ⟨rfl, hT3, hP3⟩
            have hPW : Past tb w w3 := (hPr.drewN _).trans hP3
            have hPX : Past tb wr w3 := ((Past.refl tb wr).drewN _).trans hP3
            clear x0 x1 x2 x3 y0 y1 y2 y3
            obtain ⟨x0, x1, x2, x3, y0, y1, y2, y3⟩ := HBr.out.past hPX (by omega)
            go_wp2_with fail
            refine bodyPost_ret (v := .agg #[.int .i64 0, .int .i64 0, .string ⟨#[]⟩, .slice none 0 0]) (by simp [results, Tryd.results26, go_sem, x0, x1, x2, x3]) rfl ?_
            refine ⟨?_, past_set4 hPW (Nat.le_refl _) _ _ _ _⟩
            rw [HBad.out _ HW.out]
            exact oout_inl hlt (p' := q) (by omega) (by rw [HQ.out]; exact hT3) _ _ _ _
        · have HF := hid k5
          have HW : Hid (wordT (s.extract pl q).data.toList = .inl 2) := HR.out.trans (refT_great k4 k5 k6)
          clear k4 k5 k6
          rcases hg with ⟨hlq, hqi, he⟩ | ⟨hqi, he⟩
          all_goals
            go_wp2_with fail
            go_quiet ((go_at_call 40; exact Calls.quiet_of_same (ends_any _ _)))
            revert nq
            intro n1
            go_wp2_with fail
            go_quiet (fail)
            go_wp2_with fail
            have hnm := NameMay_any (s.extract pl q) (wr.drewN (n1 + nq)) (by omega)
            rw [HN.out] at hnm
            go_fit hnm
            clear hnm
            rintro e w2 ⟨rfl, n2, hw2⟩
            rw [show (wr.drewN (n1 + nq)).drewN n2 = wr.drewN (n1 + nq + n2) from (by first | rfl | simp)] at hw2
            subst hw2
            generalize n1 + nq + n2 = n3
            go_wp2_with fail
            have hwh := wholeIn_any (s.extract pl q) (wr.drewN n3) hwz
            go_fit hwh
            clear hwh
            rintro e w2 ⟨ho, hw2⟩
            obtain rfl := hw2.symm
            obtain rfl := HO.out e ho
            clear ho
            go_wp2_with fail
            have hft := fits64_any (s.extract pl q) (wr.drewN n3) hwz hw0
            rw [HF.out] at hft
            go_fit hft
            clear hft
            rintro e w2 ⟨rfl, hw2⟩
            obtain rfl := hw2.symm
            go_wp2_with fail
            have hcall := wrong_any tb s q (c + 1) b pl 2 (wr.drewN n3) (HTr.out.drewN _)
            go_fit hcall
            clear hcall
            rintro e w3 ⟨rfl, hT3, hP3⟩
            have hPW : Past tb w w3 := (hPr.drewN _).trans hP3
            have hPX : Past tb wr w3 := ((Past.refl tb wr).drewN _).trans hP3
            clear x0 x1 x2 x3 y0 y1 y2 y3
            obtain ⟨x0, x1, x2, x3, y0, y1, y2, y3⟩ := HBr.out.past hPX (by omega)
            go_wp2_with fail
            refine bodyPost_ret (v := .agg #[.int .i64 0, .int .i64 0, .string ⟨#[]⟩, .slice none 0 0]) (by simp [results, Tryd.results26, go_sem, x0, x1, x2, x3]) rfl ?_
            refine ⟨?_, past_set4 hPW (Nat.le_refl _) _ _ _ _⟩
            rw [HBad.out _ HW.out]
            exact oout_inl hlt (p' := q) (by omega) (by rw [HQ.out]; exact hT3) _ _ _ _
      · obtain ⟨N, hN⟩ : ∃ N : Int, N = (if minus (s.extract pl q).data.toList = true then -(satFrom 0 (bodyOf (s.extract pl q).data.toList) : Int) else satFrom 0 (bodyOf (s.extract pl q).data.toList)) := ⟨_, rfl⟩
        have HO : Hid (∀ e, OutN (s.extract pl q).data.toList e → e = .returned (.tuple #[.int .i64 N, .bool true, .bool false])) := fun e h => by unfold OutN at h; rw [if_pos k4, if_neg k6, ← hN] at h; exact h
        cases k5 : fitsB (s.extract pl q).data.toList
        · have HF := hid k5
          have HW : Hid (wordT (s.extract pl q).data.toList = .inl 4) := HR.out.trans (refT_bad (by rw [k4, k5]; rfl))
          clear k4 k5 k6 hN
          rcases hg with ⟨hlq, hqi, he⟩ | ⟨hqi, he⟩
          all_goals
            go_wp2_with fail
            go_quiet ((go_at_call 40; exact Calls.quiet_of_same (ends_any _ _)))
            revert nq
            intro n1
            go_wp2_with fail
            go_quiet (fail)
            go_wp2_with fail
            have hnm := NameMay_any (s.extract pl q) (wr.drewN (n1 + nq)) (by omega)
            rw [HN.out] at hnm
            go_fit hnm
            clear hnm
            rintro e w2 ⟨rfl, n2, hw2⟩
            rw [show (wr.drewN (n1 + nq)).drewN n2 = wr.drewN (n1 + nq + n2) from (by first | rfl | simp)] at hw2
            subst hw2
            generalize n1 + nq + n2 = n3
            go_wp2_with fail
            have hwh := wholeIn_any (s.extract pl q) (wr.drewN n3) hwz
            go_fit hwh
            clear hwh
            rintro e w2 ⟨ho, hw2⟩
            obtain rfl := hw2.symm
            obtain rfl := HO.out e ho
            clear ho
            go_wp2_with fail
            have hft := fits64_any (s.extract pl q) (wr.drewN n3) hwz hw0
            rw [HF.out] at hft
            go_fit hft
            clear hft
            rintro e w2 ⟨rfl, hw2⟩
            obtain rfl := hw2.symm
            go_wp2_with fail
            have hcall := wrong_any tb s q (c + 1) b pl 4 (wr.drewN n3) (HTr.out.drewN _)
            go_fit hcall
            clear hcall
            rintro e w3 ⟨rfl, hT3, hP3⟩
            have hPW : Past tb w w3 := (hPr.drewN _).trans hP3
            have hPX : Past tb wr w3 := ((Past.refl tb wr).drewN _).trans hP3
            clear x0 x1 x2 x3 y0 y1 y2 y3
            obtain ⟨x0, x1, x2, x3, y0, y1, y2, y3⟩ := HBr.out.past hPX (by omega)
            go_wp2_with fail
            refine bodyPost_ret (v := .agg #[.int .i64 0, .int .i64 0, .string ⟨#[]⟩, .slice none 0 0]) (by simp [results, Tryd.results26, go_sem, x0, x1, x2, x3]) rfl ?_
            refine ⟨?_, past_set4 hPW (Nat.le_refl _) _ _ _ _⟩
            rw [HBad.out _ HW.out]
            exact oout_inl hlt (p' := q) (by omega) (by rw [HQ.out]; exact hT3) _ _ _ _
        · have HF := hid k5
          have HW : Hid (wordT (s.extract pl q).data.toList = .inr (.lit (.int .i64 N))) := HR.out.trans ((refT_ok k4 k5 k6).trans (by rw [← hN]))
          clear k4 k5 k6 hN
          rcases hg with ⟨hlq, hqi, he⟩ | ⟨hqi, he⟩
          all_goals
            go_wp2_with fail
            go_quiet ((go_at_call 40; exact Calls.quiet_of_same (ends_any _ _)))
            revert nq
            intro n1
            go_wp2_with fail
            go_quiet (fail)
            go_wp2_with fail
            have hnm := NameMay_any (s.extract pl q) (wr.drewN (n1 + nq)) (by omega)
            rw [HN.out] at hnm
            go_fit hnm
            clear hnm
            rintro e w2 ⟨rfl, n2, hw2⟩
            rw [show (wr.drewN (n1 + nq)).drewN n2 = wr.drewN (n1 + nq + n2) from (by first | rfl | simp)] at hw2
            subst hw2
            generalize n1 + nq + n2 = n3
            go_wp2_with fail
            have hwh := wholeIn_any (s.extract pl q) (wr.drewN n3) hwz
            go_fit hwh
            clear hwh
            rintro e w2 ⟨ho, hw2⟩
            obtain rfl := hw2.symm
            obtain rfl := HO.out e ho
            clear ho
            go_wp2_with fail
            have hft := fits64_any (s.extract pl q) (wr.drewN n3) hwz hw0
            rw [HF.out] at hft
            go_fit hft
            clear hft
            rintro e w2 ⟨rfl, hw2⟩
            obtain rfl := hw2.symm
            go_wp2_with fail
            refine bodyPost_ret (v := .agg #[.int .i64 1, .int .i64 N, .string ⟨#[]⟩, .slice none 0 0]) (by simp [results, Tryd.results26, go_sem, x0, x1, x2, x3]) rfl ?_
            refine ⟨?_, past_set4 (hPr.drewN _) (Nat.le_refl _) _ _ _ _⟩
            rw [HEnd.out _ HW.out]
            exact tword_end hlt (HTr.out.drewN _) (by omega) (Or.inl ⟨_, rfl, rfl, rfl, rfl, rfl⟩) HC2.out _
end Go.Proofs.YtmgpppijildccaaDoor

/- The reader's small calls: blanks, comments, the end. -/
import Derived.Test.YtfhiolnoalghmaaDoorLeaf
import Derived.Test.YtfhiolnoalghmaaDoorState
import Derived.Deep.QuietTactic
import Derived.BigQuiet
import Derived.Deep.LoopGhost
import Derived.Deep.DeepFit
namespace Go.Proofs.YtfhiolnoalghmaaDoor
open Go.RowKit
set_option maxHeartbeats 400000 in
theorem isBlank_any (c : Int) (w : World) :
    Calls Tryd.prog 53 #[.int .u8 c] w fun e w' => e = .returned (.bool (blankI c)) ∧ w' = w := by
  go_enter Tryd.func53, Tryd.ntmps53
  go_wp2
  all_goals (go_ret; exact ⟨ret_bool (by simp [blankI, *]), rfl⟩)
theorem indexByte_ends (c : Int) (h0 : 0 ≤ c) (h1 : c ≤ 255) : decide (0 ≤ Lib.indexByte [40, 41, 59, 39] (UInt8.ofNat c.toNat)) = (c == 40 || c == 41 || c == 59 || c == 39) := by
  obtain ⟨n, rfl⟩ := Int.eq_ofNat_of_zero_le h0
  have : ∀ n : Fin 256, decide (0 ≤ Lib.indexByte [40, 41, 59, 39] (UInt8.ofNat ((n.val : Int)).toNat)) = ((n.val : Int) == 40 || (n.val : Int) == 41 || (n.val : Int) == 59 || (n.val : Int) == 39) := by decide +kernel
  exact this ⟨n, by omega⟩
set_option maxHeartbeats 400000 in
theorem endsWord_any (c : Int) (w : World) (h0 : 0 ≤ c) (h1 : c ≤ 255) :
    Calls Tryd.prog 65 #[.int .u8 c] w fun e w' => e = .returned (.bool (endsI c)) ∧ w' = w := by
  have hs := hid (indexByte_ends c h0 h1)
  cases hb : blankI c
  all_goals
    go_enter Tryd.func65, Tryd.ntmps65
    go_wp2_with (first | (go_at_call 53; refine (isBlank_any _ _).mono ?_; rintro e w' ⟨rfl, rfl⟩) | (go_at_call 64; refine (Tryd.strings_IndexByte _ _ _).mono ?_; rintro e w' ⟨rfl, rfl⟩))
    go_ret
    refine ⟨ret_bool ?_, rfl⟩
    first | rw [hs.out, endsI, hb]; rfl | simp [endsI, hb]
set_option maxHeartbeats 400000 in
theorem ended_any (rb : Nat) (s : ByteArray) (p c : Nat) (w : World) (hR : R w rb s p c) :
    Calls Tryd.prog 38 #[.pointer (some ⟨rb, 0, none⟩)] w fun e w' => e = .returned (.bool (decide (s.size ≤ p))) ∧ ∃ n, w' = w.drewN n := by
  obtain ⟨c0, c1, c2, f1, f2⟩ := hR
  go_enter Tryd.func38, Tryd.ntmps38
  go_wp2_with fail
  go_quiet (fail)
  go_wp2_with fail
  go_ret
  exact ⟨ret_bool (by simp), _, rfl⟩
def lineIdx : List UInt8 → Nat
  | [] => 0
  | c :: r => if c.toNat = 10 then 0 else lineIdx r + 1
theorem lineIdx_le : ∀ r : List UInt8, lineIdx r ≤ r.length
  | [] => by simp [lineIdx]
  | c :: r => by have := lineIdx_le r; simp only [lineIdx]; split <;> simp <;> omega
theorem skip_line : ∀ r : List UInt8, skipB true r = skipB false (r.drop (lineIdx r))
  | [] => rfl
  | c :: r => by
    simp only [skipB, lineIdx]
    split
    · rename_i h
      simp [skipB, blankI, h]
    · exact skip_line r
theorem skip_comment (c : UInt8) (r : List UInt8) (h : c.toNat = 59) : skipB false (c :: r) = skipB false ((c :: r).drop (lineIdx (c :: r))) := by
  have h10 : ¬ c.toNat = 10 := by omega
  simp only [lineIdx, if_neg h10, List.drop_succ_cons]
  rw [← skip_line]
  simp [skipB, blankI, h]
theorem indexByte_line : ∀ r : List UInt8, (Lib.indexByte r 10 < 0 → lineIdx r = r.length) ∧ (¬ Lib.indexByte r 10 < 0 → Lib.indexByte r 10 = lineIdx r)
  | [] => by simp [Lib.indexByte, lineIdx]
  | c :: r => by
    have ih := indexByte_line r
    have hg := Lib.indexByte_ge r 10
    by_cases h : c = 10
    · subst h; simp [Lib.indexByte, lineIdx]
    · have h' : ¬ c.toNat = 10 := fun e => h (UInt8.toNat_inj.1 (by simpa using e))
      simp only [lineIdx, if_neg h']
      by_cases hn : Lib.indexByte r 10 < 0
      · have e : Lib.indexByte r 10 = -1 := by omega
        simp [Lib.indexByte, h, e, ih.1 hn]
      · have e := ih.2 hn
        simp [Lib.indexByte, h, e]
        omega
theorem drop_extract (s : ByteArray) (p : Nat) : (s.extract p s.size).data.toList = s.data.toList.drop p := by
  rw [ByteArray.data_extract]; simp
  exact List.take_of_length_le (by simp)
set_option maxHeartbeats 800000 in
theorem skipLine_any (rb : Nat) (s : ByteArray) (p c : Nat) (w : World) (hR : R w rb s p c) (hp : p ≤ s.size) (hs : s.size ≤ 3000) :
    Calls Tryd.prog 54 #[.pointer (some ⟨rb, 0, none⟩)] w fun e w' => e = .returned (.tuple #[]) ∧ R w' rb s (p + lineIdx (s.data.toList.drop p)) c ∧ Past rb w w' := by
  have HR := hid hR
  obtain ⟨c0, c1, c2, f1, f2⟩ := hR
  have hi := indexByte_line (s.data.toList.drop p)
  have hl := lineIdx_le (s.data.toList.drop p)
  have ht : List.take (s.size - p) (s.data.toList.drop p) = s.data.toList.drop p := List.take_of_length_le (by simp)
  simp at hl
  generalize hL : lineIdx (s.data.toList.drop p) = L at hi hl
  have hpi : (p : Int) ≤ s.size := by omega
  by_cases hn : Lib.indexByte (s.data.toList.drop p) 10 < 0
  · have hL2 := hi.1 hn
    simp at hL2
    obtain ⟨K, hK⟩ : ∃ K, Lib.indexByte (List.take (s.size - p) (s.data.toList.drop p)) 10 = K := ⟨_, rfl⟩
    have hK0 : K < 0 := by rw [← hK, ht]; exact hn
    have HL := hid hL2
    clear hi hL2 hn ht hL
    go_enter Tryd.func54, Tryd.ntmps54
    go_wp2_with fail
    go_quiet ((go_at_call 64; exact Calls.quiet_of_same (Tryd.strings_IndexByte _ _ _)))
    go_wp2_with fail
    go_quiet (fail)
    go_wp2_with fail
    go_end0
    refine ⟨rfl, ?_, ?_⟩
    · exact (HR.out.drewN _).setPlace (p + L) _ (by have := HL.out; omega)
    · exact ((Past.refl rb w).drewN _).setCell (Or.inl rfl) _
  · have hL2 := hi.2 hn
    have hK : Lib.indexByte (List.take (s.size - p) (s.data.toList.drop p)) 10 = (L : Int) := by rw [ht]; exact hL2
    clear hi hL2 hn ht hL
    go_enter Tryd.func54, Tryd.ntmps54
    go_wp2_with fail
    go_quiet ((go_at_call 64; exact Calls.quiet_of_same (Tryd.strings_IndexByte _ _ _)))
    go_wp2_with fail
    go_end0
    refine ⟨rfl, ?_, ?_⟩
    · exact (HR.out.drewN _).setPlace (p + L) _ (by omega)
    · exact ((Past.refl rb w).drewN _).setCell (Or.inl rfl) _
def skipTo (l : List UInt8) (p : Nat) : Nat := l.length - (skipB false (l.drop p)).length
theorem drop_of_suffix {l q : List UInt8} (h : q <:+ l) : l.drop (l.length - q.length) = q := by
  obtain ⟨t, rfl⟩ := h
  simp
theorem skipTo_of {l : List UInt8} {p q : Nat} (h : skipB false (l.drop q) = skipB false (l.drop p)) (h2 : skipB false (l.drop q) = l.drop q) (hq : q ≤ l.length) : q = skipTo l p := by
  unfold skipTo
  rw [← h, h2]; simp; omega
theorem drop_at (s : ByteArray) (q : Nat) (h : q < s.size) : s.data.toList.drop q = s[q] :: s.data.toList.drop (q + 1) := by
  rw [List.drop_eq_getElem_cons (by simpa using h)]; rfl
theorem line_step (s : ByteArray) (q : Nat) (h : q < s.size) (h59 : (s[q].toNat : Int) = 59) : 1 ≤ lineIdx (s.data.toList.drop q) ∧ q + lineIdx (s.data.toList.drop q) ≤ s.size ∧
    skipB false (s.data.toList.drop (q + lineIdx (s.data.toList.drop q))) = skipB false (s.data.toList.drop q) := by
  have hle := lineIdx_le (s.data.toList.drop q)
  simp at hle
  refine ⟨?_, by omega, ?_⟩
  · rw [drop_at s q h]; simp only [lineIdx]; rw [if_neg (by omega)]; omega
  · rw [← List.drop_drop]
    rw [drop_at s q h]
    exact (skip_comment _ _ (by omega)).symm
set_option maxHeartbeats 1000000 in
theorem skip_any (rb : Nat) (s : ByteArray) (p c : Nat) (w : World) (hR : R w rb s p c) (hp : p ≤ s.size) (hs : s.size ≤ 3000) :
    Calls Tryd.prog 37 #[.pointer (some ⟨rb, 0, none⟩)] w fun e w' => e = .returned (.tuple #[]) ∧ R w' rb s (skipTo s.data.toList p) c ∧ Past rb w w' := by
  go_enter Tryd.func37, Tryd.ntmps37
  go_wp2_with fail
  go_loopg [2] (s.size - p) (fun k x wr => ∃ q, q + k = s.size ∧ p ≤ q ∧ skipB false (s.data.toList.drop q) = skipB false (s.data.toList.drop p) ∧ R wr rb s q c ∧ Past rb w wr)
  case atStart => exact ⟨p, by omega, Nat.le_refl _, rfl, hR, Past.refl _ _⟩
  case round =>
    obtain ⟨q, hqk, hpq, hsk, hRr, hP⟩ := hrel
    have HS := hid hsk
    clear hsk
    have hE := ended_any rb s q c wr hRr
    by_cases hlt : q < s.size
    · have hd : decide (s.size ≤ q) = false := by simp; omega
      rw [hd] at hE
      have HE := hid hE
      clear hE
      have hD := hid (drop_at s q hlt)
      have hqi : (q : Int) < s.size := by omega
      have hq0 : (0 : Int) ≤ q := by omega
      cases hb : blankI s[q].toNat
      · have HB := hid hb
        cases h59 : ((s[q].toNat : Int) == 59)
        · have H59 := hid h59
          go_wp2_with fail
          go_fit HE.out
          rintro e w1 ⟨rfl, n1, rfl⟩
          obtain ⟨c0, c1, c2, f1, f2⟩ := hRr
          go_wp2_with fail
          go_quiet (fail)
          go_wp2_with (go_at_call 53; refine (isBlank_any _ _).mono ?_; rintro e w' ⟨rfl, hw⟩; obtain rfl := hw.symm)
          refine bodyPost_ret (results_none rfl _ _ _) rfl ?_
          refine ⟨rfl, ?_, hP.drewN _⟩
          have e : q = skipTo s.data.toList p := skipTo_of HS.out (by rw [hD.out]; simp [skipB, HB.out]; intro h; have := H59.out; rw [h] at this; simp at this) (by simp; omega)
          rw [← e]
          exact R.drewN ⟨c0, c1, c2, f1, f2⟩ _
        · have H59 := hid h59
          go_wp2_with fail
          go_fit HE.out
          rintro e w1 ⟨rfl, n1, rfl⟩
          have HR := hid hRr
          obtain ⟨c0, c1, c2, f1, f2⟩ := hRr
          go_wp2_with fail
          go_quiet (fail)
          go_wp2_with (go_at_call 53; refine (isBlank_any _ _).mono ?_; rintro e w' ⟨rfl, hw⟩; obtain rfl := hw.symm)
          have hL := skipLine_any rb s q c (wr.drewN (n1 + nq)) (HR.out.drewN _) (by omega) hs
          go_fit hL
          clear hL
          rintro e w2 ⟨rfl, hR2, hP2⟩
          obtain ⟨g1, g2, g3⟩ := line_step s q hlt (by simpa using H59.out)
          generalize lineIdx (s.data.toList.drop q) = L at hR2 g1 g2 g3
          have HG := hid g3
          clear g3
          go_wp2_with fail
          go_roundg (gk - L)
          case measure => omega
          case rel => exact ⟨q + L, by omega, by omega, HG.out.trans HS.out, hR2, (hP.drewN _).trans hP2⟩
      · have HB := hid hb
        go_wp2_with fail
        go_fit HE.out
        rintro e w1 ⟨rfl, n1, rfl⟩
        have HR := hid hRr
        obtain ⟨c0, c1, c2, f1, f2⟩ := hRr
        go_wp2_with fail
        go_quiet (fail)
        go_wp2_with (go_at_call 53; refine (isBlank_any _ _).mono ?_; rintro e w' ⟨rfl, hw⟩; obtain rfl := hw.symm)
        go_roundg (gk - 1)
        case measure => omega
        case rel =>
          refine ⟨q + 1, by omega, by omega, ?_, (HR.out.drewN _).setPlace (q + 1) _ (by omega), (hP.drewN _).setCell (Or.inl rfl) _⟩
          rw [← HS.out, hD.out]
          simp [skipB, HB.out]
    · have hd : decide (s.size ≤ q) = true := by simp; omega
      rw [hd] at hE
      go_wp2_with fail
      go_fit hE
      rintro e w1 ⟨rfl, n1, rfl⟩
      go_wp2_with fail
      go_end0
      have e : q = skipTo s.data.toList p := skipTo_of HS.out (by rw [List.drop_of_length_le (by simp; omega)]; rfl) (by simp; omega)
      rw [← e]
      exact ⟨rfl, hRr.drewN _, hP.drewN _⟩
end Go.Proofs.YtfhiolnoalghmaaDoor

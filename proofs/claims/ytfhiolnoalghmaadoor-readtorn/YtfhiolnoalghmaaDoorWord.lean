/- A word: a truth value, a name, a number, or none. -/
import Derived.Test.YtfhiolnoalghmaaDoorSkip
import Derived.Lib.AtoiAllCases
import Derived.Lib.AtoiErrMem
import Derived.Lib.AppendIntMem
import Derived.WalkSmall
namespace Go.Proofs.YtfhiolnoalghmaaDoor
open Go.RowKit
/-- A package variable holds so much; its block lies below B. -/
def VarIs (w : World) (B : Nat) (n : String) (cs : Array Value) : Prop := ∃ g, Tryd.prog.globalNamed n = some g ∧ g < B ∧ w.var? Tryd.prog n = some cs
theorem VarIs.below {w w' : World} {B : Nat} {n : String} {cs : Array Value} (h : VarIs w B n cs) (hb : Below B w w') : VarIs w' B n cs := by
  obtain ⟨g, hg, hlt, hv⟩ := h
  exact ⟨g, hg, hlt, var?_below hb hg hlt hv⟩
/-- What the library's variables hold. -/
structure Globs (w : World) (B : Nat) : Prop where
  syn : ∃ tp p, VarIs w B "strconv.ErrSyntax" #[.iface tp p]
  rng : ∃ tp p, VarIs w B "strconv.ErrRange" #[.iface tp p]
  tab : VarIs w B "internal/strconv.uint64pow10" (Lib.pow10Tab.map fun z => Value.int .u64 z).toArray
theorem Globs.below {w w' : World} {B : Nat} (h : Globs w B) (hb : Below B w w') : Globs w' B := by
  obtain ⟨⟨t1, p1, h1⟩, ⟨t2, p2, h2⟩, h3⟩ := h
  exact ⟨⟨t1, p1, h1.below hb⟩, ⟨t2, p2, h2.below hb⟩, h3.below hb⟩
theorem Globs.past {rb : Nat} {w w' : World} {B : Nat} (h : Globs w B) (hp : Past rb w w') (hr : B ≤ rb) (hB : B ≤ w.heap.size) : Globs w' B := h.below (hp.below hr hB)
/-- How a call that reads a word ends. -/
def OutW (o : Int ⊕ DataW Unit) (e : Ending) : Prop :=
  match o with
  | .inl x => e = .returned (.tuple #[.agg #[.int .i64 0, .int .i64 0, .string ⟨#[]⟩, .slice none 0 0], .int .i64 x])
  | .inr t => ∃ u0 u1 u2 u3, e = .returned (.tuple #[.agg #[u0, u1, u2, u3], .int .i64 0]) ∧ Leaf t u0 u1 u2 u3
theorem atoi_bad (s : ByteArray) (w : World) (B : Nat) (hG : Globs w B) (hs : s.size ≤ 3000) (h : ∀ v, ¬ Lib.atoiAll s.data.toList = .ok v) :
    Calls Tryd.prog 85 #[.string s] w fun e w' => ∃ v N, e = .returned (.tuple #[.int .i64 v, .iface 113 (.pointer (some ⟨N, 0, none⟩))]) ∧ Below w.heap.size w w' := by
  obtain ⟨⟨t1, p1, g1, hg1, hl1, h1⟩, ⟨t2, p2, g2, hg2, hl2, h2⟩, h3⟩ := hG
  cases ha : Lib.atoiAll s.data.toList
  · exact absurd ha (h _)
  · refine (Any.strconv_Atoi_syntax_var Tryd.laysC172 s (by omega) ha t1 p1 w h1).mono ?_
    rintro e w' ⟨N, rfl, _, _, hb⟩
    exact ⟨_, N, rfl, hb⟩
  · refine (Any.strconv_Atoi_range_var Tryd.laysC172 s (by omega) ha t2 p2 w h2).mono ?_
    rintro e w' ⟨N, rfl, _, _, hb⟩
    exact ⟨_, N, rfl, hb⟩
theorem atoi_ok (s : ByteArray) (w : World) (hs : s.size ≤ 3000) (v : Int) (h : Lib.atoiAll s.data.toList = .ok v) :
    Calls Tryd.prog 85 #[.string s] w fun e w' => e = .returned (.tuple #[.int .i64 v, .nilIface]) ∧ Below w.heap.size w w' := by
  refine (Tryd.strconv_Atoi_ok s (by omega) v h w).mono ?_
  rintro e w' ⟨rfl, rfl | ⟨t, rfl⟩⟩
  · exact ⟨rfl, Below.refl _ _⟩
  · exact ⟨rfl, Lib.bytesWorld_below _ _ _⟩
theorem itoa_any (n : Int) (h0 : -9223372036854775808 ≤ n) (h1 : n ≤ 9223372036854775807) (w : World) (B : Nat) (hG : Globs w B) :
    Calls Tryd.prog 32 #[.int .i64 n] w fun e w' => e = .returned (.string ⟨(Lib.itoa n).toArray⟩) ∧ Below w.heap.size w w' := by
  obtain ⟨g, hg, hlt, hv⟩ := hG.tab
  refine (Tryd.strconv_Itoa n h0 h1 w hv).mono ?_
  rintro e w' ⟨rfl, k, os, rfl⟩
  exact ⟨rfl, Lib.below_grow _ _ (Nat.le_refl _) _ _⟩
theorem numT_bad {l : List UInt8} (h : ∀ v, ¬ Lib.atoiAll l = .ok v) : numT l = .inl 4 := by
  unfold numT
  split
  · exact absurd ‹_› (h _)
  · rfl
theorem numT_ok {l : List UInt8} {v : Int} (h : Lib.atoiAll l = .ok v) : numT l = if Lib.itoa v = l then (if inI (-1099511627776) v 1099511627776 = true then .inr (.lit (.int .i64 v)) else .inl 2) else .inl 4 := by
  unfold numT
  rw [h]
set_option maxHeartbeats 1000000 in
theorem number_any (s : ByteArray) (w : World) (B : Nat) (hG : Globs w B) (hB : B ≤ w.heap.size) (hs : s.size ≤ 3000) :
    Calls Tryd.prog 75 #[.string s] w fun e w' => OutW (numT s.data.toList) e ∧ Below w.heap.size w w' := by
  have HG : Hid (Globs (w.alloc (.cells #[.int .i64 0, .int .i64 0, .string ⟨#[]⟩, .slice none 0 0] 24)) B) := hG.below ((Below.refl _ _).alloc hB _)
  by_cases hok : ∃ v, Lib.atoiAll s.data.toList = .ok v
  · obtain ⟨v, hv⟩ := hok
    obtain ⟨b0, b1⟩ := Lib.atoiAll_bounds hv
    have HN := hid (numT_ok hv)
    have HV := hid hv
    clear hv
    go_enter Tryd.func75, Tryd.ntmps75
    go_wp2_with fail
    have h1 := atoi_ok s (w.alloc (.cells #[.int .i64 0, .int .i64 0, .string ⟨#[]⟩, .slice none 0 0] 24)) hs v HV.out
    go_fit h1
    clear h1
    rintro e w1 ⟨rfl, hb1⟩
    have HG1 : Hid (Globs w1 B) := HG.out.below (hb1.mono (by simp; omega))
    have hz1 : w.heap.size + 1 ≤ w1.heap.size := by have := hb1.size; simpa using this
    have HX1 : Hid (Box w1 w.heap.size (.int .i64 0) (.int .i64 0) (.string ⟨#[]⟩) (.slice none 0 0)) := (Box.new w _ _ _ _ _).below hb1 (by simp)
    have HB1 : Hid (Below w.heap.size w w1) := ((Below.refl _ _).alloc (Nat.le_refl _) _).trans (hb1.mono (by simp))
    clear hb1
    have h2 := itoa_any v b0 b1 w1 B HG1.out
    generalize hit : Lib.itoa v = it at HN h2
    have HI := hid hit
    clear hit
    go_wp2_with fail
    go_fit h2
    clear h2
    rintro e w2 ⟨rfl, hb2⟩
    have HB2 : Hid (Below w.heap.size w w2) := HB1.out.trans (hb2.mono (by omega))
    obtain ⟨x0, x1, x2, x3, y0, y1, y2, y3⟩ := HX1.out.below hb2 (by omega)
    have hz2 : w.heap.size + 1 ≤ w2.heap.size := by have := hb2.size; omega
    clear hb2
    by_cases heq : it = s.data.toList
    · have hq : (it == s.toList) = true := by rw [ByteArray.toList_eq]; simp [heq]
      have HQ := hid heq
      clear heq
      cases hin : inI (-1099511627776) v 1099511627776
      · have HM := hid hin
        go_wp2_with (go_at_call 59; refine (fits_any _ _).mono ?_; rintro e w' ⟨rfl, hw⟩; obtain rfl := hw.symm)
        refine bodyPost_ret (v := .tuple #[.agg #[.int .i64 0, .int .i64 0, .string ⟨#[]⟩, .slice none 0 0], .int .i64 2]) (by simp [results, Tryd.results75, go_sem, x0, x1, x2, x3]) rfl ?_
        refine ⟨?_, below_set4 HB2.out (Nat.le_refl _) _ _ _ _⟩
        rw [HN.out, if_pos HQ.out, if_neg (by rw [HM.out]; simp)]
        rfl
      · have HM := hid hin
        go_wp2_with (go_at_call 59; refine (fits_any _ _).mono ?_; rintro e w' ⟨rfl, hw⟩; obtain rfl := hw.symm)
        refine bodyPost_ret (v := .tuple #[.agg #[.int .i64 1, .int .i64 v, .string ⟨#[]⟩, .slice none 0 0], .int .i64 0]) (by simp [results, Tryd.results75, go_sem, x0, x1, x2, x3]) rfl ?_
        refine ⟨?_, below_set4 HB2.out (Nat.le_refl _) _ _ _ _⟩
        rw [HN.out, if_pos HQ.out, if_pos HM.out]
        exact ⟨_, _, _, _, rfl, Or.inl ⟨v, rfl, rfl, rfl, rfl, rfl⟩⟩
    · have hq : (it == s.toList) = false := by rw [ByteArray.toList_eq]; simp [heq]
      have HQ := hid heq
      clear heq
      go_wp2_with fail
      refine bodyPost_ret (v := .tuple #[.agg #[.int .i64 0, .int .i64 0, .string ⟨#[]⟩, .slice none 0 0], .int .i64 4]) (by simp [results, Tryd.results75, go_sem, x0, x1, x2, x3]) rfl ?_
      refine ⟨?_, below_set4 HB2.out (Nat.le_refl _) _ _ _ _⟩
      rw [HN.out, if_neg HQ.out]
      rfl
  · have hbad : ∀ v, ¬ Lib.atoiAll s.data.toList = .ok v := fun v hv => hok ⟨v, hv⟩
    have HN := hid (numT_bad hbad)
    have HV := hid hbad
    clear hbad hok
    go_enter Tryd.func75, Tryd.ntmps75
    go_wp2_with fail
    have h1 := atoi_bad s (w.alloc (.cells #[.int .i64 0, .int .i64 0, .string ⟨#[]⟩, .slice none 0 0] 24)) B HG.out hs HV.out
    go_fit h1
    clear h1
    rintro e w1 ⟨v, N, rfl, hb1⟩
    obtain ⟨x0, x1, x2, x3, y0, y1, y2, y3⟩ := (Box.new w _ _ _ _ _).below hb1 (by simp)
    have HB1 : Hid (Below w.heap.size w w1) := ((Below.refl _ _).alloc (Nat.le_refl _) _).trans (hb1.mono (by simp))
    clear hb1
    go_wp2_with fail
    refine bodyPost_ret (v := .tuple #[.agg #[.int .i64 0, .int .i64 0, .string ⟨#[]⟩, .slice none 0 0], .int .i64 4]) (by simp [results, Tryd.results75, go_sem, x0, x1, x2, x3]) rfl ?_
    refine ⟨?_, below_set4 HB1.out (Nat.le_refl _) _ _ _ _⟩
    rw [HN.out]
    rfl
set_option maxHeartbeats 400000 in
theorem clone_any (s : ByteArray) (w : World) (hs : s.size ≤ 3000) :
    Calls Tryd.prog 74 #[.string s] w fun e w' => e = .returned (.string s) ∧ Below w.heap.size w w' := by
  go_enter Tryd.func74, Tryd.ntmps74
  go_wp2_with (go_at_call 84; refine (Tryd.stringslite_Clone _ _ (by omega)).mono ?_; rintro e w' ⟨rfl, hb⟩)
  go_ret
  exact ⟨rfl, hb⟩
set_option maxHeartbeats 1000000 in
theorem word_any (s : ByteArray) (w : World) (B : Nat) (hG : Globs w B) (hB : B ≤ w.heap.size) (hs : s.size ≤ 3000) :
    Calls Tryd.prog 66 #[.string s] w fun e w' => OutW (wordT s.data.toList) e ∧ Below w.heap.size w w' := by
  have HG : Hid (Globs (w.alloc (.cells #[.int .i64 0, .int .i64 0, .string ⟨#[]⟩, .slice none 0 0] 24)) B) := hG.below ((Below.refl _ _).alloc hB _)
  have hx := Box.new w (.int .i64 0) (.int .i64 0) (.string ⟨#[]⟩) (.slice none 0 0) 24
  by_cases h1 : s.data.toList = [35, 116]
  · have q1 : (s.toList == [35, 116]) = true := by rw [ByteArray.toList_eq]; simp [h1]
    have HW : Hid (wordT s.data.toList = .inr (.lit (.bool true))) := by unfold wordT; rw [if_pos h1]; exact rfl
    clear h1 hx
    go_enter Tryd.func66, Tryd.ntmps66
    go_wp2_with fail
    refine bodyPost_ret (v := .tuple #[.agg #[.int .i64 2, .int .i64 1, .string ⟨#[]⟩, .slice none 0 0], .int .i64 0]) (by simp [results, Tryd.results66, go_sem]) rfl ?_
    refine ⟨?_, (Below.refl _ _).alloc (Nat.le_refl _) _⟩
    rw [HW.out]
    exact ⟨_, _, _, _, rfl, Or.inr (Or.inl ⟨true, rfl, rfl, rfl, rfl, rfl⟩)⟩
  have q1 : (s.toList == [35, 116]) = false := by rw [ByteArray.toList_eq]; simp [h1]
  by_cases h2 : s.data.toList = [35, 102]
  · have q2 : (s.toList == [35, 102]) = true := by rw [ByteArray.toList_eq]; simp [h2]
    have HW : Hid (wordT s.data.toList = .inr (.lit (.bool false))) := by unfold wordT; rw [if_neg h1, if_pos h2]; exact rfl
    clear h1 h2 hx
    go_enter Tryd.func66, Tryd.ntmps66
    go_wp2_with fail
    refine bodyPost_ret (v := .tuple #[.agg #[.int .i64 2, .int .i64 0, .string ⟨#[]⟩, .slice none 0 0], .int .i64 0]) (by simp [results, Tryd.results66, go_sem]) rfl ?_
    refine ⟨?_, (Below.refl _ _).alloc (Nat.le_refl _) _⟩
    rw [HW.out]
    exact ⟨_, _, _, _, rfl, Or.inr (Or.inl ⟨false, rfl, rfl, rfl, rfl, rfl⟩)⟩
  have q2 : (s.toList == [35, 102]) = false := by rw [ByteArray.toList_eq]; simp [h2]
  cases h3 : nameB s.data.toList
  · have HW : Hid (wordT s.data.toList = numT s.data.toList) := by unfold wordT; rw [if_neg h1, if_neg h2, if_neg (by rw [h3]; simp)]; exact rfl
    clear h1 h2
    have h4 := number_any s (w.alloc (.cells #[.int .i64 0, .int .i64 0, .string ⟨#[]⟩, .slice none 0 0] 24)) B HG.out (by simp; omega) hs
    go_enter Tryd.func66, Tryd.ntmps66
    go_wp2_with (go_at_call 60; refine (isName_any _ _ (by omega)).mono ?_; rintro e w' ⟨rfl, hw⟩; obtain rfl := hw.symm)
    go_fit h4
    clear h4
    rintro e w1 ⟨ho, hb1⟩
    have HB1 : Hid (Below w.heap.size w w1) := ((Below.refl _ _).alloc (Nat.le_refl _) _).trans (hb1.mono (by simp))
    obtain ⟨x0, x1, x2, x3, y0, y1, y2, y3⟩ := hx.below hb1 (by simp)
    clear hb1
    rw [← HW.out] at ho
    cases hT : wordT s.data.toList with
    | inl x =>
      rw [hT] at ho
      obtain rfl : e = _ := ho
      have HT := hid hT
      clear hT
      go_wp2_with fail
      refine bodyPost_ret (v := .tuple #[.agg #[.int .i64 0, .int .i64 0, .string ⟨#[]⟩, .slice none 0 0], .int .i64 x]) (by simp [results, Tryd.results66, go_sem, x0, x1, x2, x3]) rfl ?_
      refine ⟨?_, below_set4 HB1.out (Nat.le_refl _) _ _ _ _⟩
      rw [HT.out]
      rfl
    | inr t =>
      rw [hT] at ho
      obtain ⟨u0, u1, u2, u3, rfl, hl⟩ := ho
      obtain ⟨k, n, z, rfl, rfl, rfl, rfl⟩ := hl.shape
      have HL := hid hl
      have HT := hid hT
      clear hl hT
      go_wp2_with fail
      refine bodyPost_ret (v := .tuple #[.agg #[.int .i64 k, .int .i64 n, .string z, .slice none 0 0], .int .i64 0]) (by simp [results, Tryd.results66, go_sem, x0, x1, x2, x3]) rfl ?_
      refine ⟨?_, below_set4 HB1.out (Nat.le_refl _) _ _ _ _⟩
      rw [HT.out]
      exact ⟨_, _, _, _, rfl, HL.out⟩
  · have HW : Hid (wordT s.data.toList = .inr (.lit (.string s.data.toList))) := by unfold wordT; rw [if_neg h1, if_neg h2, if_pos h3]; exact rfl
    clear h1 h2
    go_enter Tryd.func66, Tryd.ntmps66
    go_wp2_with (go_at_call 60; refine (isName_any _ _ (by omega)).mono ?_; rintro e w' ⟨rfl, hw⟩; obtain rfl := hw.symm)
    have h4 := clone_any s (w.alloc (.cells #[.int .i64 0, .int .i64 0, .string ⟨#[]⟩, .slice none 0 0] 24)) hs
    go_fit h4
    clear h4
    rintro e w1 ⟨rfl, hb1⟩
    have HB1 : Hid (Below w.heap.size w w1) := ((Below.refl _ _).alloc (Nat.le_refl _) _).trans (hb1.mono (by simp))
    obtain ⟨x0, x1, x2, x3, y0, y1, y2, y3⟩ := hx.below hb1 (by simp)
    clear hb1
    go_wp2_with fail
    refine bodyPost_ret (v := .tuple #[.agg #[.int .i64 3, .int .i64 0, .string s, .slice none 0 0], .int .i64 0]) (by simp [results, Tryd.results66, go_sem, x0, x1, x2, x3]) rfl ?_
    refine ⟨?_, below_set4 HB1.out (Nat.le_refl _) _ _ _ _⟩
    rw [HW.out]
    exact ⟨_, _, _, _, rfl, Or.inr (Or.inr ⟨s.data.toList, rfl, rfl, rfl, rfl, rfl⟩)⟩
end Go.Proofs.YtfhiolnoalghmaaDoor

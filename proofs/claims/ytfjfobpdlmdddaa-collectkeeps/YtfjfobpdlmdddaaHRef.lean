/- The document's words and things: In, countAt, thing, wordMay, refersTo. -/
import Derived.Test.YtfjfobpdlmdddaaHThings
namespace Go.Proofs.Ytfjfobpdlmdddaa
set_option maxRecDepth 100000
open Go.RowKit
def inB (n a b : Int) : Bool := decide (a ≤ n) && decide (n ≤ b)
set_option maxHeartbeats 400000 in
theorem In_any (n a b : Int) (w : World) :
    Calls Try.prog 42 #[.int .i64 n, .int .i64 a, .int .i64 b] w fun e w' => e = .returned (.bool (inB n a b)) ∧ w' = w := by
  go_enter Try.func42, Try.ntmps42
  go_wp2
  all_goals (go_ret; refine ⟨ret_bool ?_, rfl⟩; first | (simp_all [inB]; done) | (simp_all [inB]; omega))
theorem bnil (s : ByteArray) : s.toList = [] ↔ s = ByteArray.empty := by
  have h := bempty s
  rw [← ByteArray.size_eq_zero_iff]
  constructor
  · intro e; rw [e] at h; simpa using h.symm
  · intro e; rw [decide_eq_true e] at h; simpa using h
def cntI (l : List Wd) (i : Nat) (most : Int) : Int := if intAt l i (most + 1) = true then (nAt l i : Int) else -1
theorem cntI_at {l : List Wd} {i : Nat} {most : Int} (h : i < l.length) : cntI l i most = if l[i].k = 1 ∧ l[i].s.size = 0 ∧ inB l[i].n 0 most = true then l[i].n else -1 := by
  unfold cntI
  rw [intAt_at l i _ h]
  have e : nAt l i = l[i].n.toNat := by unfold nAt; rw [List.getElem?_eq_getElem h]
  rw [e]
  have key : (decide (l[i].k = 1) && plainB l[i].n l[i].s (most + 1)) = true ↔ (l[i].k = 1 ∧ l[i].s.size = 0 ∧ inB l[i].n 0 most = true) := by
    simp only [plainB, inB, Bool.and_eq_true, decide_eq_true_eq]; omega
  by_cases h1 : l[i].k = 1 ∧ l[i].s.size = 0 ∧ inB l[i].n 0 most = true
  · rw [if_pos h1, if_pos (key.2 h1)]
    have := h1.2.2
    simp only [inB, Bool.and_eq_true, decide_eq_true_eq] at this
    omega
  · rw [if_neg h1, if_neg (fun h => h1 (key.1 h))]
set_option maxHeartbeats 1000000 in
theorem countAt_any (w : World) (B : Nat) (a : Option Addr) (l : List Wd) (len cap i : Nat) (most : Int) (hlen : len = l.length) (hW : Wds w B a l) :
    Calls Try.prog 48 #[.slice a len cap, .int .i64 i, .int .i64 most] w fun e w' => e = .returned (.int .i64 (cntI l i most)) ∧ w' = w := by
  have hL := hid hlen
  clear hlen
  by_cases hlt : i < len
  · have hi2 : i < l.length := by rw [← hL.out]; exact hlt
    have hlt2 : (i : Int) < len := by omega
    have hlt3 : ¬ (len : Int) ≤ i := by omega
    obtain ⟨bb, o, rfl, hbB, c0, c1, c2⟩ := hW i hi2
    have HX := hid (cntI_at (most := most) hi2)
    generalize l[i].k = k at c0 HX
    generalize l[i].n = n at c1 HX
    generalize l[i].s = s at c2 HX
    have he := hid (bempty s)
    go_enter Try.func48, Try.ntmps48
    go_wp2_with (go_at_call 42; refine (In_any _ _ _ _).mono ?_; rintro e w' ⟨rfl, rfl⟩)
    all_goals (go_ret; refine ⟨ret_int ?_, rfl⟩; rw [HX.out]; have e := bnil s; clear HX he; simp_all)
  · have HX := hid (show cntI l i most = -1 by unfold cntI; rw [intAt_no l i _ (by rw [← hL.out]; exact hlt)]; rfl)
    have hlt2 : ¬ (i : Int) < len := by omega
    have hlt3 : (len : Int) ≤ i := by omega
    go_enter Try.func48, Try.ntmps48
    go_wp2_with fail
    go_ret
    exact ⟨ret_int HX.out.symm, rfl⟩
/-- What the document says begins at an address. -/
def tRef (l : List Wd) (a : Nat) : Option (Nat × Nat) := match l[a]? with
  | none => none
  | some h => if h.s.size = 0 then
      (if h.k = 6 then (if h.n = 0 then fitT l (a + 1) 2 else none)
       else if h.k = 7 then (if h.n = 0 then fitT l (a + 1) 1 else none)
       else if h.k = 8 then (if inB h.n 0 1999 = true ∧ intAt l (a + 1) 41 = true then fitT l (a + 2) (nAt l (a + 1)) else none)
       else if h.k = 9 then (if inB h.n 0 7 = true ∧ intAt l (a + 1) 20 = true ∧ intAt l (a + 2) 7 = true then fitT l (a + 3) (nAt l (a + 2)) else none)
       else if h.k = 10 then (if intAt l (a + 1) 1 = true ∧ intAt l (a + 2) 7 = true then fitT l (a + 3) (nAt l (a + 2)) else none)
       else none)
      else none
def thV (a : Nat) : Option (Nat × Nat) → Value
  | some (f, e) => .tuple #[.int .i64 ((e : Int) - a), .int .i64 ((f : Int) - a)]
  | none => .tuple #[.int .i64 0, .int .i64 0]
theorem tRef_at {l : List Wd} {i : Nat} (h : i < l.length) : tRef l i = if l[i].s.size = 0 then
      (if l[i].k = 6 then (if l[i].n = 0 then fitT l (i + 1) 2 else none)
       else if l[i].k = 7 then (if l[i].n = 0 then fitT l (i + 1) 1 else none)
       else if l[i].k = 8 then (if inB l[i].n 0 1999 = true ∧ intAt l (i + 1) 41 = true then fitT l (i + 2) (nAt l (i + 1)) else none)
       else if l[i].k = 9 then (if inB l[i].n 0 7 = true ∧ intAt l (i + 1) 20 = true ∧ intAt l (i + 2) 7 = true then fitT l (i + 3) (nAt l (i + 2)) else none)
       else if l[i].k = 10 then (if intAt l (i + 1) 1 = true ∧ intAt l (i + 2) 7 = true then fitT l (i + 3) (nAt l (i + 2)) else none)
       else none)
      else none := by unfold tRef; rw [List.getElem?_eq_getElem h]
theorem thV_fit (l : List Wd) (a f n : Nat) : thV a (fitT l f n) = if f + n ≤ l.length then .tuple #[.int .i64 ((f : Int) + n - a), .int .i64 ((f : Int) - a)] else .tuple #[.int .i64 0, .int .i64 0] := by
  unfold fitT
  split
  · simp [thV]
  · rfl
theorem nAt_le {l : List Wd} {i : Nat} {b : Int} (h : intAt l i b = true) : (nAt l i : Int) < b := by
  obtain ⟨_, h0, h1, h2⟩ := intAt_lt h
  omega
theorem intAt_one {l : List Wd} {j : Nat} : intAt l j 1 = true ↔ (intAt l j 20 = true ∧ nAt l j = 0) := by
  unfold intAt nAt
  cases l[j]? with
  | none => simp
  | some x => simp only [plainB, Bool.and_eq_true, decide_eq_true_eq]; omega
set_option maxHeartbeats 4000000 in
theorem thing_any (w : World) (B : Nat) (a : Option Addr) (l : List Wd) (len cap i : Nat) (hlen : len = l.length) (hl : len ≤ 60000) (hi : i < len) (hBw : B ≤ w.heap.size) (hW : Wds w B a l) :
    Calls Try.prog 31 #[.slice a len cap, .int .i64 i] w fun e w' => e = .returned (thV i (tRef l i)) ∧ Below w.heap.size w w' := by
  have hL := hid hlen
  clear hlen
  have hi2 : i < l.length := by rw [← hL.out]; exact hi
  have hi3 : (i : Int) < len := by omega
  have HT := hid (tRef_at hi2)
  obtain ⟨bb, o, rfl, hbB, c0, c1, c2⟩ := hW i hi2
  generalize l[i].k = k at c0 HT
  generalize l[i].n = n at c1 HT
  generalize l[i].s = s at c2 HT
  have hbw : bb < w.heap.size := by omega
  obtain ⟨w1, hw1⟩ : ∃ w1, w1 = w.alloc (.cells #[.int .i64 k, .int .i64 n, .string s] 37) := ⟨_, rfl⟩
  have hb1 : Below w.heap.size w (w.alloc (.cells #[.int .i64 k, .int .i64 n, .string s] 37)) := (Below.refl _ _).alloc (Nat.le_refl _) _
  have hW1 := hid (hW.below (hb1.mono hBw))
  have HB := hid hb1
  clear hb1 hw1
  by_cases h6 : k = 6
  · subst h6
    have HE : tRef l i = if s.size = 0 ∧ n = 0 then fitT l (i + 1) 2 else none := by rw [HT.out]; by_cases h1 : s.size = 0 <;> by_cases h2 : n = 0 <;> simp [h1, h2]
    have HE2 := hid HE
    clear HT HE
    go_enter Try.func31, Try.ntmps31
    go_wp2_with fail
    all_goals
      refine bodyPost_ret (v := .tuple #[.int .i64 _, .int .i64 _]) (by simp [results, Try.results31, go_sem]; exact ⟨rfl, rfl⟩) rfl ⟨?_, HB.out⟩
      have e := bnil s
      have z : s.size = 0 ↔ s = ByteArray.empty := ByteArray.size_eq_zero_iff
      have hl' := hL.out
      rw [HE2.out]
      clear HE2 HB hW1 hL hW c0 c1 c2
      by_cases hc : s.size = 0 ∧ n = 0
      · rw [if_pos hc, thV_fit]
        by_cases hf : (i + 1) + 2 ≤ l.length
        · rw [if_pos hf]
          first
            | (simp; omega)
            | (exfalso; simp_all; done)
            | (exfalso; simp_all; omega)
        · first
            | (rw [if_neg hf]; done)
            | (rw [if_neg hf]; rfl)
            | (exfalso; simp_all; done)
            | (exfalso; simp_all; omega)
      · first
          | (rw [if_neg hc]; done)
          | (rw [if_neg hc]; rfl)
          | (exfalso; simp_all; done)
          | (exfalso; simp_all; omega)
  by_cases h7 : k = 7
  · subst h7
    have HE : tRef l i = if s.size = 0 ∧ n = 0 then fitT l (i + 1) 1 else none := by rw [HT.out]; by_cases h1 : s.size = 0 <;> by_cases h2 : n = 0 <;> simp [h1, h2]
    have HE2 := hid HE
    clear HT HE
    go_enter Try.func31, Try.ntmps31
    go_wp2_with fail
    all_goals
      refine bodyPost_ret (v := .tuple #[.int .i64 _, .int .i64 _]) (by simp [results, Try.results31, go_sem]; exact ⟨rfl, rfl⟩) rfl ⟨?_, HB.out⟩
      have e := bnil s
      have z : s.size = 0 ↔ s = ByteArray.empty := ByteArray.size_eq_zero_iff
      have hl' := hL.out
      rw [HE2.out]
      clear HE2 HB hW1 hL hW c0 c1 c2
      by_cases hc : s.size = 0 ∧ n = 0
      · rw [if_pos hc, thV_fit]
        by_cases hf : (i + 1) + 1 ≤ l.length
        · rw [if_pos hf]
          first
            | (simp; omega)
            | (exfalso; simp_all; done)
            | (exfalso; simp_all; omega)
        · first
            | (rw [if_neg hf]; done)
            | (rw [if_neg hf]; rfl)
            | (exfalso; simp_all; done)
            | (exfalso; simp_all; omega)
      · first
          | (rw [if_neg hc]; done)
          | (rw [if_neg hc]; rfl)
          | (exfalso; simp_all; done)
          | (exfalso; simp_all; omega)
  by_cases h8 : k = 8
  · subst h8
    have hc1 := hid (countAt_any _ B _ l len cap (i + 1) 40 hL.out hW1.out)
    cases hx : intAt l (i + 1) 41
    · have HE2 := hid (show tRef l i = none by rw [HT.out]; by_cases h1 : s.size = 0 <;> simp [h1, hx])
      have hcv : cntI l (i + 1) 40 = -1 := by unfold cntI; rw [if_neg (by rw [show (40 : Int) + 1 = 41 from rfl, hx]; simp)]
      rw [hcv] at hc1
      clear HT hcv
      go_enter Try.func31, Try.ntmps31
      go_wp2_with (first
        | (go_at_call 48; refine hc1.out.mono ?_; rintro e w' ⟨rfl, rfl⟩)
        | (go_at_call 42; refine (In_any _ _ _ _).mono ?_; rintro e w' ⟨rfl, rfl⟩))
      all_goals
        refine bodyPost_ret (v := .tuple #[.int .i64 0, .int .i64 0]) (by simp [results, Try.results31, go_sem]) rfl ⟨?_, HB.out⟩
        rw [HE2.out]; rfl
    · have hm := nAt_le hx
      have HE2 := hid (show tRef l i = if s.size = 0 ∧ inB n 0 1999 = true then fitT l (i + 2) (nAt l (i + 1)) else none by rw [HT.out]; by_cases h1 : s.size = 0 <;> simp [h1, hx])
      have hcv : cntI l (i + 1) 40 = (nAt l (i + 1) : Int) := by unfold cntI; rw [if_pos (by rw [show (40 : Int) + 1 = 41 from rfl, hx])]
      rw [hcv] at hc1
      clear HT hcv hx
      generalize nAt l (i + 1) = m at hc1 HE2 hm
      have hm0 : ¬ (m : Int) < 0 := by omega
      cases hin : inB n 0 1999
      · skip
        go_enter Try.func31, Try.ntmps31
        go_wp2_with (first
          | (go_at_call 48; refine hc1.out.mono ?_; rintro e w' ⟨rfl, rfl⟩)
          | (go_at_call 42; refine (In_any _ _ _ _).mono ?_; rw [hin]; rintro e w' ⟨rfl, rfl⟩))
        all_goals
          refine bodyPost_ret (v := .tuple #[.int .i64 _, .int .i64 _]) (by simp [results, Try.results31, go_sem]; exact ⟨rfl, rfl⟩) rfl ⟨?_, HB.out⟩
          have e := bnil s
          have z : s.size = 0 ↔ s = ByteArray.empty := ByteArray.size_eq_zero_iff
          have hl' := hL.out
          rw [HE2.out]
          clear HE2 HB hW1 hL hW c0 c1 c2
          by_cases hc : s.size = 0 ∧ inB n 0 1999 = true
          · rw [if_pos hc, thV_fit]
            by_cases hf : (i + 2) + m ≤ l.length
            · rw [if_pos hf]
              first
                | (simp; omega)
                | (exfalso; simp_all; done)
                | (exfalso; simp_all; omega)
            · first
                | (rw [if_neg hf]; done)
                | (rw [if_neg hf]; rfl)
                | (exfalso; simp_all; done)
                | (exfalso; simp_all; omega)
          · first
              | (rw [if_neg hc]; done)
              | (rw [if_neg hc]; rfl)
              | (exfalso; simp_all; done)
              | (exfalso; simp_all; omega)
      · skip
        go_enter Try.func31, Try.ntmps31
        go_wp2_with (first
          | (go_at_call 48; refine hc1.out.mono ?_; rintro e w' ⟨rfl, rfl⟩)
          | (go_at_call 42; refine (In_any _ _ _ _).mono ?_; rw [hin]; rintro e w' ⟨rfl, rfl⟩))
        all_goals
          refine bodyPost_ret (v := .tuple #[.int .i64 _, .int .i64 _]) (by simp [results, Try.results31, go_sem]; exact ⟨rfl, rfl⟩) rfl ⟨?_, HB.out⟩
          have e := bnil s
          have z : s.size = 0 ↔ s = ByteArray.empty := ByteArray.size_eq_zero_iff
          have hl' := hL.out
          rw [HE2.out]
          clear HE2 HB hW1 hL hW c0 c1 c2
          by_cases hc : s.size = 0 ∧ inB n 0 1999 = true
          · rw [if_pos hc, thV_fit]
            by_cases hf : (i + 2) + m ≤ l.length
            · rw [if_pos hf]
              first
                | (simp; omega)
                | (exfalso; simp_all; done)
                | (exfalso; simp_all; omega)
            · first
                | (rw [if_neg hf]; done)
                | (rw [if_neg hf]; rfl)
                | (exfalso; simp_all; done)
                | (exfalso; simp_all; omega)
          · first
              | (rw [if_neg hc]; done)
              | (rw [if_neg hc]; rfl)
              | (exfalso; simp_all; done)
              | (exfalso; simp_all; omega)
  by_cases h9 : k = 9
  · subst h9
    have hc2 := hid (countAt_any _ B _ l len cap (i + 2) 6 hL.out hW1.out)
    have hc1 := hid (countAt_any _ B _ l len cap (i + 1) 19 hL.out hW1.out)
    cases hx2 : intAt l (i + 2) 7
    · have HE2 := hid (show tRef l i = none by rw [HT.out]; by_cases h1 : s.size = 0 <;> simp [h1, hx2])
      have hcv : cntI l (i + 2) 6 = -1 := by unfold cntI; rw [if_neg (by rw [show (6 : Int) + 1 = 7 from rfl, hx2]; simp)]
      rw [hcv] at hc2
      clear HT hcv
      cases hx1 : intAt l (i + 1) 20
      · have hcv : cntI l (i + 1) 19 = -1 := by unfold cntI; rw [if_neg (by rw [show (19 : Int) + 1 = 20 from rfl, hx1]; simp)]
        rw [hcv] at hc1
        clear hcv
        go_enter Try.func31, Try.ntmps31
        go_wp2_with (first
          | (go_at_call_of 48 (Value.int IntKind.i64 6); refine hc2.out.mono ?_; rintro e w' ⟨rfl, rfl⟩)
          | (go_at_call_of 48 (Value.int IntKind.i64 19); refine hc1.out.mono ?_; rintro e w' ⟨rfl, rfl⟩)
          | (go_at_call 42; refine (In_any _ _ _ _).mono ?_; rintro e w' ⟨rfl, rfl⟩))
        all_goals
          refine bodyPost_ret (v := .tuple #[.int .i64 0, .int .i64 0]) (by simp [results, Try.results31, go_sem]) rfl ⟨?_, HB.out⟩
          rw [HE2.out]; rfl
      · have hcv : cntI l (i + 1) 19 = (nAt l (i + 1) : Int) := by unfold cntI; rw [if_pos (by rw [show (19 : Int) + 1 = 20 from rfl, hx1])]
        rw [hcv] at hc1
        clear hcv
        generalize nAt l (i + 1) = m1 at hc1
        have hm1 : ¬ (m1 : Int) < 0 := by omega
        go_enter Try.func31, Try.ntmps31
        go_wp2_with (first
          | (go_at_call_of 48 (Value.int IntKind.i64 6); refine hc2.out.mono ?_; rintro e w' ⟨rfl, rfl⟩)
          | (go_at_call_of 48 (Value.int IntKind.i64 19); refine hc1.out.mono ?_; rintro e w' ⟨rfl, rfl⟩)
          | (go_at_call 42; refine (In_any _ _ _ _).mono ?_; rintro e w' ⟨rfl, rfl⟩))
        all_goals
          refine bodyPost_ret (v := .tuple #[.int .i64 0, .int .i64 0]) (by simp [results, Try.results31, go_sem]) rfl ⟨?_, HB.out⟩
          rw [HE2.out]; rfl
    · have hm := nAt_le hx2
      have hcv : cntI l (i + 2) 6 = (nAt l (i + 2) : Int) := by unfold cntI; rw [if_pos (by rw [show (6 : Int) + 1 = 7 from rfl, hx2])]
      rw [hcv] at hc2
      clear hcv
      cases hx1 : intAt l (i + 1) 20
      · have hcv : cntI l (i + 1) 19 = -1 := by unfold cntI; rw [if_neg (by rw [show (19 : Int) + 1 = 20 from rfl, hx1]; simp)]
        rw [hcv] at hc1
        clear hcv
        skip
        have HE2 := hid (show tRef l i = none by rw [HT.out]; by_cases h1 : s.size = 0 <;> simp [h1, hx1])
        clear HT
        generalize nAt l (i + 2) = m at hc2 hm
        have hm0 : ¬ (m : Int) < 0 := by omega
        go_enter Try.func31, Try.ntmps31
        go_wp2_with (first
          | (go_at_call_of 48 (Value.int IntKind.i64 6); refine hc2.out.mono ?_; rintro e w' ⟨rfl, rfl⟩)
          | (go_at_call_of 48 (Value.int IntKind.i64 19); refine hc1.out.mono ?_; rintro e w' ⟨rfl, rfl⟩)
          | (go_at_call 42; refine (In_any _ _ _ _).mono ?_; rintro e w' ⟨rfl, rfl⟩))
        all_goals
          refine bodyPost_ret (v := .tuple #[.int .i64 0, .int .i64 0]) (by simp [results, Try.results31, go_sem]) rfl ⟨?_, HB.out⟩
          rw [HE2.out]; rfl
      · have hcv : cntI l (i + 1) 19 = (nAt l (i + 1) : Int) := by unfold cntI; rw [if_pos (by rw [show (19 : Int) + 1 = 20 from rfl, hx1])]
        rw [hcv] at hc1
        clear hcv
        have HE2 := hid (show tRef l i = if s.size = 0 ∧ inB n 0 7 = true then fitT l (i + 3) (nAt l (i + 2)) else none by rw [HT.out]; by_cases h1 : s.size = 0 <;> simp [h1, hx1, hx2])
        clear HT hx1 hx2
        generalize nAt l (i + 1) = m1 at hc1
        generalize nAt l (i + 2) = m at hc2 hm HE2
        have hm0 : ¬ (m : Int) < 0 := by omega
        have hm1 : ¬ (m1 : Int) < 0 := by omega
        cases hin : inB n 0 7
        · skip
          go_enter Try.func31, Try.ntmps31
          go_wp2_with (first
            | (go_at_call_of 48 (Value.int IntKind.i64 6); refine hc2.out.mono ?_; rintro e w' ⟨rfl, rfl⟩)
            | (go_at_call_of 48 (Value.int IntKind.i64 19); refine hc1.out.mono ?_; rintro e w' ⟨rfl, rfl⟩)
            | (go_at_call 42; refine (In_any _ _ _ _).mono ?_; rw [hin]; rintro e w' ⟨rfl, rfl⟩))
          all_goals
            refine bodyPost_ret (v := .tuple #[.int .i64 _, .int .i64 _]) (by simp [results, Try.results31, go_sem]; exact ⟨rfl, rfl⟩) rfl ⟨?_, HB.out⟩
            have e := bnil s
            have z : s.size = 0 ↔ s = ByteArray.empty := ByteArray.size_eq_zero_iff
            have hl' := hL.out
            rw [HE2.out]
            clear HE2 HB hW1 hL hW c0 c1 c2
            by_cases hc : s.size = 0 ∧ inB n 0 7 = true
            · rw [if_pos hc, thV_fit]
              by_cases hf : (i + 3) + m ≤ l.length
              · rw [if_pos hf]
                first
                  | (simp; omega)
                  | (exfalso; simp_all; done)
                  | (exfalso; simp_all; omega)
              · first
                  | (rw [if_neg hf]; done)
                  | (rw [if_neg hf]; rfl)
                  | (exfalso; simp_all; done)
                  | (exfalso; simp_all; omega)
            · first
                | (rw [if_neg hc]; done)
                | (rw [if_neg hc]; rfl)
                | (exfalso; simp_all; done)
                | (exfalso; simp_all; omega)
        · skip
          go_enter Try.func31, Try.ntmps31
          go_wp2_with (first
            | (go_at_call_of 48 (Value.int IntKind.i64 6); refine hc2.out.mono ?_; rintro e w' ⟨rfl, rfl⟩)
            | (go_at_call_of 48 (Value.int IntKind.i64 19); refine hc1.out.mono ?_; rintro e w' ⟨rfl, rfl⟩)
            | (go_at_call 42; refine (In_any _ _ _ _).mono ?_; rw [hin]; rintro e w' ⟨rfl, rfl⟩))
          all_goals
            refine bodyPost_ret (v := .tuple #[.int .i64 _, .int .i64 _]) (by simp [results, Try.results31, go_sem]; exact ⟨rfl, rfl⟩) rfl ⟨?_, HB.out⟩
            have e := bnil s
            have z : s.size = 0 ↔ s = ByteArray.empty := ByteArray.size_eq_zero_iff
            have hl' := hL.out
            rw [HE2.out]
            clear HE2 HB hW1 hL hW c0 c1 c2
            by_cases hc : s.size = 0 ∧ inB n 0 7 = true
            · rw [if_pos hc, thV_fit]
              by_cases hf : (i + 3) + m ≤ l.length
              · rw [if_pos hf]
                first
                  | (simp; omega)
                  | (exfalso; simp_all; done)
                  | (exfalso; simp_all; omega)
              · first
                  | (rw [if_neg hf]; done)
                  | (rw [if_neg hf]; rfl)
                  | (exfalso; simp_all; done)
                  | (exfalso; simp_all; omega)
            · first
                | (rw [if_neg hc]; done)
                | (rw [if_neg hc]; rfl)
                | (exfalso; simp_all; done)
                | (exfalso; simp_all; omega)
  by_cases h10 : k = 10
  · subst h10
    have hc2 := hid (countAt_any _ B _ l len cap (i + 2) 6 hL.out hW1.out)
    have hc1 := hid (countAt_any _ B _ l len cap (i + 1) 19 hL.out hW1.out)
    cases hx2 : intAt l (i + 2) 7
    · have HE2 := hid (show tRef l i = none by rw [HT.out]; by_cases h1 : s.size = 0 <;> simp [h1, hx2])
      have hcv : cntI l (i + 2) 6 = -1 := by unfold cntI; rw [if_neg (by rw [show (6 : Int) + 1 = 7 from rfl, hx2]; simp)]
      rw [hcv] at hc2
      clear HT hcv
      cases hx1 : intAt l (i + 1) 20
      · have hcv : cntI l (i + 1) 19 = -1 := by unfold cntI; rw [if_neg (by rw [show (19 : Int) + 1 = 20 from rfl, hx1]; simp)]
        rw [hcv] at hc1
        clear hcv
        go_enter Try.func31, Try.ntmps31
        go_wp2_with (first
          | (go_at_call_of 48 (Value.int IntKind.i64 6); refine hc2.out.mono ?_; rintro e w' ⟨rfl, rfl⟩)
          | (go_at_call_of 48 (Value.int IntKind.i64 19); refine hc1.out.mono ?_; rintro e w' ⟨rfl, rfl⟩)
          | (go_at_call 42; refine (In_any _ _ _ _).mono ?_; rintro e w' ⟨rfl, rfl⟩))
        all_goals
          refine bodyPost_ret (v := .tuple #[.int .i64 0, .int .i64 0]) (by simp [results, Try.results31, go_sem]) rfl ⟨?_, HB.out⟩
          rw [HE2.out]; rfl
      · have hcv : cntI l (i + 1) 19 = (nAt l (i + 1) : Int) := by unfold cntI; rw [if_pos (by rw [show (19 : Int) + 1 = 20 from rfl, hx1])]
        rw [hcv] at hc1
        clear hcv
        generalize nAt l (i + 1) = m1 at hc1
        have hm1 : ¬ (m1 : Int) < 0 := by omega
        go_enter Try.func31, Try.ntmps31
        go_wp2_with (first
          | (go_at_call_of 48 (Value.int IntKind.i64 6); refine hc2.out.mono ?_; rintro e w' ⟨rfl, rfl⟩)
          | (go_at_call_of 48 (Value.int IntKind.i64 19); refine hc1.out.mono ?_; rintro e w' ⟨rfl, rfl⟩)
          | (go_at_call 42; refine (In_any _ _ _ _).mono ?_; rintro e w' ⟨rfl, rfl⟩))
        all_goals
          refine bodyPost_ret (v := .tuple #[.int .i64 0, .int .i64 0]) (by simp [results, Try.results31, go_sem]) rfl ⟨?_, HB.out⟩
          rw [HE2.out]; rfl
    · have hm := nAt_le hx2
      have hcv : cntI l (i + 2) 6 = (nAt l (i + 2) : Int) := by unfold cntI; rw [if_pos (by rw [show (6 : Int) + 1 = 7 from rfl, hx2])]
      rw [hcv] at hc2
      clear hcv
      cases hx1 : intAt l (i + 1) 20
      · have hcv : cntI l (i + 1) 19 = -1 := by unfold cntI; rw [if_neg (by rw [show (19 : Int) + 1 = 20 from rfl, hx1]; simp)]
        rw [hcv] at hc1
        clear hcv
        have hone : intAt l (i + 1) 1 = false := by rw [Bool.eq_false_iff]; intro h; rw [intAt_one, hx1] at h; simp at h
        have HE2 := hid (show tRef l i = none by rw [HT.out]; by_cases h1 : s.size = 0 <;> simp [h1, hone])
        clear HT
        generalize nAt l (i + 2) = m at hc2 hm
        have hm0 : ¬ (m : Int) < 0 := by omega
        go_enter Try.func31, Try.ntmps31
        go_wp2_with (first
          | (go_at_call_of 48 (Value.int IntKind.i64 6); refine hc2.out.mono ?_; rintro e w' ⟨rfl, rfl⟩)
          | (go_at_call_of 48 (Value.int IntKind.i64 19); refine hc1.out.mono ?_; rintro e w' ⟨rfl, rfl⟩)
          | (go_at_call 42; refine (In_any _ _ _ _).mono ?_; rintro e w' ⟨rfl, rfl⟩))
        all_goals
          refine bodyPost_ret (v := .tuple #[.int .i64 0, .int .i64 0]) (by simp [results, Try.results31, go_sem]) rfl ⟨?_, HB.out⟩
          rw [HE2.out]; rfl
      · have hcv : cntI l (i + 1) 19 = (nAt l (i + 1) : Int) := by unfold cntI; rw [if_pos (by rw [show (19 : Int) + 1 = 20 from rfl, hx1])]
        rw [hcv] at hc1
        clear hcv
        have hone : intAt l (i + 1) 1 = decide (nAt l (i + 1) = 0) := by rw [Bool.eq_iff_iff, intAt_one, hx1]; simp
        have HE2 := hid (show tRef l i = if s.size = 0 ∧ nAt l (i + 1) = 0 then fitT l (i + 3) (nAt l (i + 2)) else none by rw [HT.out]; by_cases h1 : s.size = 0 <;> simp [h1, hone, hx2])
        clear HT hx1 hx2 hone
        generalize nAt l (i + 1) = m1 at hc1 HE2
        generalize nAt l (i + 2) = m at hc2 hm HE2
        have hm0 : ¬ (m : Int) < 0 := by omega
        have hm1 : ¬ (m1 : Int) < 0 := by omega
        go_enter Try.func31, Try.ntmps31
        go_wp2_with (first
          | (go_at_call_of 48 (Value.int IntKind.i64 6); refine hc2.out.mono ?_; rintro e w' ⟨rfl, rfl⟩)
          | (go_at_call_of 48 (Value.int IntKind.i64 19); refine hc1.out.mono ?_; rintro e w' ⟨rfl, rfl⟩)
          | (go_at_call 42; refine (In_any _ _ _ _).mono ?_; rintro e w' ⟨rfl, rfl⟩))
        all_goals
          refine bodyPost_ret (v := .tuple #[.int .i64 _, .int .i64 _]) (by simp [results, Try.results31, go_sem]; exact ⟨rfl, rfl⟩) rfl ⟨?_, HB.out⟩
          have e := bnil s
          have z : s.size = 0 ↔ s = ByteArray.empty := ByteArray.size_eq_zero_iff
          have hl' := hL.out
          rw [HE2.out]
          clear HE2 HB hW1 hL hW c0 c1 c2
          by_cases hc : s.size = 0 ∧ m1 = 0
          · rw [if_pos hc, thV_fit]
            by_cases hf : (i + 3) + m ≤ l.length
            · rw [if_pos hf]
              first
                | (simp; omega)
                | (exfalso; simp_all; done)
                | (exfalso; simp_all; omega)
            · first
                | (rw [if_neg hf]; done)
                | (rw [if_neg hf]; rfl)
                | (exfalso; simp_all; done)
                | (exfalso; simp_all; omega)
          · first
              | (rw [if_neg hc]; done)
              | (rw [if_neg hc]; rfl)
              | (exfalso; simp_all; done)
              | (exfalso; simp_all; omega)
  have HE2 := hid (show tRef l i = none by rw [HT.out]; by_cases h1 : s.size = 0 <;> simp [h1, h6, h7, h8, h9, h10])
  clear HT
  go_enter Try.func31, Try.ntmps31
  go_wp2_with fail
  all_goals
    refine bodyPost_ret (v := .tuple #[.int .i64 0, .int .i64 0]) (by simp [results, Try.results31, go_sem]) rfl ⟨?_, HB.out⟩
    rw [HE2.out]; rfl
end Go.Proofs.Ytfjfobpdlmdddaa

/- Values of a heap: heap's isRecord, isValue, areValues. -/
import Derived.Test.YtfjfobpdlmdddaaHThings
namespace Go.Proofs.Ytfjfobpdlmdddaa
set_option maxRecDepth 100000
open Go.RowKit Go.Maps
def kindAt (l : List Wd) (n : Int) : Int := match l[n.toNat]? with
  | some w => w.k
  | none => 0
def recB (l : List Wd) (ps : List (Int × Int)) (n : Int) : Bool := hasI ps n && decide (kindAt l n = 9)
def valB (ps : List (Int × Int)) (k n : Int) (s : ByteArray) : Bool :=
  if k = 1 then decide (-1099511627776 ≤ n) && decide (n ≤ 1099511627776) && decide (s.size = 0)
  else if k = 2 then plainB n s 2
  else if k = 3 then plainB n s 1
  else if k = 4 then decide (n = 0) && decide (1 ≤ s.size) && decide (s.size ≤ 16)
  else if k = 5 then hasI ps n && decide (s.size = 0)
  else false
theorem bemptyI (s : ByteArray) : s.toList.isEmpty = decide (s.size = 0) := by
  rw [← bempty]
  cases s.toList <;> rfl
set_option maxHeartbeats 1000000 in
theorem isRecord_any (w : World) (B cb : Nat) (a : Option Addr) (len cap : Nat) (l : List Wd) (v : Value) (acc : List Th) (pb mb : Nat) (ms : List (Int × Int)) (hC : Chart w B cb a len cap l v acc pb mb ms) (hlen : len = l.length) (n : Int) (hn : wfI n)
    (hin : hasI (plOf acc) n = true → 0 ≤ n ∧ n < l.length) :
    Calls Try.prog 59 #[.pointer (some ⟨cb, 0, none⟩), .int .i64 n] w fun e w' => e = .returned (.bool (recB l (plOf acc) n)) ∧ w' = w := by
  have hL := hid hlen
  clear hlen
  have hrun := OwnsI.look2 hC.pl hn
  have c2 := hC.c2
  have c0 := hC.c0
  cases hh : hasI (plOf acc) n
  · have HR := hid (show recB l (plOf acc) n = false by unfold recB; rw [hh]; rfl)
    rw [hh] at hrun
    clear hh hin
    go_enter Try.func59, Try.ntmps59
    go_wp2_with fail
    go_ret
    exact ⟨ret_bool HR.out.symm, rfl⟩
  · obtain ⟨h0, h1⟩ := hin hh
    obtain ⟨m, rfl⟩ := Int.eq_ofNat_of_zero_le h0
    have h2 : m < l.length := by omega
    obtain ⟨bb, o, rfl, _, d0, _, _⟩ := hC.wds m h2
    have HR := hid (show recB l (plOf acc) m = decide (l[m].k = 9) by unfold recB kindAt; rw [hh, Int.toNat_natCast, List.getElem?_eq_getElem h2]; rfl)
    rw [hh] at hrun
    have h3 : (m : Int) < len := by rw [hL.out]; omega
    generalize l[m].k = k at d0 HR
    clear hh hin h1
    go_enter Try.func59, Try.ntmps59
    go_wp2_with fail
    all_goals (go_ret; exact ⟨ret_bool (by rw [HR.out, Bool.eq_iff_iff]; simp), rfl⟩)
set_option maxHeartbeats 2000000 in
theorem isValue_any (w : World) (B cb : Nat) (a : Option Addr) (len cap : Nat) (l : List Wd) (v : Value) (acc : List Th) (pb mb : Nat) (ms : List (Int × Int)) (hC : Chart w B cb a len cap l v acc pb mb ms) (k n : Int) (s : ByteArray) (hn : wfI n) (hs : s.size ≤ 9223372036854775807) :
    Calls Try.prog 37 #[.pointer (some ⟨cb, 0, none⟩), .agg #[.int .i64 k, .int .i64 n, .string s]] w fun e w' => e = .returned (.bool (valB (plOf acc) k n s)) ∧ Below w.heap.size w w' := by
  have he := hid (bempty s)
  obtain ⟨w1, hw1⟩ : ∃ w1, w1 = w.alloc (.cells #[.int .i64 k, .int .i64 n, .string s] 37) := ⟨_, rfl⟩
  have hb1 : Below w.heap.size w w1 := by rw [hw1]; exact (Below.refl _ _).alloc (Nat.le_refl _) _
  have hz1 : w1.heap.size = w.heap.size + 1 := by rw [hw1]; simp
  have tt : w1.cell? ⟨w.heap.size, 0, none⟩ = some (.int .i64 k) ∧ w1.cell? ⟨w.heap.size, 1, none⟩ = some (.int .i64 n) ∧ w1.cell? ⟨w.heap.size, 2, none⟩ = some (.string s) := by
    rw [hw1]; refine ⟨?_, ?_, ?_⟩ <;> go_simp
  have C1 := hC.below hb1
  have HW := hid hw1
  have HZ := hid hz1
  have c2 := C1.c2
  have hrun : (Instr.lookup 56 (.map (some pb)) (.int .i64 n) true).run Try.prog w1.drew = .ok (.tuple #[.int .i64 (valI (plOf acc) n), .bool (hasI (plOf acc) n)]) w1.drew := OwnsI.look2 (w := w1.drew) C1.pl hn
  obtain ⟨t0, t1, t2⟩ := tt
  clear hw1 hz1
  go_enter Try.func37, Try.ntmps37
  by_cases h5 : k = 5
  · subst h5
    have HV : valB (plOf acc) 5 n s = (hasI (plOf acc) n && decide (s.size = 0)) := by unfold valB; simp
    rw [HV]
    generalize hasI (plOf acc) n = hb at hrun ⊢
    generalize valI (plOf acc) n = hv at hrun
    clear HV
    go_wp2_with fail
    rw [← HW.out]
    go_region
    cases hb
    · go_wp2_with fail
      go_ret
      exact ⟨ret_bool rfl, bdrew hb1 1⟩
    · go_wp2_with fail
      go_ret
      exact ⟨ret_bool (by rw [bemptyI]; rfl), bdrew hb1 1⟩
  · clear hrun
    have hb0 := hid ((Below.refl w.heap.size w).alloc (Nat.le_refl _) (.cells #[.int .i64 k, .int .i64 n, .string s] 37))
    go_wp2_with (go_at_call 55; refine (isPlain_any _ _ _ _ _).mono ?_; rintro e w2 ⟨rfl, hb2⟩)
    all_goals (go_ret; refine ⟨ret_bool ?_, ?_⟩)
    all_goals first
      | exact hb0.out
      | exact hb0.out.trans (hb2.mono (by simp))
      | exact (Below.refl _ _).alloc (Nat.le_refl _) _
      | (have e := bemptyI s; clear he hb0 HW HZ C1 hC hb1 t0 t1 t2 c2; try clear hb2
         simp_all [valB])
    all_goals first
      | omega
      | (rw [Bool.eq_iff_iff]; simp; omega)
def allB (ps : List (Int × Int)) (l : List Wd) : Bool := l.all fun x => valB ps x.k x.n x.s
theorem allB_no {ps : List (Int × Int)} {l : List Wd} {i : Nat} (h : i < l.length) (hv : valB ps l[i].k l[i].n l[i].s = false) : allB ps l = false := by
  unfold allB
  rw [List.all_eq_false]
  exact ⟨l[i], List.getElem_mem h, by rw [hv]; simp⟩
def wfL (l : List Wd) : Prop := ∀ i (h : i < l.length), wfI l[i].n ∧ l[i].s.size ≤ 9223372036854775807
set_option maxHeartbeats 2000000 in
theorem areValues_any (w : World) (B cb : Nat) (a : Option Addr) (len cap : Nat) (l : List Wd) (v : Value) (acc : List Th) (pb mb : Nat) (ms : List (Int × Int)) (hC : Chart w B cb a len cap l v acc pb mb ms)
    (B2 : Nat) (a2 : Option Addr) (len2 cap2 : Nat) (l2 : List Wd) (hW : Wds w B2 a2 l2) (hB2 : B2 ≤ w.heap.size) (hlen2 : len2 = l2.length) (hl2 : len2 ≤ 9223372036854775807) (hwf : wfL l2) :
    Calls Try.prog 39 #[.pointer (some ⟨cb, 0, none⟩), .slice a2 len2 cap2] w fun e w' => e = .returned (.bool (allB (plOf acc) l2)) ∧ Below w.heap.size w w' := by
  have hL := hid hlen2
  clear hlen2
  go_enter Try.func39, Try.ntmps39
  go_wp2_with fail
  go_loopw [9] (fun i wr => ∃ k : Nat, k ≤ len2 ∧ i = .int .i64 k ∧ (∀ j (h : j < l2.length), j < k → valB (plOf acc) l2[j].k l2[j].n l2[j].s = true) ∧ Below w.heap.size w wr) (fun i _ => len2 - (intOf i).toNat)
  case atStart => exact ⟨0, Nat.zero_le _, rfl, fun j _ h => absurd h (by omega), Below.refl _ _⟩
  case round =>
    obtain ⟨k, hk, rfl, hall, hBr⟩ := hrel
    have HA := hid hall
    have HB := hid hBr
    clear hall
    by_cases hlt : k < len2
    · have hlt2 : (k : Int) < len2 := by omega
      have hk2 : k < l2.length := by rw [← hL.out]; exact hlt
      have hWr := hW.below (hBr.mono hB2)
      obtain ⟨bb, o, rfl, hbb, d0, d1, d2⟩ := hWr k hk2
      have hbr : bb < wr.heap.size := by have := hBr.size; omega
      obtain ⟨hwn, hws⟩ := hwf k hk2
      cases hv : valB (plOf acc) l2[k].k l2[k].n l2[k].s
      · have HN := hid (allB_no hk2 hv)
        have HV := hid hv
        clear hv
        generalize l2[k].k = kk at d0 HV
        generalize l2[k].n = kn at d1 HV hwn
        generalize l2[k].s = ks at d2 HV hws
        go_wp2_with fail
        have C1 := (hC.below hBr).below ((Below.refl wr.heap.size wr).alloc (Nat.le_refl _) (.cells #[.int .i64 kk, .int .i64 kn, .string ks] 37))
        have hcall := isValue_any _ B cb a len cap l v acc pb mb ms C1 kk kn ks hwn hws
        rw [HV.out] at hcall
        go_fit hcall
        clear hcall
        rintro e w2 ⟨rfl, hb2⟩
        go_wp2_with fail
        go_ret
        exact ⟨ret_bool HN.out.symm, (HB.out.alloc (HB.out.size) _).trans (hb2.mono (by have := HB.out.size; simp; omega))⟩
      · have HV := hid hv
        have HV0 := hid hv
        clear hv
        generalize l2[k].k = kk at d0 HV
        generalize l2[k].n = kn at d1 HV hwn
        generalize l2[k].s = ks at d2 HV hws
        go_wp2_with fail
        have C1 := (hC.below hBr).below ((Below.refl wr.heap.size wr).alloc (Nat.le_refl _) (.cells #[.int .i64 kk, .int .i64 kn, .string ks] 37))
        have hcall := isValue_any _ B cb a len cap l v acc pb mb ms C1 kk kn ks hwn hws
        rw [HV.out] at hcall
        go_fit hcall
        clear hcall
        rintro e w2 ⟨rfl, hb2⟩
        have HB2 := hid ((HB.out.alloc (HB.out.size) (.cells #[.int .i64 kk, .int .i64 kn, .string ks] 37)).trans (hb2.mono (by have := HB.out.size; simp; omega)))
        clear hb2 C1 d0 d1 d2
        go_wp2_with fail
        go_roundw
        case rel => exact ⟨k + 1, by omega, by go_num, fun j h hj => by
          by_cases e : j = k
          · subst e; exact HV0.out
          · exact HA.out j h (by omega), HB2.out⟩
        case measure => simp [intOf]; omega
    · have HY := hid (show allB (plOf acc) l2 = true by
        unfold allB
        rw [List.all_eq_true]
        intro x hx
        obtain ⟨j, hj, rfl⟩ := List.getElem_of_mem hx
        exact HA.out j hj (by rw [← hL.out] at hj; omega))
      have hlt2 : ¬ (k : Int) < len2 := by omega
      go_wp2_with fail
      go_ret
      exact ⟨ret_bool HY.out.symm, HB.out⟩
end Go.Proofs.Ytfjfobpdlmdddaa

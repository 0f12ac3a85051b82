/- A datum as its text, plainly; the document's datumText. -/
import Derived.Test.YtfhiolnoalghmaaDoorShows1
import Derived.Test.YtfhiolnoalghmaaDoorRefs
namespace Go.Proofs.YtfhiolnoalghmaaDoor
open Go.RowKit
def joinTo (f : Nat → List UInt8) : Nat → List UInt8
  | 0 => []
  | j + 1 => joinTo f j ++ (if 0 < j then [32] else []) ++ f j
def leafOr (k n : Int) (s : ByteArray) (r : List UInt8) : List UInt8 := if k = 1 then Lib.itoa n else if k = 2 then boolT n else if k = 3 then s.data.toList else r
def elemT (W : World) (g : Int → Int → ByteArray → Option Addr → Nat → List UInt8) (a : Option Addr) (i : Nat) : List UInt8 :=
  match a with
  | none => []
  | some p =>
    match W.cell? ⟨p.block, p.off + i * 4, none⟩, W.cell? ⟨p.block, p.off + i * 4 + 1, none⟩, W.cell? ⟨p.block, p.off + i * 4 + 2, none⟩, W.cell? ⟨p.block, p.off + i * 4 + 3, none⟩ with
    | some (.int _ k), some (.int _ n), some (.string s), some (.slice a' len _) => g k n s a' len
    | _, _, _, _ => []
def txtI (W : World) : Nat → Int → Int → ByteArray → Option Addr → Nat → List UInt8
  | 0, k, n, s, _, _ => leafOr k n s []
  | d + 1, k, n, s, a, len => leafOr k n s ([40] ++ joinTo (elemT W (txtI W d) a) len ++ [41])
theorem elemT_eq {W : World} {b q j : Nat} {k n : Int} {s : ByteArray} {a : Option Addr} {len cap : Nat} (g : Int → Int → ByteArray → Option Addr → Nat → List UInt8)
    (c0 : W.cell? ⟨b, q + j * 4, none⟩ = some (.int .i64 k)) (c1 : W.cell? ⟨b, q + j * 4 + 1, none⟩ = some (.int .i64 n)) (c2 : W.cell? ⟨b, q + j * 4 + 2, none⟩ = some (.string s)) (c3 : W.cell? ⟨b, q + j * 4 + 3, none⟩ = some (.slice a len cap)) :
    elemT W g (some ⟨b, q, none⟩) j = g k n s a len := by
  unfold elemT
  simp [c0, c1, c2, c3]
theorem joinTo_le (f : Nat → List UInt8) : ∀ (m j : Nat), j ≤ m → (joinTo f j).length ≤ (joinTo f m).length
  | 0, j, h => by
    have e : j = 0 := Nat.le_zero.1 h
    rw [e]; exact Nat.le_refl _
  | m + 1, j, h => by
    by_cases e : j = m + 1
    · subst e; exact Nat.le_refl _
    · have := joinTo_le f m j (by omega)
      simp only [joinTo, List.length_append]
      omega
theorem joinTo_step (f : Nat → List UInt8) (m j : Nat) (h : j < m) : (joinTo f j).length + (if 0 < j then 1 else 0) + (f j).length ≤ (joinTo f m).length := by
  have := joinTo_le f m (j + 1) h
  simp only [joinTo, List.length_append] at this
  split at this <;> simp_all <;> omega
theorem firstI_zero (f : Nat → Int) : ∀ (m i : Nat), firstI f i m = 0 → ∀ j, i ≤ j → j < i + m → f j = 0
  | 0, i, _, j, h1, h2 => by omega
  | m + 1, i, h, j, h1, h2 => by
    unfold firstI at h
    by_cases h0 : f i = 0
    · rw [if_pos h0] at h
      by_cases e : j = i
      · rw [e]; exact h0
      · exact firstI_zero f m (i + 1) h j (by omega) (by omega)
    · rw [if_neg h0] at h; exact absurd h h0
theorem flt_parts {W : World} {d : Nat} {k n : Int} {s : ByteArray} {a : Option Addr} {len : Nat} (h : fltI W (d + 1) k n s a len = 0) : aloneI k n s len (39 - d) = 0 ∧ ∀ j, j < len → elemI W (fltI W d) a j = 0 := by
  by_cases hE : aloneI k n s len (39 - d) = 0
  · rw [fltI_pos W d k n s a len hE] at h
    exact ⟨hE, fun j hj => firstI_zero _ len 0 h j (Nat.zero_le _) (by omega)⟩
  · rw [fltI_neg W d k n s a len hE] at h
    exact absurd h hE
set_option maxRecDepth 100000 in
set_option maxHeartbeats 2000000 in
theorem text_any (W : World) (B : Nat) (d : Nat) : ∀ (k n : Int) (s : ByteArray) (a : Option Addr) (len cap : Nat) (w : World), Below B W w → B ≤ w.heap.size → Fine W B d s a len → fltI W d k n s a len = 0 → (txtI W d k n s a len).length ≤ 1099511627776 →
    Calls Tryd.prog 24 #[.agg #[.int .i64 k, .int .i64 n, .string s, .slice a len cap]] w fun e w' => e = .returned (.string ⟨(txtI W d k n s a len).toArray⟩) ∧ Below w.heap.size w w' := by
  induction d with
  | zero => intro k n s a len cap w _ _ _ h _; exact absurd h (alone_deep k n s len)
  | succ d ih =>
    intro k n s a len cap w hW hB hF h hlim
    have hl := hF.len
    obtain ⟨hE, hel⟩ := flt_parts h
    obtain ⟨_, hcase⟩ := alone_zero _ _ _ _ _ hE
    have hb0 := hid ((Below.refl w.heap.size w).alloc (Nat.le_refl _) (.cells #[.int .i64 k, .int .i64 n, .string s, .slice a len cap] 24))
    clear h hE
    rcases hcase with ⟨rfl, hn, hs0, rfl⟩ | ⟨rfl, hn, hs0, rfl⟩ | ⟨rfl, hn, rfl, rfl⟩ | ⟨rfl, rfl, hs0⟩
    · have hT : Hid (txtI W (d + 1) 1 n s a 0 = Lib.itoa n) := hid rfl
      have hr : -1099511627776 ≤ n ∧ n ≤ 1099511627776 := by simpa [inI] using hn
      go_enter Tryd.func24, Tryd.ntmps24
      go_wp2_with (go_at_call 36; refine (Dec_any _ _ hr.1 hr.2).mono ?_; rintro e w1 ⟨rfl, hb1⟩)
      go_ret
      exact ⟨by rw [hT.out]; rfl, hb0.out.trans (hb1.mono (by simp))⟩
    · have hT : Hid (txtI W (d + 1) 2 n s a 0 = boolT n) := hid rfl
      by_cases h1 : n = 1
      · have hT2 : Hid (boolT n = [35, 116]) := hid (by unfold boolT; rw [if_pos h1])
        subst h1
        go_enter Tryd.func24, Tryd.ntmps24
        go_wp2_with fail
        go_ret
        exact ⟨by rw [hT.out, hT2.out]; rfl, hb0.out⟩
      · have hT2 : Hid (boolT n = [35, 102]) := hid (by unfold boolT; rw [if_neg h1])
        go_enter Tryd.func24, Tryd.ntmps24
        go_wp2_with fail
        go_ret
        exact ⟨by rw [hT.out, hT2.out]; rfl, hb0.out⟩
    · have hT : Hid (txtI W (d + 1) 3 0 s a 0 = s.data.toList) := hid rfl
      go_enter Tryd.func24, Tryd.ntmps24
      go_wp2_with fail
      go_ret
      exact ⟨by rw [hT.out]; rfl, hb0.out⟩
    · have hT : Hid (txtI W (d + 1) 4 0 s a len = [40] ++ joinTo (elemT W (txtI W d) a) len ++ [41]) := hid rfl
      go_enter Tryd.func24, Tryd.ntmps24
      go_wp2_with fail
      go_loopw [3, 4] (fun v i wr => ∃ j : Nat, j ≤ len ∧ i = .int .i64 j ∧ v = .string ⟨([40] ++ joinTo (elemT W (txtI W d) a) j).toArray⟩ ∧ Below (w.heap.size + 1) (w.alloc (.cells #[.int .i64 4, .int .i64 0, .string s, .slice a len cap] 24)) wr) (fun _ i _ => len - (intOf i).toNat)
      case atStart => exact ⟨0, Nat.zero_le _, rfl, rfl, Below.refl _ _⟩
      case round =>
        obtain ⟨j, hj, rfl, rfl, hbr⟩ := hrel
        have gx := box_cell hbr
        have hsz := hbr.size
        simp at hsz
        have hbw := hid (hb0.out.trans (hbr.mono (by omega)))
        by_cases hlt : j < len
        · obtain ⟨b, q, k', n', s', a', len', cap', rfl, hbB, c0, c1, c2, c3, hF'⟩ := hF.2.2 j hlt
          have hflt : fltI W d k' n' s' a' len' = 0 := by
            have h1 := hel j hlt
            rw [elemI_eq (fltI W d) c0 c1 c2 c3] at h1
            exact h1
          have htx := elemT_eq (txtI W d) c0 c1 c2 c3
          have hjs := joinTo_step (elemT W (txtI W d) (some ⟨b, q, none⟩)) len j hlt
          have hrd : ∀ x, wr.cell? ⟨b, x, none⟩ = W.cell? ⟨b, x, none⟩ := fun x => by
            rw [hbw.out.cell (p := ⟨b, x, none⟩) (show b < w.heap.size by omega), hW.cell (p := ⟨b, x, none⟩) hbB]
          have g0 := (hrd _).trans c0
          have g1 := (hrd _).trans c1
          have g2 := (hrd _).trans c2
          have g3 := (hrd _).trans c3
          have htot : 2 + (joinTo (elemT W (txtI W d) (some ⟨b, q, none⟩)) len).length ≤ 1099511627776 := by
            rw [hT.out] at hlim
            simp at hlim
            omega
          rw [htx] at hjs
          have HIH := hid (ih k' n' s' a' len' cap' wr (hW.trans (hbw.out.mono hB)) (by omega) hF' hflt (by omega))
          have HST : Hid (joinTo (elemT W (txtI W d) (some ⟨b, q, none⟩)) (j + 1) = joinTo (elemT W (txtI W d) (some ⟨b, q, none⟩)) j ++ (if 0 < j then [32] else []) ++ txtI W d k' n' s' a' len') := hid (by rw [joinTo, htx])
          clear hrd c0 c1 c2 c3 htx hflt hF'
          generalize txtI W d k' n' s' a' len' = t at hjs HIH HST
          generalize hcur : [40] ++ joinTo (elemT W (txtI W d) (some ⟨b, q, none⟩)) j = cur
          have hcl : cur.length = 1 + (joinTo (elemT W (txtI W d) (some ⟨b, q, none⟩)) j).length := by rw [← hcur]; simp; omega
          have HCU := hid hcur
          clear hcur
          by_cases h0 : 0 < j
          · rw [if_pos h0] at hjs
            have hl1 : ¬ 9223372036854775807 < cur.length + 1 := by omega
            have hl2 : ¬ 9223372036854775807 < cur.length + 1 + t.length := by omega
            have h0i : (0 : Int) < j := by omega
            clear hcl hjs htot
            go_wp2_with fail
            have hcall := HIH.out
            go_fit hcall
            clear hcall
            rintro e w2 ⟨rfl, hb2⟩
            go_wp2_with fail
            go_roundw
            case rel => exact ⟨j + 1, by omega, by go_num, congrArg Value.string (by rw [HST.out, if_pos h0, ← List.append_assoc, ← List.append_assoc, HCU.out, ← mk_append, ← mk_append]), hbr.trans (hb2.mono (by omega))⟩
            case measure => simp [intOf]; omega
          · obtain rfl : j = 0 := by omega
            rw [if_neg h0] at hjs
            simp only [Nat.zero_mul, Nat.add_zero] at g0 g1 g2 g3
            have hl2 : ¬ 9223372036854775807 < cur.length + t.length := by omega
            clear hcl hjs htot
            go_wp2_with fail
            have hcall := HIH.out
            go_fit hcall
            clear hcall
            rintro e w2 ⟨rfl, hb2⟩
            go_wp2_with fail
            go_roundw
            case rel => exact ⟨1, by omega, by go_num, congrArg Value.string (by rw [HST.out, if_neg h0, List.append_nil, ← List.append_assoc, HCU.out, ← mk_append]), hbr.trans (hb2.mono (by omega))⟩
            case measure => simp [intOf]; omega
        · obtain rfl : j = len := by omega
          have hlim2 : ¬ 9223372036854775807 < ([40] ++ joinTo (elemT W (txtI W d) a) j).length + 1 := by
            rw [hT.out] at hlim
            simp at hlim ⊢
            omega
          generalize [40] ++ joinTo (elemT W (txtI W d) a) j = cur at hT hlim2
          go_wp2_with fail
          go_ret
          exact ⟨by rw [hT.out, ← mk_append]; rfl, hbw.out⟩
end Go.Proofs.YtfhiolnoalghmaaDoor

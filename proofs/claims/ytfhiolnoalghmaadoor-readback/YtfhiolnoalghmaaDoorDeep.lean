/- A datum and what is in it. -/
import Derived.Test.YtfhiolnoalghmaaDoorAlone
import Derived.Deep.DeepFit
namespace Go.Proofs.YtfhiolnoalghmaaDoor
open Go.RowKit
theorem bcell {W w1 : World} {B : Nat} (hb : Below B W w1) : (∀ b o, b < B → w1.cell? ⟨b, o, none⟩ = W.cell? ⟨b, o, none⟩) ∧ (∀ b o, b < B → w1.frozen? ⟨b, o, none⟩ = W.frozen? ⟨b, o, none⟩) :=
  ⟨fun b o h => hb.cell (p := ⟨b, o, none⟩) h, fun b o h => hb.frozen (p := ⟨b, o, none⟩) h⟩
def firstI (f : Nat → Int) : Nat → Nat → Int
  | _, 0 => 0
  | i, m + 1 => if f i = 0 then firstI f (i + 1) m else f i
def elemI (W : World) (g : Int → Int → ByteArray → Option Addr → Nat → Int) (a : Option Addr) (i : Nat) : Int :=
  match a with
  | none => 0
  | some p =>
    match W.cell? ⟨p.block, p.off + i * 4, none⟩, W.cell? ⟨p.block, p.off + i * 4 + 1, none⟩, W.cell? ⟨p.block, p.off + i * 4 + 2, none⟩, W.cell? ⟨p.block, p.off + i * 4 + 3, none⟩ with
    | some (.int _ k), some (.int _ n), some (.string s), some (.slice a' len _) => g k n s a' len
    | _, _, _, _ => 0
def fltI (W : World) : Nat → Int → Int → ByteArray → Option Addr → Nat → Int
  | 0, k, n, s, _, len => aloneI k n s len 40
  | d + 1, k, n, s, a, len => if aloneI k n s len (39 - d) = 0 then firstI (elemI W (fltI W d) a) 0 len else aloneI k n s len (39 - d)
def Fine (W : World) (B : Nat) : Nat → ByteArray → Option Addr → Nat → Prop
  | 0, s, _, len => s.size ≤ 9223372036854775807 ∧ len ≤ 9223372036854775807
  | d + 1, s, a, len => s.size ≤ 9223372036854775807 ∧ len ≤ 9223372036854775807 ∧ ∀ i, i < len → ∃ b o k n s' a' len' cap', a = some ⟨b, o, none⟩ ∧ b < B ∧
      W.cell? ⟨b, o + i * 4, none⟩ = some (.int .i64 k) ∧ W.cell? ⟨b, o + i * 4 + 1, none⟩ = some (.int .i64 n) ∧ W.cell? ⟨b, o + i * 4 + 2, none⟩ = some (.string s') ∧
      W.cell? ⟨b, o + i * 4 + 3, none⟩ = some (.slice a' len' cap') ∧ Fine W B d s' a' len'
theorem Fine.size {W : World} {B d : Nat} {s : ByteArray} {a : Option Addr} {len : Nat} (h : Fine W B d s a len) : s.size ≤ 9223372036854775807 := by
  cases d <;> exact h.1
theorem Fine.len {W : World} {B d : Nat} {s : ByteArray} {a : Option Addr} {len : Nat} (h : Fine W B d s a len) : len ≤ 9223372036854775807 := by
  cases d
  · exact h.2
  · exact h.2.1
theorem alone_deep (k n : Int) (s : ByteArray) (len : Nat) : ¬ aloneI k n s len 40 = 0 := by
  unfold aloneI
  split
  · decide
  · simp
theorem firstI_start (f : Nat → Int) (len : Nat) : firstI f 0 len = firstI f 0 (len - 0) := rfl
theorem firstI_step (f : Nat → Int) (len j : Nat) (h : j < len) (h0 : f j = 0) : firstI f j (len - j) = firstI f (j + 1) (len - (j + 1)) := by
  obtain ⟨m, hm⟩ : ∃ m, len - j = m + 1 := ⟨len - j - 1, by omega⟩
  rw [hm, show len - (j + 1) = m from by omega]
  simp [firstI, h0]
theorem firstI_stop (f : Nat → Int) (len j : Nat) (h : j < len) (h0 : ¬ f j = 0) : firstI f j (len - j) = f j := by
  obtain ⟨m, hm⟩ : ∃ m, len - j = m + 1 := ⟨len - j - 1, by omega⟩
  rw [hm]
  simp [firstI, h0]
theorem firstI_end (f : Nat → Int) (len j : Nat) (h : ¬ j < len) : firstI f j (len - j) = 0 := by
  rw [show len - j = 0 from by omega]; rfl
theorem fltI_pos (W : World) (d : Nat) (k n : Int) (s : ByteArray) (a : Option Addr) (len : Nat) (h : aloneI k n s len (39 - d) = 0) : fltI W (d + 1) k n s a len = firstI (elemI W (fltI W d) a) 0 len := by
  simp only [fltI]; rw [if_pos h]
theorem fltI_neg (W : World) (d : Nat) (k n : Int) (s : ByteArray) (a : Option Addr) (len : Nat) (h : ¬ aloneI k n s len (39 - d) = 0) : fltI W (d + 1) k n s a len = aloneI k n s len (39 - d) := by
  simp only [fltI]; rw [if_neg h]
theorem elemI_eq {W : World} {b q j : Nat} {k n : Int} {s : ByteArray} {a : Option Addr} {len cap : Nat} (g : Int → Int → ByteArray → Option Addr → Nat → Int)
    (c0 : W.cell? ⟨b, q + j * 4, none⟩ = some (.int .i64 k)) (c1 : W.cell? ⟨b, q + j * 4 + 1, none⟩ = some (.int .i64 n)) (c2 : W.cell? ⟨b, q + j * 4 + 2, none⟩ = some (.string s)) (c3 : W.cell? ⟨b, q + j * 4 + 3, none⟩ = some (.slice a len cap)) :
    elemI W g (some ⟨b, q, none⟩) j = g k n s a len := by
  unfold elemI
  simp [c0, c1, c2, c3]
set_option maxHeartbeats 1000000 in
theorem within_any (W : World) (B : Nat) (d : Nat) : ∀ (k n : Int) (s : ByteArray) (a : Option Addr) (len cap : Nat) (o : Int) (w : World), 0 ≤ o → o + d = 40 → Below B W w → B ≤ w.heap.size → Fine W B d s a len →
    Calls Tryd.prog 30 #[.agg #[.int .i64 k, .int .i64 n, .string s, .slice a len cap], .int .i64 o] w fun e w' => e = .returned (.int .i64 (fltI W d k n s a len)) ∧ Below w.heap.size w w' := by
  induction d with
  | zero =>
    intro k n s a len cap o w ho hd hW hB hF
    have hs := hF.size
    obtain rfl : o = 40 := by simpa using hd
    have hal := hid (alone_deep k n s len)
    generalize hE : aloneI k n s len 40 = E at hal
    have hal' : ¬ E = 0 := hal.out
    have HE := hid hE
    clear hE
    go_enter Tryd.func30, Tryd.ntmps30
    go_wp2_with (go_at_call 48; refine (alone_any _ _ _ _ _ _ _ _ hs).mono ?_; rintro e w' ⟨rfl, hb⟩; rw [HE.out])
    go_ret
    exact ⟨ret_int HE.out.symm, ((Below.refl _ _).alloc (Nat.le_refl _) _).trans (hb.mono (by simp))⟩
  | succ d ih =>
    intro k n s a len cap o w ho hd hW hB hF
    have hs := hF.size
    have hl := hF.len
    obtain rfl : o = 39 - (d : Int) := by omega
    by_cases hE : aloneI k n s len (39 - d) = 0
    · go_enter Tryd.func30, Tryd.ntmps30
      go_wp2_with (go_at_call 48; refine (alone_any _ _ _ _ _ _ _ _ hs).mono ?_; rintro e w' ⟨rfl, hb⟩; obtain ⟨hc, hf⟩ := bcell hb)
      clear hc hf
      have HE := hid hE
      clear hE
      go_loopw [18] (fun i wr => ∃ j : Nat, j ≤ len ∧ i = .int .i64 j ∧ firstI (elemI W (fltI W d) a) 0 len = firstI (elemI W (fltI W d) a) j (len - j) ∧ Below (w.heap.size + 1) (w.alloc (.cells #[.int .i64 k, .int .i64 n, .string s, .slice a len cap] 24)) wr) (fun i _ => len - (intOf i).toNat)
      case atStart => exact ⟨0, Nat.zero_le _, rfl, rfl, hb.mono (by simp)⟩
      case round =>
        obtain ⟨j, hj, rfl, hfi, hbr⟩ := hrel
        have HF := hid hfi
        clear hfi
        by_cases hlt : j < len
        · obtain ⟨b, q, k', n', s', a', len', cap', rfl, hbB, c0, c1, c2, c3, hF'⟩ := hF.2.2 j hlt
          have hsz := hbr.size
          simp at hsz
          have hrd : ∀ x, wr.cell? ⟨b, x, none⟩ = W.cell? ⟨b, x, none⟩ := fun x => by
            rw [hbr.cell (p := ⟨b, x, none⟩) (show b < w.heap.size + 1 by omega), (((Below.refl _ _).alloc (Nat.le_refl _) _ : Below w.heap.size w (w.alloc _))).cell (p := ⟨b, x, none⟩) (show b < w.heap.size by omega), hW.cell (p := ⟨b, x, none⟩) hbB]
          have g0 := (hrd _).trans c0
          have g1 := (hrd _).trans c1
          have g2 := (hrd _).trans c2
          have g3 := (hrd _).trans c3
          clear hrd
          have HI := hid (ih k' n' s' a' len' cap')
          have HX := hid (elemI_eq (fltI W d) c0 c1 c2 c3)
          have HS := hid (firstI_step (elemI W (fltI W d) (some ⟨b, q, none⟩)) len j hlt)
          have HT := hid (firstI_stop (elemI W (fltI W d) (some ⟨b, q, none⟩)) len j hlt)
          rw [HX.out] at HS HT
          have HW : Hid (Below B W (wr.alloc (.cells #[.int .i64 k', .int .i64 n', .string s', .slice a' len' cap'] 24))) :=
            (((hW.alloc hB _).trans (hbr.mono (by omega))).alloc (by omega) _)
          clear c0 c1 c2 c3
          generalize fltI W d k' n' s' a' len' = r at HI HX HS HT
          go_wp2_with fail
          have hcall := HI.out (39 - ↑d + 1) _ (by omega) (by omega) HW.out (by simp; omega) hF'
          go_fit hcall
          rintro e w2 ⟨rfl, hb2⟩
          by_cases hr : r = 0
          · have HSS := hid (HS.out hr)
            go_wp2_with fail
            go_roundw
            case rel => exact ⟨j + 1, by omega, by go_num, HF.out.trans HSS.out, ((hbr.alloc hsz _).trans (hb2.mono (by simp; omega)))⟩
            case measure => simp [intOf]; omega
          · have HTT := hid (HT.out hr)
            go_wp2_with fail
            go_ret
            exact ⟨ret_int ((fltI_pos W d k n s _ len HE.out).trans (HF.out.trans HTT.out)).symm, ((Below.refl _ _).alloc (Nat.le_refl _) _).trans (((hbr.alloc hsz _).trans (hb2.mono (by simp; omega))).mono (by omega))⟩
        · have HTT := hid (firstI_end (elemI W (fltI W d) a) len j hlt)
          go_wp2_with fail
          go_ret
          exact ⟨ret_int ((fltI_pos W d k n s _ len HE.out).trans (HF.out.trans HTT.out)).symm, ((Below.refl _ _).alloc (Nat.le_refl _) _).trans (hbr.mono (by omega))⟩
    · go_enter Tryd.func30, Tryd.ntmps30
      go_wp2_with (go_at_call 48; refine (alone_any _ _ _ _ _ _ _ _ hs).mono ?_; rintro e w' ⟨rfl, hb⟩; obtain ⟨hc, hf⟩ := bcell hb)
      go_ret
      exact ⟨ret_int (fltI_neg W d k n s _ len hE).symm, ((Below.refl _ _).alloc (Nat.le_refl _) _).trans (hb.mono (by simp))⟩
end Go.Proofs.YtfhiolnoalghmaaDoor

/- Expr: a tree's text of 250 bytes at most. -/
import Derived.Test.YtdfmimgjdchafaaGreatDoorBExpr
namespace Go.Proofs.YtdfmimgjdchafaaGreatDoor
set_option maxRecDepth 100000
open Go.RowKit
theorem bard_new (w : World) (B : Nat) (ra : Option Addr) (rn rc : Nat) (hB : B ≤ w.heap.size) (hR : Raws w B ra rn) (h1 : rn ≤ rc) (h2 : rc ≤ maxLen) :
    Bard ((w.alloc (.cells #[.string ⟨#[110]⟩] 9)).alloc (.cells #[.slice ra rn rc, .slice (some ⟨w.heap.size, 0, none⟩) 1 1, .int .i64 0] 61)) B (w.heap.size + 1) (.slice (some ⟨w.heap.size, 0, none⟩) 1 1) [⟨#[110]⟩] := by
  have hb1 : Below w.heap.size w (w.alloc (.cells #[.string ⟨#[110]⟩] 9)) := (Below.refl _ _).alloc (Nat.le_refl _) _
  have hz1 : (w.alloc (.cells #[.string ⟨#[110]⟩] 9)).heap.size = w.heap.size + 1 := by simp
  have hb2 := (Below.refl (w.alloc (.cells #[.string ⟨#[110]⟩] 9)).heap.size (w.alloc (.cells #[.string ⟨#[110]⟩] 9))).alloc (Nat.le_refl _) (.cells #[.slice ra rn rc, .slice (some ⟨w.heap.size, 0, none⟩) 1 1, .int .i64 0] 61)
  have hrow : ((w.alloc (.cells #[.string ⟨#[110]⟩] 9)).alloc (.cells #[.slice ra rn rc, .slice (some ⟨w.heap.size, 0, none⟩) 1 1, .int .i64 0] 61)).heap[w.heap.size]? = some (.cells #[.string ⟨#[110]⟩] 9 (0, 0)) := by
    rw [hb2.block w.heap.size (by omega)]
    exact heap_alloc_new w _
  refine ⟨by omega, ⟨ra, rn, rc, .int .i64 0, ?_, h1, h2, (hR.below (hb1.mono hB)).below (hb2.mono (by omega))⟩, ⟨rfl, Or.inr ⟨w.heap.size, 1, #[.string ⟨#[110]⟩], rfl, hB, hrow, Nat.le_refl _, by decide, rfl, rfl⟩⟩, ?_⟩
  · have := heap_alloc_new (w.alloc (.cells #[.string ⟨#[110]⟩] 9)) (.cells #[.slice ra rn rc, .slice (some ⟨w.heap.size, 0, none⟩) 1 1, .int .i64 0] 61)
    rw [hz1] at this
    exact this
  · simp only [Value.ownBlock]
    intro e
    injection e with e
    omega
theorem names_one : NamesOk [⟨#[110]⟩] 997 := ⟨by simp, by simp, fun nm h => by rw [List.mem_singleton.1 h]; exact word_ok (Nat.le_refl 2) (Nat.le_refl 20) [110] (by decide +kernel)⟩
/-- The bard anew, and his expression of depth d. -/
theorem fresh_any (w : World) (B : Nat) (ra : Option Addr) (rn rc : Nat) (n : Nat) (hn : n ≤ 3) (hB : B ≤ w.heap.size) (hR : Raws w B ra rn) (h1 : rn ≤ rc) (h2 : rc ≤ maxLen) (hT : TabB w B) :
    Calls Tryz.prog 17 #[.pointer (some ⟨w.heap.size + 1, 0, none⟩), .int .i64 n] ((w.alloc (.cells #[.string ⟨#[110]⟩] 9)).alloc (.cells #[.slice ra rn rc, .slice (some ⟨w.heap.size, 0, none⟩) 1 1, .int .i64 0] 61)) fun e w' =>
      (∃ v, e = .returned v ∧ InL (Tr 17 (lenN n)) v) ∧ Below B w w' := by
  have hb : Below w.heap.size w ((w.alloc (.cells #[.string ⟨#[110]⟩] 9)).alloc (.cells #[.slice ra rn rc, .slice (some ⟨w.heap.size, 0, none⟩) 1 1, .int .i64 0] 61)) := ((Below.refl _ _).alloc (Nat.le_refl _) _).alloc (by simp) _
  have hl := bard_new w B ra rn rc hB hR h1 h2
  refine (expr_all B (w.heap.size + 1) n hn _ _ _ n (by omega) (Int.le_refl _) (Nat.le_trans hB hb.size) hl (hT.below (hb.mono hB)) ⟨names_one.pos, Nat.le_trans names_one.len (by omega), names_one.ok⟩).mono ?_
  rintro e w' ⟨⟨v, rfl, hv⟩, hs⟩
  exact ⟨⟨v, rfl, hv.tr (by unfold depN; omega) (Nat.le_refl _)⟩, (hb.mono hB).trans (hs.below hl (Nat.le_trans hB hb.size))⟩
def lim (k : Nat) : Nat := if k < 3 then 2000 else 20
set_option maxRecDepth 100000 in
set_option maxHeartbeats 2000000 in
theorem Expr_any (w : World) (B : Nat) (ra : Option Addr) (rn rc : Nat) (hB : B ≤ w.heap.size) (hR : Raws w B ra rn) (h1 : rn ≤ rc) (h2 : rc ≤ maxLen) (hT : TabB w B) :
    Calls Tryz.prog 12 #[.slice ra rn rc] w fun e w' => (∃ v, e = .returned v ∧ InL (Tr 17 250) v) ∧ Below B w w' := by
  have HF := hid (fun (w' : World) (hb : Below B w w') (n : Nat) (hn : n ≤ 3) => fresh_any w' B ra rn rc n hn (Nat.le_trans hB hb.size) (hR.below hb) h1 h2 (hT.below hb))
  have HC := hid (HF.out w (Below.refl _ _) 3 (Nat.le_refl _))
  clear hR hT h1 h2
  go_enter Tryz.func12, Tryz.ntmps12
  go_wp2_with fail
  have hcall := HC.out
  go_fit hcall
  clear hcall HC
  rintro e w2 ⟨⟨v, rfl, hv⟩, hb2⟩
  obtain ⟨s, rfl⟩ := inL_str hv
  go_wp2_with fail
  go_loopw [3, 4, 5] (fun b s i wr => ∃ k : Nat, k ≤ 3 ∧ i = .int .i64 k ∧ (∃ bk, b = .pointer (some ⟨bk, 0, none⟩)) ∧ InL (Tr 17 (lim k)) s ∧ Below B w wr) (fun _ _ i _ => 3 - (intOf i).toNat)
  case atStart => exact ⟨0, by omega, rfl, ⟨_, rfl⟩, hv.tr (Nat.le_refl _) (by decide), hb2⟩
  case round =>
    obtain ⟨k, hk, rfl, ⟨bk, rfl⟩, hs, hbr⟩ := hrel
    obtain ⟨bs, rfl⟩ := inL_str hs
    have hz := (Bnd.tr 17 (lim k)).size hs
    by_cases hlen : 250 < bs.size
    · have hcase : k = 0 ∨ k = 1 ∨ k = 2 := by
        rcases Nat.lt_or_ge k 3 with h | h
        · omega
        · have : lim k = 20 := if_neg (by omega)
          omega
      rcases hcase with rfl | rfl | rfl
      · have HC := hid (HF.out wr hbr 2 (by omega))
        go_wp2_with fail
        have hcall := HC.out
        go_fit hcall
        clear hcall HC
        rintro e w3 ⟨⟨v, rfl, hv3⟩, hb3⟩
        obtain ⟨s3, rfl⟩ := inL_str hv3
        go_wp2_with fail
        go_roundw
        case rel => exact ⟨1, by omega, rfl, ⟨_, rfl⟩, hv3.tr (Nat.le_refl _) (by decide), hbr.trans hb3⟩
        case measure => simp [intOf]
      · have HC := hid (HF.out wr hbr 1 (by omega))
        go_wp2_with fail
        have hcall := HC.out
        go_fit hcall
        clear hcall HC
        rintro e w3 ⟨⟨v, rfl, hv3⟩, hb3⟩
        obtain ⟨s3, rfl⟩ := inL_str hv3
        go_wp2_with fail
        go_roundw
        case rel => exact ⟨2, by omega, rfl, ⟨_, rfl⟩, hv3.tr (Nat.le_refl _) (by decide), hbr.trans hb3⟩
        case measure => simp [intOf]
      · have HC := hid (HF.out wr hbr 0 (by omega))
        go_wp2_with fail
        have hcall := HC.out
        go_fit hcall
        clear hcall HC
        rintro e w3 ⟨⟨v, rfl, hv3⟩, hb3⟩
        obtain ⟨s3, rfl⟩ := inL_str hv3
        go_wp2_with fail
        go_roundw
        case rel => exact ⟨3, by omega, rfl, ⟨_, rfl⟩, hv3.tr (Nat.le_refl _) (by decide), hbr.trans hb3⟩
        case measure => simp [intOf]
    · go_wp2_with fail
      go_ret
      obtain ⟨l, h1, t, h2, h3, h4, h5⟩ := hs
      injection h1 with h1
      subst h1
      exact ⟨⟨_, rfl, l, rfl, t, h2, h3, h4, by
        have : (ByteArray.mk l.toArray).size = l.length := by show l.toArray.size = _; simp
        omega⟩, hbr⟩
end Go.Proofs.YtdfmimgjdchafaaGreatDoor

/- The reader's word. -/
import Derived.Test.YtfhiolnoalghmaaDoorWord
import Derived.Deep.RegionWith
import Derived.BigRegion
import Derived.Deep.CutBlock
import Derived.Deep.DeepCutAuto
namespace Go.Proofs.YtfhiolnoalghmaaDoor
open Go.RowKit
theorem takeWhile_at (l : List UInt8) (f : UInt8 → Bool) (m : Nat) (h1 : ∀ i, i < m → ∃ x, l[i]? = some x ∧ f x = true) (h2 : ∀ x, l[m]? = some x → f x = false) : l.takeWhile f = l.take m ∧ l.dropWhile f = l.drop m := by
  induction m generalizing l with
  | zero =>
    cases l with
    | nil => simp
    | cons x r => have := h2 x (by simp); simp [this]
  | succ m ih =>
    cases l with
    | nil => obtain ⟨x, hx, _⟩ := h1 0 (by omega); simp at hx
    | cons x r =>
      obtain ⟨y, hy, hf⟩ := h1 0 (by omega)
      simp at hy
      subst hy
      have := ih r (fun i hi => by simpa using h1 (i + 1) (by omega)) (fun z hz => h2 z (by simpa using hz))
      simp [hf, this]
theorem word_inl (s : ByteArray) (B : Nat) (hs : s.size ≤ 3000) (x : Int) (h : wordT s.data.toList = .inl x) (w : World) (hG : Globs w B) (hB : B ≤ w.heap.size) :
    Calls Tryd.prog 66 #[.string s] w fun e w' => e = .returned (.tuple #[.agg #[.int .i64 0, .int .i64 0, .string ⟨#[]⟩, .slice none 0 0], .int .i64 x]) ∧ Below w.heap.size w w' := by
  have h1 := word_any s w B hG hB hs
  rw [h] at h1
  exact h1
theorem word_inr (s : ByteArray) (B : Nat) (hs : s.size ≤ 3000) (t : DataW Unit) (h : wordT s.data.toList = .inr t) (w : World) (hG : Globs w B) (hB : B ≤ w.heap.size) :
    Calls Tryd.prog 66 #[.string s] w fun e w' => ∃ k n z, e = .returned (.tuple #[.agg #[.int .i64 k, .int .i64 n, .string z, .slice none 0 0], .int .i64 0]) ∧ Leaf t (.int .i64 k) (.int .i64 n) (.string z) (.slice none 0 0) ∧ Below w.heap.size w w' := by
  have h1 := word_any s w B hG hB hs
  rw [h] at h1
  refine h1.mono ?_
  rintro e w' ⟨⟨u0, u1, u2, u3, rfl, hl⟩, hb⟩
  obtain ⟨k, n, z, rfl, rfl, rfl, rfl⟩ := hl.shape
  exact ⟨k, n, z, rfl, hl, hb⟩
theorem extract_list (s : ByteArray) (p q : Nat) : (s.extract p q).data.toList = (s.data.toList.drop p).take (q - p) := by
  rw [ByteArray.data_extract]; simp
theorem word_cut (s : ByteArray) (p q : Nat) (hpq : p ≤ q) (hall : ∀ j, p ≤ j → j < q → ∃ x, s.data.toList[j]? = some x ∧ inWord x = true) (hend : ∀ x, s.data.toList[q]? = some x → inWord x = false) :
    (s.extract p q).data.toList = (s.data.toList.drop p).takeWhile inWord ∧ (s.data.toList.drop p).dropWhile inWord = s.data.toList.drop q := by
  have h := takeWhile_at (s.data.toList.drop p) inWord (q - p) (fun i hi => by
    obtain ⟨x, h1, h2⟩ := hall (p + i) (by omega) (by omega)
    exact ⟨x, by simpa using h1, h2⟩) (fun x hx => hend x (by rw [List.getElem?_drop] at hx; rw [show p + (q - p) = q from by omega] at hx; exact hx))
  rw [extract_list, h.1, h.2, List.drop_drop, show p + (q - p) = q from by omega]
  exact ⟨rfl, rfl⟩
theorem armA {Q : Prop} {w w1 : World} {v0 v1 v2 v3 z0 z1 z2 z3 : Value} {t t' : TypeId} (h : Below ((w.alloc (.cells #[v0, v1, v2, v3] t)).alloc (.cells #[z0, z1, z2, z3] t')).drew.heap.size ((w.alloc (.cells #[v0, v1, v2, v3] t)).alloc (.cells #[z0, z1, z2, z3] t')).drew w1)
    (k : (Below w.heap.size w w1 ∧ Box w1 w.heap.size v0 v1 v2 v3 ∧ w.heap.size + 2 ≤ w1.heap.size ∧ Box w1 (w.heap.size + 1) z0 z1 z2 z3) → Q) : Q := by
  have hx := Box.new (w.alloc (.cells #[v0, v1, v2, v3] t)) z0 z1 z2 z3 t'
  have e : (w.alloc (.cells #[v0, v1, v2, v3] t)).heap.size = w.heap.size + 1 := by simp
  rw [e] at hx
  have hx' : Box ((w.alloc (.cells #[v0, v1, v2, v3] t)).alloc (.cells #[z0, z1, z2, z3] t')).drew (w.heap.size + 1) z0 z1 z2 z3 := ⟨hx.c0, hx.c1, hx.c2, hx.c3, hx.f0, hx.f1, hx.f2, hx.f3⟩
  have hy := (Box.new w v0 v1 v2 v3 t).below ((Below.refl _ _).alloc (Nat.le_refl _) (.cells #[z0, z1, z2, z3] t')) (by simp)
  have hy' : Box ((w.alloc (.cells #[v0, v1, v2, v3] t)).alloc (.cells #[z0, z1, z2, z3] t')).drew w.heap.size v0 v1 v2 v3 := ⟨hy.c0, hy.c1, hy.c2, hy.c3, hy.f0, hy.f1, hy.f2, hy.f3⟩
  have hz := h.size
  simp at hz
  exact k ⟨((((Below.refl _ _).alloc (Nat.le_refl _) _).alloc (by simp) _).drew).trans (h.mono (by simp; omega)), hy'.below h hy'.lt, hz, hx'.below h hx'.lt⟩
theorem armB {Q : Prop} {w w1 : World} {v0 v1 v2 v3 : Value} {t : TypeId} (h : Below (w.alloc (.cells #[v0, v1, v2, v3] t)).drew.heap.size (w.alloc (.cells #[v0, v1, v2, v3] t)).drew w1)
    (k : (Below w.heap.size w w1 ∧ Box w1 w.heap.size v0 v1 v2 v3 ∧ w.heap.size + 1 ≤ w1.heap.size) → Q) : Q := by
  have hy := Box.new w v0 v1 v2 v3 t
  have hy' : Box (w.alloc (.cells #[v0, v1, v2, v3] t)).drew w.heap.size v0 v1 v2 v3 := ⟨hy.c0, hy.c1, hy.c2, hy.c3, hy.f0, hy.f1, hy.f2, hy.f3⟩
  have hz := h.size
  simp at hz
  exact k ⟨(((Below.refl _ _).alloc (Nat.le_refl _) _).drew).trans (h.mono (by simp)), hy'.below h hy'.lt, hz⟩
theorem Box.set4 {w : World} {g : Nat} {v0 v1 v2 v3 : Value} (h : Box w g v0 v1 v2 v3) (x0 x1 x2 x3 : Value) :
    Box ((((w.setCell ⟨g, 0, none⟩ x0).setCell ⟨g, 1, none⟩ x1).setCell ⟨g, 2, none⟩ x2).setCell ⟨g, 3, none⟩ x3) g x0 x1 x2 x3 := by
  obtain ⟨c0, c1, c2, c3, f0, f1, f2, f3⟩ := h
  constructor <;> go_simp
/-- Behind a call that answers a datum: a new variable holds it. -/
def Cut5 (w wx : World) (a v0 v1 v2 v3 : Value) : Prop := ∃ g, a = .pointer (some ⟨g, 0, none⟩) ∧ w.heap.size < g ∧ Below w.heap.size w wx ∧ Box wx w.heap.size (.int .i64 0) (.int .i64 0) (.string ⟨#[]⟩) (.slice none 0 0) ∧ Box wx g v0 v1 v2 v3
theorem cutB {w w1 : World} (hb : Below w.heap.size w w1) (hx : Box w1 w.heap.size (.int .i64 0) (.int .i64 0) (.string ⟨#[]⟩) (.slice none 0 0)) (hz : w.heap.size + 1 ≤ w1.heap.size) (v0 v1 v2 v3 : Value) (t : TypeId) :
    Cut5 w (w1.alloc (.cells #[v0, v1, v2, v3] t)) (.pointer (some ⟨w1.heap.size, 0, none⟩)) v0 v1 v2 v3 :=
  ⟨w1.heap.size, rfl, by omega, hb.alloc (by omega) _, hx.below ((Below.refl _ _).alloc (Nat.le_refl _) _) hx.lt, Box.new w1 v0 v1 v2 v3 t⟩
theorem cutA {w w1 : World} (hb : Below w.heap.size w w1) (hx : Box w1 w.heap.size (.int .i64 0) (.int .i64 0) (.string ⟨#[]⟩) (.slice none 0 0)) {z0 z1 z2 z3 : Value} (hy : Box w1 (w.heap.size + 1) z0 z1 z2 z3) (v0 v1 v2 v3 : Value) :
    Cut5 w ((((w1.setCell ⟨w.heap.size + 1, 0, none⟩ v0).setCell ⟨w.heap.size + 1, 1, none⟩ v1).setCell ⟨w.heap.size + 1, 2, none⟩ v2).setCell ⟨w.heap.size + 1, 3, none⟩ v3) (.pointer (some ⟨w.heap.size + 1, 0, none⟩)) v0 v1 v2 v3 :=
  ⟨w.heap.size + 1, rfl, by omega, below_set4 hb (by omega) _ _ _ _, hx.of_block (heap_set4 w1 (by omega) _ _ _ _), hy.set4 _ _ _ _⟩
theorem pWord_inl {r : List UInt8} {c : Nat} {x : Int} (h : wordT (r.takeWhile inWord) = .inl x) : pWord r c = .inl (x, r) := by unfold pWord; rw [h]
theorem pWord_inr {r : List UInt8} {c : Nat} {t : DataW Unit} (h : wordT (r.takeWhile inWord) = .inr t) : pWord r c = .inr (t, r.dropWhile inWord, c) := by unfold pWord; rw [h]
set_option maxHeartbeats 2000000 in
theorem rword_any (d : Nat) (rb : Nat) (s : ByteArray) (p c : Nat) (w : World) (B : Nat) (hG : Globs w B) (hB : B ≤ rb) (hR : R w rb s p c) (hp : p ≤ s.size) (hs : s.size ≤ 3000) :
    Calls Tryd.prog 57 #[.pointer (some ⟨rb, 0, none⟩)] w fun e w' => Out w w' rb s d (pWord (s.data.toList.drop p) c) e ∧ Past rb w w' := by
  have hrb := hR.lt
  have HR := hid (hR.alloc (.cells #[.int .i64 0, .int .i64 0, .string ⟨#[]⟩, .slice none 0 0] 24))
  obtain ⟨c0, c1, c2, f1, f2⟩ := HR.out
  go_enter Tryd.func57, Tryd.ntmps57
  go_upto_block 0 with fail
  go_cut [4] (fun i wx => ∃ q : Nat, p ≤ q ∧ q ≤ s.size ∧ i = .int .i64 q ∧ (s.extract p q).data.toList = (s.data.toList.drop p).takeWhile inWord ∧ (s.data.toList.drop p).dropWhile inWord = s.data.toList.drop q ∧ wx = w.alloc (.cells #[.int .i64 0, .int .i64 0, .string ⟨#[]⟩, .slice none 0 0] 24))
  case first =>
    go_wp2_with fail
    go_loop [4] (fun i => ∃ q : Nat, p ≤ q ∧ q ≤ s.size ∧ i = .int .i64 q ∧ ∀ j, p ≤ j → j < q → ∃ x, s.data.toList[j]? = some x ∧ inWord x = true) (fun i => s.size - (intOf i).toNat)
    case atStart => exact ⟨p, Nat.le_refl _, hp, rfl, fun j h1 h2 => by omega⟩
    case round =>
      obtain ⟨q, hpq, hqs, rfl, hall⟩ := hrel
      have HA := hid hall
      clear hall
      by_cases hlt : q < s.size
      · have hqi : (q : Int) < s.size := by omega
        have h255 : ((s[q].toNat : Nat) : Int) ≤ 255 := by have := s[q].toNat_lt; omega
        cases he : endsI s[q].toNat
        · have HE := hid he
          go_wp2_with (go_at_call 65; refine (endsWord_any _ _ (by omega) (by omega)).mono ?_; rintro e w' ⟨rfl, hw⟩; obtain rfl := hw.symm)
          go_round
          case rel =>
            refine ⟨q + 1, by omega, by omega, by go_num, fun j h1 h2 => ?_⟩
            by_cases hj : j < q
            · exact HA.out j h1 hj
            · obtain rfl : j = q := by omega
              exact ⟨s[j], by rw [List.getElem?_eq_getElem (by simpa using hlt)]; rfl, by unfold inWord; rw [HE.out]; rfl⟩
          case measure => simp [intOf]; omega
        · have hend : ∀ x, s.data.toList[q]? = some x → inWord x = false := fun x hx => by
            rw [List.getElem?_eq_getElem (by simpa using hlt)] at hx
            injection hx with hx
            subst hx
            unfold inWord
            have : endsI (s.data.toList[q]'(by simpa using hlt)).toNat = true := he
            rw [this]; rfl
          have HW := hid (word_cut s p q hpq HA.out hend)
          clear hend
          go_wp2_with (go_at_call 65; refine (endsWord_any _ _ (by omega) (by omega)).mono ?_; rintro e w' ⟨rfl, hw⟩; obtain rfl := hw.symm)
          go_meet
          case rel => exact ⟨q, hpq, hqs, rfl, HW.out.1, HW.out.2, rfl⟩
      · have HW := hid (word_cut s p q hpq HA.out (fun x hx => by rw [List.getElem?_eq_none (by simp; omega)] at hx; cases hx))
        go_wp2_with fail
        go_meet
        case rel => exact ⟨q, hpq, hqs, rfl, HW.out.1, HW.out.2, rfl⟩
  case rest =>
    obtain ⟨q, hpq, hqs, rfl, hw1, hw2, rfl⟩ := hcut
    have hsz : (s.extract p q).size ≤ 3000 := by simp; omega
    have HW1 := hid hw1
    have HW2 := hid hw2
    clear hw1 hw2
    have hpi : (p : Int) ≤ q := by omega
    have hqi2 : (q : Int) ≤ s.size := by omega
    cases hT : wordT (s.extract p q).data.toList with
    | inl x =>
      have HT := hid hT
      have hx0 := wordT_err hT
      have HC := hid (word_inl (s.extract p q) B hsz x hT)
      clear hT
      go_upto_region 4 with fail
      go_cut [5, 6] (fun a b wx => b = .int .i64 x ∧ Cut5 w wx a (.int .i64 0) (.int .i64 0) (.string ⟨#[]⟩) (.slice none 0 0))
      case first =>
        go_region_with (go_at_call 66; refine (HC.out _ (by refine hG.below ?_; repeat (first | exact Below.refl _ _ | refine Below.drew ?_ | refine Below.alloc ?_ (by first | omega | (simp; omega)) _)) (by simp; omega)).mono ?_; rintro e w1 ⟨rfl, hb1⟩; first | (refine armA hb1 ?_; rintro ⟨hbw, ⟨x0, x1, x2, x3, y0, y1, y2, y3⟩, hz, ⟨z0, z1, z2, z3, k0, k1, k2, k3⟩⟩) | (refine armB hb1 ?_; rintro ⟨hbw, ⟨x0, x1, x2, x3, y0, y1, y2, y3⟩, hz⟩))
        all_goals go_wp2_with fail
        all_goals go_meet
        all_goals first | exact ⟨rfl, cutB hbw ⟨x0, x1, x2, x3, y0, y1, y2, y3⟩ hz _ _ _ _ _⟩ | exact ⟨rfl, cutA hbw ⟨x0, x1, x2, x3, y0, y1, y2, y3⟩ ⟨z0, z1, z2, z3, k0, k1, k2, k3⟩ _ _ _ _⟩
      case rest =>
        obtain ⟨rfl, g, rfl, hg, hbw, ⟨x0, x1, x2, x3, y0, y1, y2, y3⟩, ⟨z0, z1, z2, z3, k0, k1, k2, k3⟩⟩ := hcut
        go_wp2_with fail
        refine bodyPost_ret (v := .tuple #[.agg #[.int .i64 0, .int .i64 0, .string ⟨#[]⟩, .slice none 0 0], .int .i64 x]) (by simp [results, Tryd.results57, go_sem, x0, x1, x2, x3]) rfl ?_
        refine ⟨?_, past_set4 (Past.of_below hbw) (Nat.le_refl _) _ _ _ _⟩
        rw [pWord_inl (HW1.out ▸ HT.out)]
        refine ⟨rfl, c, ?_⟩
        rw [show s.size - (s.data.toList.drop p).length = p from by simp; omega]
        exact (hR.below hbw).set4 (by omega) _ _ _ _
    | inr t =>
      have HT := hid hT
      have HC := hid (word_inr (s.extract p q) B hsz t hT)
      clear hT
      go_upto_region 4 with fail
      go_cut [5, 6] (fun a b wx => b = .int .i64 0 ∧ ∃ k n z, Leaf t (.int .i64 k) (.int .i64 n) (.string z) (.slice none 0 0) ∧ Cut5 w wx a (.int .i64 k) (.int .i64 n) (.string z) (.slice none 0 0))
      case first =>
        go_region_with (go_at_call 66; refine (HC.out _ (by refine hG.below ?_; repeat (first | exact Below.refl _ _ | refine Below.drew ?_ | refine Below.alloc ?_ (by first | omega | (simp; omega)) _)) (by simp; omega)).mono ?_; rintro e w1 ⟨k, n, z, rfl, hl, hb1⟩; first | (refine armA hb1 ?_; rintro ⟨hbw, ⟨x0, x1, x2, x3, y0, y1, y2, y3⟩, hz, ⟨z0, z1, z2, z3, k0, k1, k2, k3⟩⟩) | (refine armB hb1 ?_; rintro ⟨hbw, ⟨x0, x1, x2, x3, y0, y1, y2, y3⟩, hz⟩))
        all_goals go_wp2_with fail
        all_goals go_meet
        all_goals first | exact ⟨rfl, k, n, z, hl, cutB hbw ⟨x0, x1, x2, x3, y0, y1, y2, y3⟩ hz _ _ _ _ _⟩ | exact ⟨rfl, k, n, z, hl, cutA hbw ⟨x0, x1, x2, x3, y0, y1, y2, y3⟩ ⟨z0, z1, z2, z3, k0, k1, k2, k3⟩ _ _ _ _⟩
      case rest =>
        obtain ⟨rfl, k, n, z, hl, g, rfl, hg, hbw, hx, ⟨z0, z1, z2, z3, k0, k1, k2, k3⟩⟩ := hcut
        have HX := hid hx
        obtain ⟨x0, x1, x2, x3, y0, y1, y2, y3⟩ := hx
        have HR2 := hid (hR.below hbw)
        obtain ⟨d0, d1, d2, e1, e2⟩ := HR2.out
        go_wp2_with fail
        refine bodyPost_ret (v := .tuple #[.agg #[.int .i64 k, .int .i64 n, .string z, .slice none 0 0], .int .i64 0]) (by simp [results, Tryd.results57, go_sem, x0, x1, x2, x3]) rfl ?_
        refine ⟨?_, past_set4 (Past.setCell (p := ⟨rb, 1, none⟩) (Past.of_below hbw) (Or.inl rfl) _) (Nat.le_refl _) _ _ _ _⟩
        rw [pWord_inr (HW1.out ▸ HT.out)]
        refine ⟨_, _, _, _, rfl, ?_, Dat.leaf hl d⟩
        rw [HW2.out, show s.size - (s.data.toList.drop q).length = q from by simp; omega]
        exact (HR2.out.setPlace q _ rfl).set4 (by omega) _ _ _ _
end Go.Proofs.YtfhiolnoalghmaaDoor

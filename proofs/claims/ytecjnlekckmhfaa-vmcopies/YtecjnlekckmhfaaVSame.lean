/- The statements' looks at two rows that are the same: sameTexts, sameShapes, sameWords, sameHeap. -/
import Derived.Test.YtecjnlekckmhfaaVPlain
import Derived.Deep.RegionHeld3
namespace Go.Proofs.Ytecjnlekckmhfaa
open Go.RowKit
theorem cell1 {α : Type} {c : α → List Value} {k : Nat} (hk : ∀ x, (c x).length = k) {w : World} {S : Nat → Prop} {a : Option Addr} {l : List α} (h : Cs w S a (flatC c l)) {i : Nat} (hi : i < l.length) (h0 : 0 < k) :
    ∃ b o, a = some ⟨b, o, none⟩ ∧ S b ∧ ∀ j u, (c l[i])[j]? = some u → w.cell? ⟨b, o + (i * k + j), none⟩ = some u := by
  obtain ⟨u, hu⟩ : ∃ u, (c l[i])[0]? = some u := ⟨(c l[i])[0]'(by rw [hk]; exact h0), List.getElem?_eq_getElem _⟩
  have e := flatC_at hk l i hi 0 h0
  obtain ⟨b, o, rfl, hs, _⟩ := h (i * k + 0) u (e.trans hu)
  refine ⟨b, o, rfl, hs, fun j u hj => ?_⟩
  have hj2 : j < k := by rw [← hk l[i]]; exact (List.getElem?_eq_some_iff.1 hj).1
  exact (h.at ((flatC_at hk l i hi j hj2).trans hj)).1
theorem Cs.drewN {w : World} {S : Nat → Prop} {a : Option Addr} {cs : List Value} (h : Cs w S a cs) (m : Nat) : Cs (w.drewN m) S a cs := h.keep (fun _ _ => rfl) (fun _ h => h)
set_option maxHeartbeats 1000000 in
theorem sameTexts_any (w : World) (S S' : Nat → Prop) (a b : Option Addr) (ss : List ByteArray) (n c c' : Nat) (hn : n = ss.length) (hm : n ≤ 9223372036854775807) (hA : Cs w S a (flatC strC ss)) (hB : Cs w S' b (flatC strC ss)) :
    Calls Try.prog 21 #[.slice a n c, .slice b n c'] w fun e w' => e = .returned (.bool true) ∧ ∃ m, w' = w.drewN m := by
  have HN := hid hn
  clear hn
  go_enter Try.func21, Try.ntmps21
  go_wp2
  go_loopw [5] (fun i wr => ∃ k : Nat, k ≤ n ∧ i = .int .i64 k ∧ ∃ m, wr = w.drewN m) (fun i _ => n - (intOf i).toNat)
  case atStart => exact ⟨0, Nat.zero_le _, rfl, 0, rfl⟩
  case round =>
    obtain ⟨k, hk, rfl, m, rfl⟩ := hrel
    by_cases hlt : k < n
    · have hk2 : k < ss.length := by rw [← HN.out]; exact hlt
      have hlt2 : (k : Int) < n := by omega
      obtain ⟨b1, o1, rfl, _, h1⟩ := cell1 strC_len hA hk2 (by omega)
      obtain ⟨b2, o2, rfl, _, h2⟩ := cell1 strC_len hB hk2 (by omega)
      replace h1 := h1 0 _ rfl
      replace h2 := h2 0 _ rfl
      simp only [Nat.mul_one, Nat.add_zero] at h1 h2
      generalize ss[k]'hk2 = y at h1 h2
      clear hA hB
      go_wp2_with fail
      go_quiet (fail)
      go_wp2
      go_roundw
      case rel => exact ⟨k + 1, by omega, by go_num, _, rfl⟩
      case measure => simp [intOf]; omega
    · go_wp2
      go_ret
      exact ⟨rfl, _, rfl⟩
set_option maxHeartbeats 2000000 in
theorem sameShapes_any (w : World) (S S' : Nat → Prop) (a b : Option Addr) (l l' : List Sh) (n c c' : Nat) (hn : n = l.length) (hp : l.map datS = l'.map datS) (hm : n ≤ 9223372036854775807) (hbig : ∀ s, s ∈ l → bigS s)
    (hA : Cs w S a (flatC shC l)) (hA2 : ∀ s, s ∈ l → subS w S s) (hB : Cs w S' b (flatC shC l')) (hB2 : ∀ s, s ∈ l' → subS w S' s) :
    Calls Try.prog 20 #[.slice a n c, .slice b n c'] w fun e w' => e = .returned (.bool true) ∧ ∃ m, w' = w.drewN m := by
  have HN := hid hn
  have hn' := hn.trans (map_len hp)
  have HN' := hid hn'
  clear hn hn'
  go_enter Try.func20, Try.ntmps20
  go_wp2
  go_loopw [5] (fun i wr => ∃ k : Nat, k ≤ n ∧ i = .int .i64 k ∧ ∃ m, wr = w.drewN m) (fun i _ => n - (intOf i).toNat)
  case atStart => exact ⟨0, Nat.zero_le _, rfl, 0, rfl⟩
  case round =>
    obtain ⟨k, hk, rfl, m, hwr⟩ := hrel
    have HW := hid hwr
    have hA' : Cs wr S a (flatC shC l) := by rw [hwr]; exact hA.drewN m
    have hB' : Cs wr S' b (flatC shC l') := by rw [hwr]; exact hB.drewN m
    by_cases hlt : k < n
    · have hk2 : k < l.length := by rw [← HN.out]; exact hlt
      have hk3 : k < l'.length := by rw [← HN'.out]; exact hlt
      have hlt2 : (k : Int) < n := by omega
      have hs1 : subS wr S l[k] := by rw [hwr]; exact Cs.drewN (hA2 _ (List.getElem_mem hk2)) m
      have hs2 : subS wr S' l'[k] := by rw [hwr]; exact Cs.drewN (hB2 _ (List.getElem_mem hk3)) m
      have hbg := hbig _ (List.getElem_mem hk2)
      have e := map_get hp k hk2 hk3
      unfold datS at e
      injection e with en ef
      obtain ⟨b1, o1, rfl, _, h1⟩ := cell1 shC_len hA' hk2 (by omega)
      obtain ⟨b2, o2, rfl, _, h2⟩ := cell1 shC_len hB' hk3 (by omega)
      have h10 := h1 0 _ rfl
      have h11 := h1 1 _ rfl
      have h20 := h2 0 _ rfl
      have h21 := h2 1 _ rfl
      unfold subS at hs1 hs2
      unfold bigS at hbg
      rw [← en] at h20
      rw [← ef] at h21 hs2
      simp only [Nat.add_zero] at h10 h20
      generalize l[k].name = y at h10 h20
      generalize l[k].fs = f at h11 h21 hs1 hs2 hbg
      generalize l[k].adr = a1 at h11 hs1
      generalize l'[k].adr = a2 at h21 hs2
      generalize l[k].cap = c1 at h11
      generalize l'[k].cap = c2 at h21
      have HC := hid (fun (d : Nat) => sameTexts_any (wr.drewN d) S S' a1 a2 f f.length c1 c2 rfl (by omega) (hs1.drewN d) (hs2.drewN d))
      generalize f.length = fl at h11 h21 HC
      clear hs1 hs2 hA' hB' hwr h1 h2 hbg hA2 hB2 hbig
      rw [← Nat.add_assoc] at h11 h21
      go_wp2_with fail
      go_quiet (first | (go_at_call 21; exact Calls.quiet_of (HC.out _)))
      go_wp2
      go_roundw
      case rel => exact ⟨k + 1, by omega, by go_num, _, by rw [HW.out, World.drewN_drewN]⟩
      case measure => simp [intOf]; omega
    · clear hA' hB' hwr
      go_wp2
      go_ret
      exact ⟨rfl, m, HW.out⟩
set_option maxHeartbeats 2000000 in
theorem sameWords_any (w : World) (S S' : Nat → Prop) (a b : Option Addr) (l : List Wd) (n c c' : Nat) (hn : n = l.length) (hm : n ≤ 9223372036854775807) (hA : Cs w S a (flatC wdC l)) (hB : Cs w S' b (flatC wdC l)) :
    Calls Try.prog 19 #[.slice a n c, .slice b n c'] w fun e w' => e = .returned (.bool true) ∧ ∃ m, w' = w.drewN m := by
  have HN := hid hn
  clear hn
  go_enter Try.func19, Try.ntmps19
  go_wp2
  go_loopw [5] (fun i wr => ∃ k : Nat, k ≤ n ∧ i = .int .i64 k ∧ ∃ m, wr = w.drewN m) (fun i _ => n - (intOf i).toNat)
  case atStart => exact ⟨0, Nat.zero_le _, rfl, 0, rfl⟩
  case round =>
    obtain ⟨k, hk, rfl, m, rfl⟩ := hrel
    by_cases hlt : k < n
    · have hk2 : k < l.length := by rw [← HN.out]; exact hlt
      have hlt2 : (k : Int) < n := by omega
      obtain ⟨b1, o1, rfl, _, h1⟩ := cell1 wdC_len hA hk2 (by omega)
      obtain ⟨b2, o2, rfl, _, h2⟩ := cell1 wdC_len hB hk2 (by omega)
      have c0 := h1 0 _ rfl
      have c1 := h1 1 _ rfl
      have c2 := h1 2 _ rfl
      have d0 := h2 0 _ rfl
      have d1 := h2 1 _ rfl
      have d2 := h2 2 _ rfl
      simp only [Nat.add_zero] at c0 d0
      rw [← Nat.add_assoc] at c1 c2 d1 d2
      generalize (l[k]'hk2).k = kk at c0 d0
      generalize (l[k]'hk2).n = nn at c1 d1
      generalize (l[k]'hk2).s = ss at c2 d2
      clear hA hB h1 h2
      go_wp2_with fail
      go_quiet (fail)
      go_wp2
      go_roundw
      case rel => exact ⟨k + 1, by omega, by go_num, _, rfl⟩
      case measure => simp [intOf]; omega
    · go_wp2
      go_ret
      exact ⟨rfl, _, rfl⟩
end Go.Proofs.Ytecjnlekckmhfaa

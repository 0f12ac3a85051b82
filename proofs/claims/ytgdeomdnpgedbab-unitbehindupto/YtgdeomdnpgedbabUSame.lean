/- Rows of the same texts, of the same records, are told the same; texts that the document copies. -/
import Derived.Test.YtgdeomdnpgedbabUBehind
import Derived.Maps.AppendAt
import Derived.Deep.Draws
namespace Go.Proofs.Ytgdeomdnpgedbab
open Go.RowKit Go.WideMaps Go.Maps
set_option maxHeartbeats 1000000 in
theorem sameTexts_any (w : World) (B B' : Nat) (a b : Option Addr) (ss : List ByteArray) (n c c' : Nat) (hn : n = ss.length) (hm : n ≤ 9223372036854775807) (hA : Strs w B a ss) (hB : Strs w B' b ss) :
    Calls Try.prog 22 #[.slice a n c, .slice b n c'] w fun e w' => e = .returned (.bool true) ∧ ∃ m, w' = w.drewN m := by
  have HN := hid hn
  clear hn
  go_enter Try.func22, Try.ntmps22
  go_wp2
  go_loopw [5] (fun i wr => ∃ k : Nat, k ≤ n ∧ i = .int .i64 k ∧ ∃ m, wr = w.drewN m) (fun i _ => n - (intOf i).toNat)
  case atStart => exact ⟨0, Nat.zero_le _, rfl, 0, rfl⟩
  case round =>
    obtain ⟨k, hk, rfl, m, rfl⟩ := hrel
    by_cases hlt : k < n
    · have hk2 : k < ss.length := by rw [← HN.out]; exact hlt
      have hlt2 : (k : Int) < n := by omega
      obtain ⟨_, b1, o1, rfl, _, h1⟩ := hA k hk2
      obtain ⟨_, b2, o2, rfl, _, h2⟩ := hB k hk2
      generalize ss[k]'hk2 = y at h1 h2
      go_wp2_with fail
      go_quiet (fail)
      go_wp2
      go_roundw
      case rel => exact ⟨k + 1, by omega, by go_num, _, rfl⟩
      case measure => simp [intOf]; omega
    · go_wp2
      go_ret
      exact ⟨rfl, _, rfl⟩
theorem info_string : (Try.prog.info? 9).map (fun i => (i.zero, i.size, i.bytes)) = some (some (.string ⟨#[]⟩), 1, 16) := by kernel_rfl
set_option maxHeartbeats 1000000 in
theorem texts_any (B : Nat) (a : Option Addr) (ss : List ByteArray) (n cap g : Nat) (w : World) (hS : Strs w B a ss) (hB : B ≤ w.heap.size) (hn : n = ss.length) (hb : n * 16 ≤ 140737488355328) (hg : g < w.heap.size) (hc : w.cell? ⟨g, 0, none⟩ = some (.slice a n cap)) :
    Calls Try.prog 21 #[.slice (some ⟨g, 0, none⟩) 1 1] w fun e w' => ∃ a' cap', e = .returned (.slice a' n cap') ∧ n ≤ cap' ∧ n ≤ maxLen ∧ StrsS w' (fun b => w.heap.size ≤ b ∧ b < w'.heap.size) a' ss ∧ Below w.heap.size w w' := by
  have HN := hid hn
  clear hn
  go_enter Try.func21, Try.ntmps21
  go_wp2
  obtain ⟨i0, hi, hz0, hz1, hz2⟩ := info_parts info_string
  have HI := hid hi
  have HZ0 := hid hz0
  have HZ1 := hid hz1
  have HZ2 := hid hz2
  clear hi hz0 hz1 hz2
  have hsz := hS.sizes
  go_loopw [3, 4] (fun o i wr => (i = .int .i64 0 ∧ o = .slice none 0 0 ∧ w = wr) ∨ (i = .int .i64 1 ∧ wr.ownsRow w.heap.size 9 1 o n (ss.map Value.string) ∧ Below w.heap.size w wr)) (fun _ i _ => 1 - (intOf i).toNat)
  case atStart => exact Or.inl ⟨rfl, rfl, rfl⟩
  case round =>
    rcases hrel with ⟨rfl, rfl, rfl⟩ | ⟨rfl, hrow, hbr⟩
    · go_wp2
      go_loopw [3, 5] (fun o i wr => ∃ k : Nat, k ≤ n ∧ i = .int .i64 k ∧ wr.ownsRow w.heap.size 9 1 o k ((ss.take k).map Value.string) ∧ Below w.heap.size w wr) (fun _ i _ => n - (intOf i).toNat)
      case atStart => exact ⟨0, Nat.zero_le _, rfl, ⟨rfl, Or.inl ⟨rfl, rfl⟩⟩, Below.refl _ _⟩
      case round =>
        obtain ⟨k, hk, rfl, hrow, hbr⟩ := hrel
        have hz := hbr.size
        have hcg := (hbr.cell (p := ⟨g, 0, none⟩) hg).trans hc
        by_cases hlt : k < n
        · have hk2 : k < ss.length := by rw [← HN.out]; exact hlt
          obtain ⟨hys, b, o, rfl, hbB, hcs⟩ := (hS.below (hbr.mono hB)) k hk2
          have HT : Hid ((ss.take (k + 1)).map Value.string = (ss.take k).map Value.string ++ [.string ss[k]]) := hid (by rw [List.take_succ_eq_append_getElem hk2, List.map_append]; rfl)
          generalize ss[k]'hk2 = y at hcs HT
          have hrow2 := hid (ownsRow_keep (w' := wr.alloc (.cells #[.string y] 9)) hrow (fun b hb => ((Below.refl wr.heap.size wr).alloc (Nat.le_refl _) _).block b (ownsRow_lt hrow hb).2))
          have hgl : g < wr.heap.size := by omega
          have hbl : b < wr.heap.size := by omega
          go_wp2_with (at_builtin; refine wpList_append_lies _ rfl _ _ 22 rfl w.heap.size 9 i0 (.string ⟨#[]⟩) 1 16 Try.underlying22 HI.out HZ0.out HZ1.out HZ2.out rfl (by decide) _ k _ rfl hrow2.out ⟨wr.heap.size, 0, none⟩ 1 1 [.string y] rfl rfl (cell_one_new _ _ _) (by simp [Value.oneCell']) (by decide) (by unfold maxLen; omega) (by omega) (by simp; omega) _ rfl ?_; intro g3 cap3 w3 hown3 hgrow3 hat3 hlt3)
          go_wp2_with fail
          go_roundw
          case rel => exact ⟨k + 1, by omega, by go_num, by rw [HT.out]; exact hown3, (hbr.alloc hz _).grown hgrow3 (by simp; omega) (fun j hj => (ownsRow_lt hrow hj).1)⟩
          case measure => simp [intOf]; omega
        · obtain rfl : k = n := by omega
          have HT : Hid (ss.take k = ss) := hid (List.take_of_length_le (by rw [← HN.out]; exact Nat.le_refl _))
          rw [HT.out] at hrow
          go_wp2_with fail
          go_roundw
          case rel => exact Or.inr ⟨by go_num, hrow, hbr⟩
          case measure => simp [intOf]
    · obtain ⟨a', cap', rfl, h1, h2, h3, h4⟩ := strs_row hrow hsz
      go_wp2
      go_ret
      exact ⟨a', cap', rfl, h2, h3, h4, hbr⟩
set_option maxHeartbeats 1000000 in
theorem sameShapes_any (w : World) (B B' : Nat) (a b : Option Addr) (l l' : List Sh) (n c c' : Nat) (hn : n = l.length) (hn' : n = l'.length) (hm : n ≤ 9223372036854775807) (hp : l.map pairOf = l'.map pairOf) (hA : Shs w B a l) (hB : Shs w B' b l') :
    Calls Try.prog 12 #[.slice a n c, .slice b n c'] w fun e w' => e = .returned (.bool true) ∧ ∃ m, w' = w.drewN m := by
  have HN := hid hn
  have HN' := hid hn'
  clear hn hn'
  go_enter Try.func12, Try.ntmps12
  go_wp2
  go_loopw [5] (fun i wr => ∃ k : Nat, k ≤ n ∧ i = .int .i64 k ∧ ∃ m, wr = w.drewN m) (fun i _ => n - (intOf i).toNat)
  case atStart => exact ⟨0, Nat.zero_le _, rfl, 0, rfl⟩
  case round =>
    obtain ⟨k, hk, rfl, m, hwr⟩ := hrel
    have HW := hid hwr
    have hA' : Shs wr B a l := by rw [hwr]; exact hA.below (bdrew (Below.refl _ _) m)
    have hB' : Shs wr B' b l' := by rw [hwr]; exact hB.below (bdrew (Below.refl _ _) m)
    clear hwr
    by_cases hlt : k < n
    · have hk2 : k < l.length := by rw [← HN.out]; exact hlt
      have hk3 : k < l'.length := by rw [← HN'.out]; exact hlt
      have hlt2 : (k : Int) < n := by omega
      obtain ⟨b1, o1, rfl, _, h10, h11, _, h13, h14, h15⟩ := hA' k hk2
      obtain ⟨b2, o2, rfl, _, h20, h21, _, h23, h24, h25⟩ := hB' k hk3
      have e : pairOf l[k] = pairOf l'[k] := by
        have e1 : (l.map pairOf)[k]'(by simpa using hk2) = (l'.map pairOf)[k]'(by simpa using hk3) := by simp only [hp]
        simpa using e1
      unfold pairOf at e
      injection e with en ef
      rw [← en] at h20
      rw [← ef] at h21 h25
      generalize l[k].name = y at h10 h20
      generalize l[k].fs = f at h11 h21 h14 h15 h25
      generalize l[k].adr = a1 at h11 h15
      generalize l'[k].adr = a2 at h21 h25
      generalize l[k].cap = c1 at h11
      generalize l'[k].cap = c2 at h21
      have HC := hid (fun (w' : World) (x : Below B wr w') (x' : Below B' wr w') => sameTexts_any w' B B' a1 a2 f f.length c1 c2 rfl (by unfold maxLen at h14; omega) (h15.below x) (h25.below x'))
      generalize f.length = fl at h11 h21 HC
      clear h14 h15 h25
      go_wp2_with fail
      go_quiet (first | (go_at_call 22; exact Calls.quiet_of (HC.out _ (by first | exact bdrew (Below.refl _ _) _ | exact bdrew (bdrew (Below.refl _ _) _) _) (by first | exact bdrew (Below.refl _ _) _ | exact bdrew (bdrew (Below.refl _ _) _) _))))
      go_wp2
      go_roundw
      case rel => exact ⟨k + 1, by omega, by go_num, _, by rw [HW.out, World.drewN_drewN]⟩
      case measure => simp [intOf]; omega
    · go_wp2
      go_ret
      exact ⟨rfl, m, HW.out⟩
end Go.Proofs.Ytgdeomdnpgedbab

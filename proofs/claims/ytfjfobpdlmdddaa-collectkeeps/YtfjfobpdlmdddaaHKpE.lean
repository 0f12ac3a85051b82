/- Words that are the same: slices.Equal. -/
import Derived.Test.YtfjfobpdlmdddaaHFor
import Derived.BigQuiet
namespace Go.Proofs.Ytfjfobpdlmdddaa
set_option maxRecDepth 100000
open Go.RowKit Go.Maps
set_option maxHeartbeats 2000000 in
theorem Equal_true (w : World) (B : Nat) (a1 a2 : Option Addr) (len cap1 cap2 : Nat) (l : List Wd) (h1 : Wds w B a1 l) (h2 : Wds w B a2 l) (hB : B ≤ w.heap.size) (hlen : len = l.length) (hl : len ≤ 9223372036854775807) :
    Calls Try.prog 23 #[.slice a1 len cap1, .slice a2 len cap2] w fun e w' => e = .returned (.bool true) ∧ Below w.heap.size w w' := by
  have HL := hid hlen
  clear hlen
  go_enter Try.func23, Try.ntmps23
  go_wp2_with fail
  go_loopw [13] (fun i wr => ∃ k : Nat, k ≤ len ∧ i = .int .i64 k ∧ Below w.heap.size w wr) (fun i _ => len - (intOf i).toNat)
  case atStart => exact ⟨0, Nat.zero_le _, rfl, Below.refl _ _⟩
  case round =>
    obtain ⟨k, hk, rfl, hbr⟩ := hrel
    have HB := hid hbr
    by_cases hlt : k < len
    · have hlt2 : (k : Int) < len := by omega
      have hk2 : k < l.length := by rw [← HL.out]; exact hlt
      obtain ⟨b1, o1, rfl, hb1, c0, c1, c2⟩ := h1.below (hbr.mono hB) k hk2
      obtain ⟨b2, o2, rfl, hb2, d0, d1, d2⟩ := h2.below (hbr.mono hB) k hk2
      generalize l[k].k = kk at c0 d0
      generalize l[k].n = nn at c1 d1
      generalize l[k].s = ss at c2 d2
      clear hbr
      go_wp2_with fail
      go_quiet (fail)
      go_wp2_with fail
      go_roundw
      case rel => exact ⟨k + 1, by omega, by go_num, bdrew HB.out _⟩
      case measure => simp [intOf]; omega
    · have hlt2 : ¬ (k : Int) < len := by omega
      go_wp2_with fail
      go_ret
      exact ⟨rfl, HB.out⟩
end Go.Proofs.Ytfjfobpdlmdddaa

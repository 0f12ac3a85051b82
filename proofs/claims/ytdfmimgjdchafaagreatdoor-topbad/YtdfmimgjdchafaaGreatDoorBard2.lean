/- The bard's local of a number. -/
import Derived.Test.YtdfmimgjdchafaaGreatDoorBard1
import Derived.Deep.QuietTactic
import Derived.BigQuiet
namespace Go.Proofs.YtdfmimgjdchafaaGreatDoor
set_option maxRecDepth 100000
open Go.RowKit
theorem names_cell {w : World} {B : Nat} {lv : Value} {names : List ByteArray} (h : w.ownsRow B 9 1 lv names.length (names.map Value.string)) (hn : 0 < names.length) :
    ∃ g cap, lv = .slice (some ⟨g, 0, none⟩) names.length cap ∧ names.length ≤ cap ∧ cap ≤ maxLen ∧ ∀ i (hi : i < names.length), w.cell? ⟨g, i, none⟩ = some (.string names[i]) := by
  rcases h.2 with ⟨_, h0⟩ | ⟨g, cap, cur, rfl, hb, hc, h1, h2, h3, h4⟩
  · omega
  · refine ⟨g, cap, rfl, h1, h2, fun i hi => ?_⟩
    have e : (cur.toList.take (names.length * 1))[i]? = some (.string names[i]) := by rw [h4, List.getElem?_map, List.getElem?_eq_getElem hi]; rfl
    rw [List.getElem?_take_of_lt (by omega)] at e
    simp only [World.cell?, hc]
    simpa using e
set_option maxRecDepth 100000 in
set_option maxHeartbeats 1000000 in
theorem local_any (w : World) (B bb : Nat) (lv : Value) (names : List ByteArray) (n : Int) (h : Bard w B bb lv names) (hne : 0 < names.length) (hlen : names.length ≤ 1000) (hn : i64B n) :
    Calls Tryz.prog 32 #[.pointer (some ⟨bb, 0, none⟩), .int .i64 n] w fun e w' => (∃ nm, nm ∈ names ∧ e = .returned (.string nm)) ∧ ∃ m, w' = w.drewN m := by
  obtain ⟨g, cap, rfl, h1, h2, hcell⟩ := names_cell h.row hne
  obtain ⟨h0, ⟨ra, rn, rc, dd, hb, _⟩, _⟩ := h
  obtain ⟨c0, c1, c2, _⟩ := cell3 hb
  have hp := pick_range n names.length (by omega)
  obtain ⟨i, hi⟩ := Int.eq_ofNat_of_zero_le hp.1
  have hP := fun w' => picked_any n names.length w' hn.1 hn.2 (by omega) (by omega)
  rw [hi] at hP hp
  have hil : i < names.length := by omega
  have hci := hcell i hil
  have HM := hid (List.getElem_mem hil)
  generalize names[i] = nm at hci HM
  have HP := hid hP
  have hili : (i : Int) < names.length := by omega
  have hnz : ¬ ((names.length : Nat) : Int) = 0 := by omega
  clear hP hcell hi hb c0 c2 hp
  generalize names.length = len at *
  go_enter Tryz.func32, Tryz.ntmps32
  go_wp2_with fail
  go_quiet (first | (go_at_call 9; exact Calls.quiet_of_same (HP.out _)))
  go_wp2
  go_ret
  exact ⟨⟨nm, HM.out, rfl⟩, _, rfl⟩
end Go.Proofs.YtdfmimgjdchafaaGreatDoor

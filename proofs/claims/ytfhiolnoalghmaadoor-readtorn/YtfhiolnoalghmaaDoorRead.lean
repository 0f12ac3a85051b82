/- read.Read answers as P1.4 says. -/
import Derived.Test.YtfhiolnoalghmaaDoorAll
namespace Go.Proofs.YtfhiolnoalghmaaDoor
open Go.RowKit
set_option linter.unusedSimpArgs false
/-- The data of a text, or what is wrong, and where. -/
def readT (l : List UInt8) : (Int × List UInt8) ⊕ List (DataW Unit) := if 3000 < l.length then .inl (1, l) else pAll 401 [] (skipB false l) 0
/-- How the call ends. -/
def OutR (w w' : World) (s : ByteArray) (o : (Int × List UInt8) ⊕ List (DataW Unit)) (e : Ending) : Prop :=
  match o with
  | .inl (x, q) => e = .returned (.tuple #[.slice none 0 0, .int .i64 ((s.size - q.length : Nat) : Int), .int .i64 x])
  | .inr items => ∃ a cap, e = .returned (.tuple #[.slice a items.length cap, .int .i64 0, .int .i64 0]) ∧ items.length ≤ cap ∧ items.length ≤ 400 ∧ RowD w' (fun b => w.heap.size ≤ b ∧ b < w'.heap.size) (Dat w' (fun b => w.heap.size ≤ b ∧ b < w'.heap.size) 40) items a items.length
theorem reader_new (w : World) (s : ByteArray) (t : TypeId) : R (w.alloc (.cells #[.string s, .int .i64 0, .int .i64 0] t)) w.heap.size s 0 0 := by
  constructor <;> go_simp
set_option maxRecDepth 100000 in
set_option maxHeartbeats 1000000 in
theorem read_any (s : ByteArray) (w : World) (B : Nat) (hG : Globs w B) (hB : B ≤ w.heap.size) (hs : s.size ≤ 9223372036854775807) :
    Calls Tryd.prog 11 #[.string s] w fun e w' => OutR w w' s (readT s.data.toList) e ∧ Below w.heap.size w w' := by
  by_cases hbig : 3000 < s.size
  · have hbi : (3000 : Int) < s.size := by omega
    have HT : Hid (readT s.data.toList = .inl (1, s.data.toList)) := by unfold readT; rw [if_pos (by simpa using hbig)]; exact rfl
    go_enter Tryd.func11, Tryd.ntmps11
    go_wp2_with fail
    go_ret3
    refine ⟨?_, Below.refl _ _⟩
    rw [HT.out]
    show _ = _
    simp
  · have hbi : ¬ (3000 : Int) < s.size := by omega
    have HT : Hid (readT s.data.toList = pAll 401 [] (skipB false s.data.toList) 0) := by unfold readT; rw [if_neg (by simpa using hbig)]; exact rfl
    have hb1 : Below w.heap.size w (w.alloc (.cells #[.string s, .int .i64 0, .int .i64 0] 53)) := (Below.refl _ _).alloc (Nat.le_refl _) _
    have hcall := all_any w.heap.size s _ B (hG.below (hb1.mono hB)) hB (reader_new w s 53) (by omega)
    go_enter Tryd.func11, Tryd.ntmps11
    go_wp2_with fail
    go_fit hcall
    clear hcall
    rintro e w1 ⟨hO, hP⟩
    have hbw : Below w.heap.size w w1 := hb1.trans (hP.below (Nat.le_refl _) (by simp))
    rw [← HT.out] at hO
    cases hres : readT s.data.toList with
    | inl eq =>
      obtain ⟨x, q⟩ := eq
      rw [hres] at hO
      obtain ⟨rfl, hx0, c, hR⟩ := hO
      have HRes := hid hres
      clear hres
      obtain ⟨d0, d1, d2, e1, e2⟩ := hR
      go_wp2_with fail
      go_quiet (fail)
      go_wp2_with fail
      go_ret3
      refine ⟨?_, below_drewN hbw _⟩
      rw [HRes.out]
      rfl
    | inr items =>
      rw [hres] at hO
      obtain ⟨a, cap, rfl, hcap, h400, hrow⟩ := hO
      have HRes := hid hres
      have HRow := hid hrow
      clear hres hrow
      go_wp2_with fail
      go_ret3
      refine ⟨?_, hbw⟩
      rw [HRes.out]
      exact ⟨a, cap, rfl, hcap, h400, RowD.keep (fun b hb => ⟨rfl, by have := hb.1; simp at this; omega, hb.2⟩) HRow.out⟩
end Go.Proofs.YtfhiolnoalghmaaDoor

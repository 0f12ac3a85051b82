/- What may be put always: a pair, a box, a record of values. -/
import Derived.Test.YtfjfobpdlmdddaaHGrowP
namespace Go.Proofs.Ytfjfobpdlmdddaa
set_option maxRecDepth 100000
abbrev wN : Wd := ⟨3, 0, ⟨#[]⟩⟩
abbrev wP : Wd := ⟨6, 0, ⟨#[]⟩⟩
theorem okC_nil {lim : Int} (h1 : 50 ≤ lim) (h2 : lim ≤ 60000) : OkC lim [] [] [] := ⟨h1, h2, by simp; omega, Chain.nil, rfl, rfl⟩
theorem OkC.okR {lim : Int} {l : List Wd} {acc : List Th} {ms : List (Int × Int)} (h : OkC lim l acc ms) : OkR lim l := by
  refine ⟨h.lo, h.hi, h.room, acc, h.chain.ref, fun t ht => ?_⟩
  unfold okT
  by_cases hk : kindAt l t.h = 10
  · rw [if_pos hk]
    rcases mv_spec h.chain acc [] rfl with ⟨_, _, _, e3⟩ | ⟨e1, _⟩
    · exact e3 t ht hk
    · rw [h.moved] at e1; cases e1
  · rw [if_neg hk]
    have := List.all_eq_true.1 h.vals t ht
    rw [th_ok h.chain, decide_eq_false hk, Bool.false_or] at this
    exact this
theorem OkC.not_bad {lim : Int} {l : List Wd} {acc : List Th} {ms : List (Int × Int)} (h : OkC lim l acc ms) : ¬ BadC lim l := fun hb => bad_not_ok hb h.okR
theorem sub_sh (l x : List Wd) (f e : Nat) : sub (l ++ x) (l.length + f) (l.length + e) = sub x f e := by
  unfold sub
  rw [List.take_length_add_append, List.drop_length_add_append]
theorem grB_of {l x : List Wd} {acc : List Th} {f : Nat} (ht : tAt x 0 = some (f, x.length)) (hk : ¬ kindAt x 0 = 10) (hv : allB (plOf (acc ++ [⟨l.length, l.length + f, l.length + x.length⟩])) (sub x f x.length) = true) : grB l x acc = true := by
  have hs := tAt_sh l x 0
  rw [Nat.add_zero, ht] at hs
  unfold grB
  have hs' : tAt (l ++ x) l.length = some (l.length + f, l.length + x.length) := hs
  rw [hs']
  dsimp only
  rw [decide_eq_true (by rw [List.length_append]), kindAt_sh, decide_eq_false hk, sub_sh, hv]
  rfl
theorem grB_not {l x : List Wd} {acc : List Th} (ht : tAt x 0 = none) : grB l x acc = false := by
  have hs := tAt_sh l x 0
  rw [Nat.add_zero, ht] at hs
  unfold grB
  rw [show tAt (l ++ x) l.length = none from hs]
theorem valB_nil (ps : List (Int × Int)) : valB ps 3 0 ⟨#[]⟩ = true := rfl
theorem tAt_pair (a b : Wd) : tAt [wP, a, b] 0 = some (1, 3) := rfl
theorem tAt_box (a : Wd) : tAt [⟨7, 0, ⟨#[]⟩⟩, a] 0 = some (1, 2) := rfl
theorem tAt_nil : tAt [wN] 0 = none := rfl
theorem sub_pair (a b : Wd) : sub [wP, a, b] 1 3 = [a, b] := rfl
theorem sub_box (a : Wd) : sub [⟨7, 0, ⟨#[]⟩⟩, a] 1 2 = [a] := rfl
theorem pair_grows {l : List Wd} {acc : List Th} {a b : Wd} (h : ∀ t, valB (plOf (acc ++ [t])) a.k a.n a.s = true ∧ valB (plOf (acc ++ [t])) b.k b.n b.s = true) : grB l [wP, a, b] acc = true :=
  grB_of (tAt_pair a b) (by show ¬ (6 : Int) = 10; decide) (by
    show allB _ (sub [wP, a, b] 1 3) = true
    rw [sub_pair]
    obtain ⟨h1, h2⟩ := h ⟨l.length, l.length + 1, l.length + 3⟩
    simp only [allB, List.all_cons, List.all_nil, Bool.and_true, Bool.and_eq_true]
    exact ⟨h1, h2⟩)
theorem box_grows {l : List Wd} {acc : List Th} {a : Wd} (h : ∀ t, valB (plOf (acc ++ [t])) a.k a.n a.s = true) : grB l [⟨7, 0, ⟨#[]⟩⟩, a] acc = true :=
  grB_of (tAt_box a) (by show ¬ (7 : Int) = 10; decide) (by
    show allB _ (sub [⟨7, 0, ⟨#[]⟩⟩, a] 1 2) = true
    rw [sub_box]
    simp only [allB, List.all_cons, List.all_nil, Bool.and_true]
    exact h _)
/-- So many pairs of Nils. -/
def prs : Nat → List Wd
  | 0 => []
  | k + 1 => prs k ++ [wP, wN, wN]
theorem prs_length : ∀ k, (prs k).length = 3 * k
  | 0 => rfl
  | k + 1 => by unfold prs; rw [List.length_append, prs_length k]; simp; omega
theorem wfL_nil0 : wfL [] := fun i hi => absurd hi (by simp)
theorem wfL_cons {x : Wd} {r : List Wd} (hx : wfI x.n ∧ x.s.size ≤ 9223372036854775807) (h : wfL r) : wfL (x :: r) := by
  intro i hi
  cases i with
  | zero => exact hx
  | succ i => exact h i (by simpa using hi)
theorem wfW : wfL [wP, wN, wN] := wfL_cons ⟨by decide, by decide⟩ (wfL_cons ⟨by decide, by decide⟩ (wfL_cons ⟨by decide, by decide⟩ wfL_nil0))
theorem wfN : wfL [wN] := wfL_cons ⟨by decide, by decide⟩ wfL_nil0
end Go.Proofs.Ytfjfobpdlmdddaa

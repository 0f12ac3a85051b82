/- The document's isWord, primArgs, freeName: P2.2. -/
import Derived.Test.YteblglkmkakcjaaUStrs
import Derived.Deep.Light
namespace Go.Proofs.Yteblglkmkakcjaa
set_option maxRecDepth 100000
open Go.RowKit Go.WideMaps Go.Maps
theorem valOf_zero (s : List UInt8) : ∀ l : List (List UInt8 × Int), (∀ p ∈ l, ¬ p.2 = 0) → (valOf l s = 0 ↔ ¬ s ∈ l.map Prod.fst)
  | [], _ => by simp [valOf]
  | p :: r, h => by
    have ih := valOf_zero s r (fun q hq => h q (List.mem_cons_of_mem _ hq))
    have h0 := h p (List.mem_cons_self ..)
    unfold valOf
    by_cases e : p.1 = s
    · rw [if_pos e]; simp [h0, e]
    · rw [if_neg e, ih]; simp [Ne.symm e]
def wordsL : List ByteArray := (keyws.map fun p => ByteArray.mk p.1.toArray).reverse
theorem words_in (s : ByteArray) : hasS (wordsL.take 10) s = !(valOf keyws s.data.toList == 0) := by
  rw [show wordsL.take 10 = wordsL from rfl, Bool.eq_iff_iff, Lib.containsS_iff]
  have h := valOf_zero s.data.toList keyws (by decide)
  have e : s ∈ wordsL ↔ s.data.toList ∈ keyws.map Prod.fst := by
    unfold wordsL
    rw [List.mem_reverse, List.mem_map, List.mem_map]
    constructor
    · rintro ⟨p, hp, rfl⟩; exact ⟨p, hp, rfl⟩
    · rintro ⟨p, hp, he⟩; exact ⟨p, hp, by rw [he]⟩
  rw [e]
  by_cases hv : valOf keyws s.data.toList = 0
  · have := h.1 hv
    simp only [this, false_iff]; simp [hv]
  · have : s.data.toList ∈ keyws.map Prod.fst := Classical.not_not.1 (fun x => hv (h.2 x))
    simp only [this, true_iff]; simp [hv]
def primI (l : List UInt8) : Int := if valOf prims l = 0 then -1 else valOf prims l
theorem prim_hit {s : ByteArray} {X : List UInt8} {c : Int} (h : (s.toList == X) = true) (e : c = primI X) : c = primI s.data.toList := by
  rw [ByteArray.toList_eq] at h
  rw [beq_iff_eq.1 h]; exact e
theorem prim_miss {s : ByteArray} (h : ∀ X ∈ prims.map Prod.fst, (s.toList == X) = false) : -1 = primI s.data.toList := by
  have e := (valOf_zero s.data.toList prims (by decide)).2 (fun hm => by
    have h2 := h _ hm
    rw [ByteArray.toList_eq] at h2
    simp at h2)
  unfold primI; rw [if_pos e]
set_option maxHeartbeats 1000000 in
theorem primArgs_any (s : ByteArray) (w : World) :
    Calls Try.prog 16 #[.string s] w fun e w' => e = .returned (.int .i64 (primI s.data.toList)) ∧ ∃ n, w' = w.drewN n := by
  go_enter Try.func16, Try.ntmps16
  go_wp2
  all_goals (go_ret; refine ⟨ret_int ?_, 0, rfl⟩)
  all_goals first
    | (exact prim_hit (by assumption) (by decide))
    | (refine prim_miss ?_; simp only [prims, List.map_cons, List.map_nil, List.forall_mem_cons, List.not_mem_nil, false_implies, implies_true, and_true]; refine ⟨?_, ?_, ?_, ?_, ?_, ?_, ?_, ?_, ?_, ?_, ?_, ?_, ?_, ?_, ?_⟩ <;> assumption)
    | (exfalso; simp_all; done)
theorem strs_new (w : World) (ss : List ByteArray) (t : TypeId) (h : ∀ s ∈ ss, s.size ≤ maxLen) : Strs (w.alloc (.cells (ss.map Value.string).toArray t)) (w.heap.size + 1) (some ⟨w.heap.size, 0, none⟩) ss := by
  intro i hi
  refine ⟨h _ (List.getElem_mem hi), _, _, rfl, by omega, ?_⟩
  rw [World.cell?_alloc_at _ _ _ _ rfl]
  simp [hi]
theorem words_short : ∀ s ∈ wordsL, s.size ≤ maxLen := by
  have : ∀ s ∈ wordsL, s.size ≤ 10 := by decide
  intro s hs
  have := this s hs
  unfold maxLen; omega
set_option maxHeartbeats 1000000 in
theorem isWord_any (s : ByteArray) (w : World) :
    Calls Try.prog 28 #[.string s] w fun e w' => e = .returned (.bool (!(valOf keyws s.data.toList == 0))) ∧ Below w.heap.size w w' := by
  have hS := hid (strs_new w wordsL 9 words_short)
  go_enter Try.func28, Try.ntmps28
  go_wp2_with fail
  have hcall := isIn_any _ _ _ wordsL 10 10 s hS.out (by decide) (by omega)
  rw [words_in] at hcall
  go_fit hcall
  clear hcall
  rintro e w2 ⟨rfl, rfl⟩
  go_wp2_with fail
  go_ret
  exact ⟨rfl, (Below.refl _ _).alloc (Nat.le_refl _) _⟩
theorem bdrew {B : Nat} {a w : World} (h : Below B a w) (n : Nat) : Below B a (w.drewN n) := ⟨h.os, h.tape, h.output, h.size, h.block⟩
theorem free_eq (s : ByteArray) : freeB s.data.toList = (nameB s.data.toList && (!(!(valOf keyws s.data.toList == 0)) && decide (primI s.data.toList < 0))) := by
  unfold freeB primI
  have h : ∀ p ∈ prims, 0 ≤ p.2 := by decide
  have hv : 0 ≤ valOf prims s.data.toList := by
    have : ∀ l : List (List UInt8 × Int), (∀ p ∈ l, 0 ≤ p.2) → 0 ≤ valOf l s.data.toList := by
      intro l
      induction l with
      | nil => intro _; exact Int.le_refl _
      | cons p r ih =>
        intro h
        unfold valOf
        split
        · exact h p (List.mem_cons_self ..)
        · exact ih (fun q hq => h q (List.mem_cons_of_mem _ hq))
    exact this _ h
  by_cases e : valOf prims s.data.toList = 0
  · simp [e]
  · rw [if_neg e]
    have : ¬ valOf prims s.data.toList < 0 := by omega
    simp [e, this]
set_option maxHeartbeats 1000000 in
theorem freeName_any (s : ByteArray) (w : World) (hs : s.size ≤ 9223372036854775807) :
    Calls Try.prog 19 #[.string s] w fun e w' => e = .returned (.bool (freeB s.data.toList)) ∧ Below w.heap.size w w' := by
  have hf := hid (free_eq s)
  go_enter Try.func19, Try.ntmps19
  go_wp2_with (first
    | (go_at_call 17; refine (NameMay_any _ _ hs).mono ?_; rintro e w1 ⟨rfl, nd, rfl⟩)
    | (go_at_call 28; refine (isWord_any _ _).mono ?_; rintro e w2 ⟨rfl, hb⟩)
    | (go_at_call 16; refine (primArgs_any _ _).mono ?_; rintro e w3 ⟨rfl, nd2, rfl⟩))
  all_goals (go_ret; refine ⟨ret_bool ?_, ?_⟩)
  all_goals first
    | (rw [hf.out]; simp [*]; done)
    | exact bdrew ((bdrew (Below.refl _ _) nd).trans hb) _
    | exact (bdrew (Below.refl _ _) nd).trans hb
    | exact bdrew (Below.refl _ _) nd
end Go.Proofs.Yteblglkmkakcjaa

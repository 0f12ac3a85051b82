/- Names that are bound: all free, and unlike, one by one. -/
import Derived.Test.YteblglkmkakcjaaCRefP
import Derived.Deep.RegionHeld3
namespace Go.Proofs.Yteblglkmkakcjaa
set_option maxRecDepth 100000
open Go.RowKit Go.WideMaps Go.Maps
def freeTo (ns : List ByteArray) (q : Nat) : Bool := decide (firstI (globI ns) 0 q = 0)
theorem firstI_more (f : Nat → Int) : ∀ (m i : Nat), firstI f i (m + 1) = if firstI f i m = 0 then f (i + m) else firstI f i m
  | 0, i => by simp [firstI]; intro h; exact h.symm
  | m + 1, i => by
    have ih := firstI_more f m (i + 1)
    rw [show i + 1 + m = i + (m + 1) by omega] at ih
    by_cases h : f i = 0
    · have e1 : firstI f i (m + 1 + 1) = firstI f (i + 1) (m + 1) := by rw [firstI]; simp [h]
      have e2 : firstI f i (m + 1) = firstI f (i + 1) m := by rw [firstI]; simp [h]
      rw [e1, e2, ih]
    · have e1 : firstI f i (m + 1 + 1) = f i := by rw [firstI]; simp [h]
      have e2 : firstI f i (m + 1) = f i := by rw [firstI]; simp [h]
      rw [e1, e2]; simp [h]
theorem freeTo_zero (ns : List ByteArray) : freeTo ns 0 = true := by simp [freeTo, firstI]
theorem freeTo_all (ns : List ByteArray) : freeTo ns ns.length = freeAll ns := rfl
theorem freeTo_no {ns : List ByteArray} {q : Nat} (h : freeTo ns q = false) : freeTo ns (q + 1) = false := by
  unfold freeTo at *
  rw [firstI_more]
  simp at h ⊢
  simp [h]
theorem freeTo_yes {ns : List ByteArray} {q : Nat} (h : freeTo ns q = true) (hq : q < ns.length) : freeTo ns (q + 1) = (freeB ns[q].data.toList && !(hasS (ns.take q) ns[q])) := by
  unfold freeTo at *
  rw [firstI_more]
  simp at h
  rw [if_pos h, Nat.zero_add, globI_at ns q hq]
  cases freeB ns[q].data.toList <;> cases hasS (ns.take q) ns[q] <;> simp
end Go.Proofs.Yteblglkmkakcjaa

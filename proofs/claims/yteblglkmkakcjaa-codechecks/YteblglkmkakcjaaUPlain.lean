/- Words of the language, free names: what P2.2 says; a map filled with known pairs. -/
import Derived.Test.YteblglkmkakcjaaPlain
import Derived.Maps.OwnSet
namespace Go.Proofs.Yteblglkmkakcjaa
set_option maxRecDepth 100000
open Go.Maps
/-- Keywords, primitives: the last one first, as a map is filled. -/
def keyws : List (List UInt8 × Int) := [([119, 97, 115], 10), ([117, 112, 103, 114, 97, 100, 101], 9), ([100, 101, 102, 105, 110, 101], 8), ([114, 101, 99, 111, 114, 100], 7), ([115, 101, 116, 33], 6), ([98, 101, 103, 105, 110], 5), ([108, 97, 109, 98, 100, 97], 4), ([108, 101, 116], 3), ([105, 102], 2), ([113, 117, 111, 116, 101], 1)]
def prims : List (List UInt8 × Int) := [([101, 114, 114, 111, 114], 1), ([110, 111, 116], 1), ([112, 97, 105, 114, 63], 1), ([110, 117, 108, 108, 63], 1), ([99, 100, 114], 1), ([99, 97, 114], 1), ([101, 113, 63], 2), ([99, 111, 110, 115], 2), ([60], 2), ([61], 2), ([114, 101, 109, 97, 105, 110, 100, 101, 114], 2), ([113, 117, 111, 116, 105, 101, 110, 116], 2), ([42], 2), ([45], 2), ([43], 2)]
def valOf : List (List UInt8 × Int) → List UInt8 → Int
  | [], _ => 0
  | p :: r, s => if p.1 = s then p.2 else valOf r s
def filled : List (List UInt8 × Int) → DataW Unit
  | [] => .map []
  | p :: r => (filled r).put (.string p.1) (.lit (.int .i64 p.2))
theorem filled_map : ∀ l, IsMap (filled l)
  | [] => isMap_empty
  | _ :: r => (filled_map r).put _ _
theorem filled_at (s : List UInt8) : ∀ l, (filled l).atKey (.string s) (.lit (.int .i64 0)) = .lit (.int .i64 (valOf l s))
  | [] => rfl
  | p :: r => by
    unfold filled valOf
    by_cases h : p.1 = s
    · rw [if_pos h, ← h]; exact atKey_put_same (k := .string p.1) (filled_map r) (by trivial) _ _
    · rw [if_neg h, atKey_put_other (by intro e; injection e with e; exact h e.symm)]; exact filled_at s r
def freeB (s : List UInt8) : Bool := nameB s && (valOf keyws s == 0) && (valOf prims s == 0)
end Go.Proofs.Yteblglkmkakcjaa

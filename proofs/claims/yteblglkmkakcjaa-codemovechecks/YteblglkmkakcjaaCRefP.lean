/- The document's exprFault: what is asked of it, kind by kind. -/
import Derived.Test.YteblglkmkakcjaaCTwo
import Derived.Test.YteblglkmkakcjaaCKids
namespace Go.Proofs.Yteblglkmkakcjaa
set_option maxRecDepth 100000
open Go.RowKit Go.WideMaps Go.Maps
/-- How the document tells an upgrade's expression. -/
def RoOk (pu : Bool) (olds ro : Int) : Prop := (pu = false ∧ olds = 0 ∧ ro = -1) ∨ (pu = true ∧ ro = olds ∧ 0 ≤ olds ∧ olds ≤ 6)
def RfAt (W : World) (B : Nat) (pu : Bool) (olds ro : Int) (d : Nat) (y : Xn) (l : List Ex) : Prop :=
  ∀ (ba : Option Addr) (bs : List ByteArray) (bl bc : Nat) (w : World), Below B W w → B ≤ w.heap.size → FineX W B d (.mk y l) → Strs w w.heap.size ba bs → bl = bs.length → bl ≤ 40 → bl ≤ bc →
    Calls Try.prog 11 #[xv y l.length, .slice ba bl bc, .int .i64 ro] w fun e w' => e = .returned (.int .i64 (exI W pu olds d bs (.mk y l))) ∧ Below w.heap.size w w'
theorem exI_is {W : World} {pure : Bool} {olds : Int} {d : Nat} {scope : List ByteArray} {x : Xn} {ks : List Ex} {m : Nat} (hm : m = ks.length) :
    exI W pure olds (d + 1) scope (.mk x ks) = if xaloneI W pure olds scope x m = 0 then firstI (kidI (exI W pure olds d) scope x ks) 0 m else xaloneI W pure olds scope x m := by subst hm; simp only [exI]
set_option maxHeartbeats 400000 in
theorem rDatum_any (W : World) (B : Nat) (k n : Int) (s : ByteArray) (a : Option Addr) (len cap : Nat) (w : World) (hW : Below B W w) (hB : B ≤ w.heap.size) (hF : Fine W B 40 s a len) :
    Calls Try.prog 20 #[.agg #[.int .i64 k, .int .i64 n, .string s, .slice a len cap]] w fun e w' => e = .returned (.int .i64 (fltI W 40 k n s a len)) ∧ Below w.heap.size w w' := by
  have HW : Hid (Below B W (w.alloc (.cells #[.int .i64 k, .int .i64 n, .string s, .slice a len cap] 24))) := hW.alloc hB _
  go_enter Try.func20, Try.ntmps20
  go_wp2_with fail
  have hcall := fault_any W B 40 k n s a len cap 1 _ (by omega) (by omega) HW.out (by simp; omega) hF
  go_fit hcall
  rintro e w2 ⟨rfl, hb2⟩
  go_wp2_with fail
  go_ret
  exact ⟨rfl, ((Below.refl _ _).alloc (Nat.le_refl _) _).trans (hb2.mono (by simp))⟩
end Go.Proofs.Yteblglkmkakcjaa

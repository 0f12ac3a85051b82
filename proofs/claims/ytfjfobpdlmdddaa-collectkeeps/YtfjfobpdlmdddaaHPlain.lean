/- Words and things: what P3.1 and P3.2 say, as plain functions. -/
import Derived.Lib.Bytealg
namespace Go.Proofs.Ytfjfobpdlmdddaa
set_option maxRecDepth 100000
/-- A word. -/
structure Wd where
  k : Int
  n : Int
  s : ByteArray
def plainB (n : Int) (s : ByteArray) (b : Int) : Bool := decide (0 ≤ n) && decide (n < b) && decide (s.size = 0)
def intAt (l : List Wd) (a : Nat) (b : Int) : Bool := match l[a]? with
  | some w => decide (w.k = 1) && plainB w.n w.s b
  | none => false
def nAt (l : List Wd) (a : Nat) : Nat := match l[a]? with
  | some w => w.n.toNat
  | none => 0
def headsI (k : Int) : Int := if k = 6 then 1 else if k = 7 then 1 else if k = 8 then 2000 else if k = 9 then 8 else if k = 10 then 60000 else 0
def versI (k : Int) : Int := if k = 9 then 20 else if k = 10 then 1 else 0
def valsI (k : Int) : Int := if k = 6 then 2 else if k = 7 then 1 else if k = 8 then 40 else if k = 9 then 6 else if k = 10 then 6 else 0
def cntdB (k : Int) : Bool := decide (k = 8) || decide (k = 9) || decide (k = 10)
def fitT (l : List Wd) (f n : Nat) : Option (Nat × Nat) := if f + n ≤ l.length then some (f, f + n) else none
def tailT (l : List Wd) (f : Nat) (k : Int) : Option (Nat × Nat) :=
  if cntdB k = true then (if intAt l f (valsI k + 1) = true then fitT l (f + 1) (nAt l f) else none) else fitT l f (valsI k).toNat
/-- What begins at an address: where its values do, and where it ends. -/
def tAt (l : List Wd) (a : Nat) : Option (Nat × Nat) := match l[a]? with
  | none => none
  | some h => if plainB h.n h.s (headsI h.k) = false then none else if 0 < versI h.k then (if intAt l (a + 1) (versI h.k) = true then tailT l (a + 2) h.k else none) else tailT l (a + 1) h.k
theorem headsI_le (k : Int) : headsI k ≤ 60000 := by unfold headsI; repeat' split; all_goals omega
theorem versI_le (k : Int) : versI k ≤ 20 := by unfold versI; repeat' split; all_goals omega
theorem valsI_le (k : Int) : 0 ≤ valsI k ∧ valsI k ≤ 40 := by unfold valsI; repeat' split; all_goals omega
end Go.Proofs.Ytfjfobpdlmdddaa

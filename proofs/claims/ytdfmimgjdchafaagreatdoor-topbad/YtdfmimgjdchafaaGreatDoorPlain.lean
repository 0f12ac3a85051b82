/- Plain functions on numbers and bytes: what P1.1 and P1.2 say. -/
import Derived.Lib.Bytealg
namespace Go.Proofs.YtdfmimgjdchafaaGreatDoor
set_option maxRecDepth 100000
def inI (a n b : Int) : Bool := decide (a ≤ n) && decide (n ≤ b)
def digI (c : Int) : Bool := decide (48 ≤ c) && decide (c ≤ 57)
def signI (c : Int) : Bool := c == 43 || c == 45 || c == 42 || c == 47 || c == 60 || c == 62 || c == 61 || c == 63 || c == 33 || c == 95
def smallI (c : Int) : Bool := decide (97 ≤ c) && decide (c ≤ 122)
def nameByteI (c : Int) : Bool := smallI c || digI c || signI c
def begins : List UInt8 → Bool
  | [] => false
  | c :: r => digI c.toNat || ((c.toNat : Int) == 45 && match r with | [] => false | d :: _ => digI d.toNat)
def nameB (l : List UInt8) : Bool := decide (1 ≤ l.length) && decide (l.length ≤ 16) && !begins l && l.all fun c => nameByteI c.toNat
end Go.Proofs.YtdfmimgjdchafaaGreatDoor

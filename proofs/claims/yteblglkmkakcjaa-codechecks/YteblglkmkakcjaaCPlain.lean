/- Expressions: what P5.1 says of one, and of what is in it. -/
import Derived.Test.YteblglkmkakcjaaUEnv
import Derived.Test.YteblglkmkakcjaaRefs
import Derived.Test.YteblglkmkakcjaaURefFree
namespace Go.Proofs.Yteblglkmkakcjaa
set_option maxRecDepth 100000
open Go.RowKit Go.WideMaps Go.Maps
/-- An expression without what is in it, as it lies in memory. -/
structure Xn where
  k : Int
  dk : Int
  dn : Int
  ds : ByteArray
  da : Option Addr
  dl : Nat
  dc : Nat
  s : ByteArray
  n : Int
  na : Option Addr
  ns : List ByteArray
  nc : Nat
  aa : Option Addr
  ac : Nat
inductive Ex where
  | mk : Xn → List Ex → Ex
def Ex.x : Ex → Xn
  | .mk x _ => x
def Ex.ks : Ex → List Ex
  | .mk _ l => l
def fieldB : List ByteArray → Bool
  | [f] => nameB f.data.toList
  | _ => false
def countB (k : Int) (s : ByteArray) (ns : List ByteArray) (m : Int) : Bool :=
  if k = 1 ∨ k = 2 ∨ k = 3 ∨ k = 15 then m == 0 else if k = 4 then m == 3 else if k = 5 then (m == (ns.length : Int) + 1 && decide (m ≤ 7)) else if k = 6 then (m == 1 && decide ((ns.length : Int) ≤ 6))
  else if k = 7 then decide (2 ≤ m) else if k = 9 then (decide (1 ≤ m) && decide (m ≤ 7)) else if k = 10 then (m == primI s.data.toList && decide (0 < m)) else if k = 11 then decide (m ≤ 6)
  else if k = 13 then (m == 1 && fieldB ns) else if k = 14 then (m == 2 && fieldB ns) else m == 1
def freeAll (ns : List ByteArray) : Bool := decide (firstI (globI ns) 0 ns.length = 0)
def namedB (k : Int) (s : ByteArray) (n : Int) (ns scope : List ByteArray) : Bool :=
  if k = 2 then hasS scope s else if k = 8 then ((n == 1 && hasS scope s) || (n == 0 && freeB s.data.toList)) else if k = 3 ∨ k = 11 ∨ k = 12 ∨ k = 13 ∨ k = 14 then freeB s.data.toList
  else if k = 5 ∨ k = 6 then freeAll ns else true
def pureB (k : Int) : Bool := k == 1 || k == 4 || k == 10 || k == 15
def xaloneI (W : World) (pure : Bool) (olds : Int) (scope : List ByteArray) (x : Xn) (m : Int) : Int :=
  if x.k < 1 ∨ 15 < x.k then 3 else if countB x.k x.s x.ns m = false then 10 else if namedB x.k x.s x.n x.ns scope = false then 6
  else if x.k = 1 ∧ ¬ fltI W 40 x.dk x.dn x.ds x.da x.dl = 0 then 4 else if x.k = 15 ∧ (x.n < 0 ∨ olds ≤ x.n) then 4 else if pure = true ∧ pureB x.k = false then 15 else 0
def bindsB (k : Int) (m i : Nat) : Bool := k == 6 || (k == 5 && (i : Int) == (m : Int) - 1)
def kidI (g : List ByteArray → Ex → Int) (scope : List ByteArray) (x : Xn) (ks : List Ex) (i : Nat) : Int :=
  match ks[i]? with
  | some t => if bindsB x.k ks.length i = true then (if 40 < (scope ++ x.ns).length then 1 else g (scope ++ x.ns) t) else g scope t
  | none => 0
def exI (W : World) (pure : Bool) (olds : Int) : Nat → List ByteArray → Ex → Int
  | 0, _, _ => 0
  | d + 1, scope, .mk x ks => if xaloneI W pure olds scope x ks.length = 0 then firstI (kidI (exI W pure olds d) scope x ks) 0 ks.length else xaloneI W pure olds scope x ks.length
theorem kidI_at (g : List ByteArray → Ex → Int) (scope : List ByteArray) (x : Xn) (ks : List Ex) (i : Nat) (h : i < ks.length) :
    kidI g scope x ks i = if bindsB x.k ks.length i = true then (if 40 < (scope ++ x.ns).length then 1 else g (scope ++ x.ns) ks[i]) else g scope ks[i] := by
  unfold kidI; rw [List.getElem?_eq_getElem h]
theorem exI_pos {W : World} {pure : Bool} {olds : Int} {d : Nat} {scope : List ByteArray} {x : Xn} {ks : List Ex} (h : xaloneI W pure olds scope x ks.length = 0) :
    exI W pure olds (d + 1) scope (.mk x ks) = firstI (kidI (exI W pure olds d) scope x ks) 0 ks.length := by simp only [exI]; rw [if_pos h]
theorem exI_neg {W : World} {pure : Bool} {olds : Int} {d : Nat} {scope : List ByteArray} {x : Xn} {ks : List Ex} (h : ¬ xaloneI W pure olds scope x ks.length = 0) :
    exI W pure olds (d + 1) scope (.mk x ks) = xaloneI W pure olds scope x ks.length := by simp only [exI]; rw [if_neg h]
/-- The nine cells of one. -/
structure Lies (W : World) (b o : Nat) (x : Xn) (m : Nat) : Prop where
  c0 : W.cell? ⟨b, o, none⟩ = some (.int .i64 x.k)
  c1 : W.cell? ⟨b, o + 1, none⟩ = some (.int .i64 x.dk)
  c2 : W.cell? ⟨b, o + 2, none⟩ = some (.int .i64 x.dn)
  c3 : W.cell? ⟨b, o + 3, none⟩ = some (.string x.ds)
  c4 : W.cell? ⟨b, o + 4, none⟩ = some (.slice x.da x.dl x.dc)
  c5 : W.cell? ⟨b, o + 5, none⟩ = some (.string x.s)
  c6 : W.cell? ⟨b, o + 6, none⟩ = some (.int .i64 x.n)
  c7 : W.cell? ⟨b, o + 7, none⟩ = some (.slice x.na x.ns.length x.nc)
  c8 : W.cell? ⟨b, o + 8, none⟩ = some (.slice x.aa m x.ac)
/-- What is known of one without what is in it. -/
structure OkX (W : World) (B : Nat) (x : Xn) (m : Nat) : Prop where
  fine : Fine W B 40 x.ds x.da x.dl
  size : x.s.size ≤ maxLen
  strs : Strs W B x.na x.ns
  nlen : x.ns.length ≤ 1000000000000000
  ncap : x.ns.length ≤ x.nc
  alen : m ≤ maxLen
  acap : m ≤ x.ac
def FineX (W : World) (B : Nat) : Nat → Ex → Prop
  | 0, _ => False
  | d + 1, .mk x ks => OkX W B x ks.length ∧ ∀ i (h : i < ks.length), ∃ b o, x.aa = some ⟨b, o, none⟩ ∧ b < B ∧ Lies W b (o + i * 9) ks[i].x ks[i].ks.length ∧ FineX W B d ks[i]
abbrev xv (x : Xn) (m : Nat) : Value := .agg #[.int .i64 x.k, .int .i64 x.dk, .int .i64 x.dn, .string x.ds, .slice x.da x.dl x.dc, .string x.s, .int .i64 x.n, .slice x.na x.ns.length x.nc, .slice x.aa m x.ac]
abbrev xcs (x : Xn) (m : Nat) : Array Value := #[.int .i64 x.k, .int .i64 x.dk, .int .i64 x.dn, .string x.ds, .slice x.da x.dl x.dc, .string x.s, .int .i64 x.n, .slice x.na x.ns.length x.nc, .slice x.aa m x.ac]
theorem Lies.below {W w : World} {B b o : Nat} {x : Xn} {m : Nat} (h : Lies W b o x m) (hb : Below B W w) (hlt : b < B) : Lies w b o x m := by
  have e : ∀ q, w.cell? ⟨b, q, none⟩ = W.cell? ⟨b, q, none⟩ := fun q => hb.cell (p := ⟨b, q, none⟩) hlt
  exact ⟨(e _).trans h.c0, (e _).trans h.c1, (e _).trans h.c2, (e _).trans h.c3, (e _).trans h.c4, (e _).trans h.c5, (e _).trans h.c6, (e _).trans h.c7, (e _).trans h.c8⟩
theorem lies_new {w wr : World} {x : Xn} {m : Nat} {t : TypeId} (hb : Below (w.heap.size + 1) (w.alloc (.cells (xcs x m) t)) wr) : Lies wr w.heap.size 0 x m := by
  refine Lies.below (W := w.alloc (.cells (xcs x m) t)) ?_ hb (by omega)
  refine ⟨?_, ?_, ?_, ?_, ?_, ?_, ?_, ?_, ?_⟩ <;> go_simp
end Go.Proofs.Yteblglkmkakcjaa

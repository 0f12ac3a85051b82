/- A world's lists as plain data, and as cells. -/
import Derived.Test.YtecjnlekckmhfaaVClone
namespace Go.Proofs.Ytecjnlekckmhfaa
open Go.RowKit
structure Wd where
  k : Int
  n : Int
  s : ByteArray
structure Ins where
  op : Int
  a : Int
  b : Int
  s : ByteArray
  t : ByteArray
  w : Wd
structure Gl where
  name : ByteArray
  w : Wd
structure Fn where
  p : Int
  l : Int
  c : Int
  adr : Option Addr
  cap : Nat
  code : List Ins
structure Sh where
  name : ByteArray
  adr : Option Addr
  cap : Nat
  fs : List ByteArray
structure Mv where
  adr : Option Addr
  cap : Nat
  l : List Int
structure Rc where
  name : ByteArray
  va : Option Addr
  vcap : Nat
  vs : List Sh
  ma : Option Addr
  mcap : Nat
  ms : List Mv
def wdC (x : Wd) : List Value := [.int .i64 x.k, .int .i64 x.n, .string x.s]
def insC (x : Ins) : List Value := [.int .i64 x.op, .int .i64 x.a, .int .i64 x.b, .string x.s, .string x.t, .int .i64 x.w.k, .int .i64 x.w.n, .string x.w.s]
def glC (x : Gl) : List Value := [.string x.name, .int .i64 x.w.k, .int .i64 x.w.n, .string x.w.s]
def fnC (x : Fn) : List Value := [.int .i64 x.p, .int .i64 x.l, .int .i64 x.c, .slice x.adr x.code.length x.cap]
def shC (x : Sh) : List Value := [.string x.name, .slice x.adr x.fs.length x.cap]
def mvC (x : Mv) : List Value := [.slice x.adr x.l.length x.cap]
def rcC (x : Rc) : List Value := [.string x.name, .slice x.va x.vs.length x.vcap, .slice x.ma x.ms.length x.mcap]
def strC (x : ByteArray) : List Value := [.string x]
def intC (x : Int) : List Value := [.int .i64 x]
theorem wdC_len (x : Wd) : (wdC x).length = 3 := rfl
theorem insC_len (x : Ins) : (insC x).length = 8 := rfl
theorem glC_len (x : Gl) : (glC x).length = 4 := rfl
theorem fnC_len (x : Fn) : (fnC x).length = 4 := rfl
theorem shC_len (x : Sh) : (shC x).length = 2 := rfl
theorem mvC_len (x : Mv) : (mvC x).length = 1 := rfl
theorem rcC_len (x : Rc) : (rcC x).length = 3 := rfl
theorem strC_len (x : ByteArray) : (strC x).length = 1 := rfl
theorem intC_len (x : Int) : (intC x).length = 1 := rfl
theorem wdC_one (x : Wd) (u : Value) (h : u ∈ wdC x) : u.oneCell' = true := by
  simp only [wdC, List.mem_cons, List.not_mem_nil, or_false] at h; rcases h with rfl | rfl | rfl <;> rfl
theorem insC_one (x : Ins) (u : Value) (h : u ∈ insC x) : u.oneCell' = true := by
  simp only [insC, List.mem_cons, List.not_mem_nil, or_false] at h; rcases h with rfl | rfl | rfl | rfl | rfl | rfl | rfl | rfl <;> rfl
theorem glC_one (x : Gl) (u : Value) (h : u ∈ glC x) : u.oneCell' = true := by
  simp only [glC, List.mem_cons, List.not_mem_nil, or_false] at h; rcases h with rfl | rfl | rfl | rfl <;> rfl
theorem fnC_one (x : Fn) (u : Value) (h : u ∈ fnC x) : u.oneCell' = true := by
  simp only [fnC, List.mem_cons, List.not_mem_nil, or_false] at h; rcases h with rfl | rfl | rfl | rfl <;> rfl
theorem shC_one (x : Sh) (u : Value) (h : u ∈ shC x) : u.oneCell' = true := by
  simp only [shC, List.mem_cons, List.not_mem_nil, or_false] at h; rcases h with rfl | rfl <;> rfl
theorem mvC_one (x : Mv) (u : Value) (h : u ∈ mvC x) : u.oneCell' = true := by
  simp only [mvC, List.mem_cons, List.not_mem_nil, or_false] at h; rcases h with rfl; rfl
theorem rcC_one (x : Rc) (u : Value) (h : u ∈ rcC x) : u.oneCell' = true := by
  simp only [rcC, List.mem_cons, List.not_mem_nil, or_false] at h; rcases h with rfl | rfl | rfl <;> rfl
theorem strC_one (x : ByteArray) (u : Value) (h : u ∈ strC x) : u.oneCell' = true := by
  simp only [strC, List.mem_cons, List.not_mem_nil, or_false] at h; rcases h with rfl; rfl
theorem intC_one (x : Int) (u : Value) (h : u ∈ intC x) : u.oneCell' = true := by
  simp only [intC, List.mem_cons, List.not_mem_nil, or_false] at h; rcases h with rfl; rfl
/-- What lies behind an element of a list. -/
def subF (w : World) (S : Nat → Prop) (x : Fn) : Prop := Cs w S x.adr (flatC insC x.code)
def subS (w : World) (S : Nat → Prop) (x : Sh) : Prop := Cs w S x.adr (flatC strC x.fs)
def subM (w : World) (S : Nat → Prop) (x : Mv) : Prop := Cs w S x.adr (flatC intC x.l)
structure subR (w : World) (S : Nat → Prop) (x : Rc) : Prop where
  v : Cs w S x.va (flatC shC x.vs)
  vs : ∀ s, s ∈ x.vs → subS w S s
  m : Cs w S x.ma (flatC mvC x.ms)
  ms : ∀ m, m ∈ x.ms → subM w S m
theorem subF_keep {w w' : World} {S S' : Nat → Prop} {x : Fn} (h : subF w S x) (hk : ∀ b, S b → w'.heap[b]? = w.heap[b]?) (hs : ∀ b, S b → S' b) : subF w' S' x := Cs.keep h hk hs
theorem subS_keep {w w' : World} {S S' : Nat → Prop} {x : Sh} (h : subS w S x) (hk : ∀ b, S b → w'.heap[b]? = w.heap[b]?) (hs : ∀ b, S b → S' b) : subS w' S' x := Cs.keep h hk hs
theorem subM_keep {w w' : World} {S S' : Nat → Prop} {x : Mv} (h : subM w S x) (hk : ∀ b, S b → w'.heap[b]? = w.heap[b]?) (hs : ∀ b, S b → S' b) : subM w' S' x := Cs.keep h hk hs
theorem subR_keep {w w' : World} {S S' : Nat → Prop} {x : Rc} (h : subR w S x) (hk : ∀ b, S b → w'.heap[b]? = w.heap[b]?) (hs : ∀ b, S b → S' b) : subR w' S' x :=
  ⟨h.v.keep hk hs, fun s hs' => subS_keep (h.vs s hs') hk hs, h.m.keep hk hs, fun m hm => subM_keep (h.ms m hm) hk hs⟩
/-- The plain data. -/
def datF (x : Fn) : Int × Int × Int × List Ins := (x.p, x.l, x.c, x.code)
def datS (x : Sh) : ByteArray × List ByteArray := (x.name, x.fs)
def datM (x : Mv) : List Int := x.l
def datR (x : Rc) : ByteArray × List (ByteArray × List ByteArray) × List (List Int) := (x.name, x.vs.map datS, x.ms.map datM)
/-- No list is longer than one that can be read. -/
def bigF (x : Fn) : Prop := x.code.length * 88 ≤ 140737488355328
def bigS (x : Sh) : Prop := x.fs.length * 16 ≤ 140737488355328
def bigM (x : Mv) : Prop := x.l.length * 8 ≤ 140737488355328
structure bigR (x : Rc) : Prop where
  v : x.vs.length * 40 ≤ 140737488355328
  vs : ∀ s, s ∈ x.vs → bigS s
  m : x.ms.length * 24 ≤ 140737488355328
  ms : ∀ m, m ∈ x.ms → bigM m
theorem map_get {α δ : Type} {f : α → δ} {l l' : List α} (h : l.map f = l'.map f) (i : Nat) (hi : i < l.length) (hi' : i < l'.length) : f l[i] = f l'[i] := by
  have e1 : (l.map f)[i]'(by simpa using hi) = (l'.map f)[i]'(by simpa using hi') := by simp only [h]
  simpa using e1
theorem map_len {α δ : Type} {f : α → δ} {l l' : List α} (h : l.map f = l'.map f) : l.length = l'.length := by
  have := congrArg List.length h
  simpa using this
end Go.Proofs.Ytecjnlekckmhfaa

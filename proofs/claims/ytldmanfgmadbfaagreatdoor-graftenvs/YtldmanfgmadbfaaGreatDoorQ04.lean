/- Code that may be: what P4.2 and P4.3 say, as plain functions: the program's way and the document's. · A world that came in, opened, with the row's own reach. · A world that came in, opened, with the row's own reach, and what its numbers and texts keep. -/
import Derived.Test.YtldmanfgmadbfaaGreatDoorQ01
import Derived.Test.YtldmanfgmadbfaaGreatDoorQ02
import Derived.Test.YtldmanfgmadbfaaGreatDoorQ03
import Derived.ProofKit
import Derived.OpenShut
import Derived.ShutString
import Derived.ChangeOld
import Derived.Below
import Derived.SizedLaws
import Derived.Deep.Slices
import Derived.Deep.Strs
import Derived.Lib.SmallJoins
namespace Go.Proofs.YtldmanfgmadbfaaGreatDoor
set_option maxRecDepth 100000
open HH UU VV
/-- An operator's effect: takes, more by A, more by B, leaves, goes, may be in a move. -/
structure Eff where
  takes : Int
  byA : Int
  byB : Int
  leaves : Int
  goes : Int
  inMove : Bool
def effs : List Eff := [⟨0, 0, 0, 0, 0, false⟩, ⟨0, 0, 0, 0, 0, true⟩, ⟨0, 0, 0, 1, 0, true⟩, ⟨0, 0, 0, 1, 0, true⟩, ⟨1, 0, 0, 0, 0, false⟩, ⟨0, 0, 0, 1, 0, false⟩, ⟨1, 0, 0, 1, 0, false⟩, ⟨1, 0, 0, 1, 0, false⟩, ⟨2, 0, 0, 0, 0, false⟩, ⟨0, 0, 0, 1, 0, false⟩, ⟨1, 0, 0, 0, 0, false⟩, ⟨0, 0, 1, 1, 0, false⟩,
  ⟨1, 1, 0, 1, 0, false⟩, ⟨1, 1, 0, 1, 3, false⟩, ⟨1, 0, 0, 0, 3, true⟩, ⟨0, 0, 0, 0, 1, true⟩, ⟨1, 0, 0, 0, 2, true⟩, ⟨1, 0, 0, 0, 0, true⟩, ⟨0, 1, 0, 1, 0, true⟩, ⟨0, 1, 0, 1, 0, false⟩, ⟨1, 0, 0, 1, 0, false⟩, ⟨1, 0, 0, 1, 0, false⟩, ⟨2, 0, 0, 1, 0, false⟩]
def effAt (op : Int) : Eff := effs.getD op.toNat ⟨0, 0, 0, 0, 0, false⟩
/-- n is from 0 to below m. -/
def belB (n m : Int) : Bool := decide (0 ≤ n) && decide (n < m)
/-- A value that is no Ref. -/
def plainV (x : Wd) : Bool := wmB x.k x.n x.s && decide (¬ x.k = 5)
/-- What an instruction hangs on: is there a global, a record, of a name; a function's captured values, by its place. -/
structure Ctx where
  globs : List ByteArray
  recs : List ByteArray
  capts : List Int
/-- The program's mayBeInstr. -/
def instrB (c : Ctx) (locals capts : Int) (len : Nat) (i : Ins) : Bool :=
  if i.op = 1 ∨ i.op = 6 ∨ i.op = 7 ∨ i.op = 8 ∨ i.op = 14 ∨ i.op = 17 then true
  else if i.op = 2 then plainV i.w
  else if i.op = 3 ∨ i.op = 4 then belB i.a locals
  else if i.op = 5 then belB i.a capts
  else if i.op = 9 ∨ i.op = 10 then hasS c.globs i.s
  else if i.op = 11 then belB i.a c.capts.length && decide (i.b = c.capts.getD i.a.toNat 0)
  else if i.op = 12 ∨ i.op = 13 then belB i.a 7
  else if i.op = 15 ∨ i.op = 16 then belB i.a len
  else if i.op = 18 then decide (¬ UU.valOf prims i.s.data.toList = 0) && decide (i.a = UU.valOf prims i.s.data.toList)
  else if i.op = 19 then hasS c.recs i.s && belB i.a 7
  else if i.op = 20 ∨ i.op = 21 ∨ i.op = 22 then hasS c.recs i.s
  else false
theorem instrB_op {c : Ctx} {locals capts : Int} {len : Nat} {i : Ins} (h : instrB c locals capts len i = true) : 1 ≤ i.op ∧ i.op ≤ 22 := by
  unfold instrB at h
  repeat' split at h
  all_goals first | omega | (simp at h; done)
/-- How high the stack is behind what an instruction takes. -/
def tookI (h : Int) (i : Ins) : Int :=
  IntKind.i64.wrap (IntKind.i64.wrap (IntKind.i64.wrap (h - (effAt i.op).takes) - IntKind.i64.wrap ((effAt i.op).byA * i.a)) - IntKind.i64.wrap ((effAt i.op).byB * i.b))
def leftI (h : Int) (i : Ins) : Int := IntKind.i64.wrap (tookI h i + (effAt i.op).leaves)
/-- May a way come from one place to another, with so many values? The heights then. -/
def comeI (hs : List Int) (fr to h : Int) : Option (List Int) :=
  if to ≤ fr ∨ (hs.length : Int) ≤ to then none
  else if 0 ≤ hs.getD to.toNat 0 ∧ ¬ hs.getD to.toNat 0 = h then none
  else some (hs.set to.toNat h)
/-- The way goes on behind an instruction. -/
def goI (hs : List Int) (k : Nat) (i : Ins) : Option (List Int) :=
  if tookI (hs.getD k 0) i < 0 then none
  else if 6000 < leftI (hs.getD k 0) i then none
  else if (effAt i.op).goes = 3 then some hs
  else if (effAt i.op).goes = 1 then comeI hs k i.a (leftI (hs.getD k 0) i)
  else if (effAt i.op).goes = 2 then (comeI hs k i.a (leftI (hs.getD k 0) i)).bind fun hs' => comeI hs' k (k + 1) (leftI (hs.getD k 0) i)
  else comeI hs k (k + 1) (leftI (hs.getD k 0) i)
/-- All ways, from a place on. -/
def flowI : List Int → Nat → List Ins → Bool
  | _, _, [] => true
  | hs, k, i :: r => if 0 ≤ hs.getD k 0 then (match goI hs k i with
    | none => false
    | some hs' => flowI hs' (k + 1) r) else flowI hs (k + 1) r
theorem flowI_nil (hs : List Int) (k : Nat) : flowI hs k [] = true := rfl
theorem flowI_skip {hs : List Int} {k : Nat} {i : Ins} {r : List Ins} (h : ¬ 0 ≤ hs.getD k 0) : flowI hs k (i :: r) = flowI hs (k + 1) r := if_neg h
theorem flowI_none {hs : List Int} {k : Nat} {i : Ins} {r : List Ins} (h : 0 ≤ hs.getD k 0) (e : goI hs k i = none) : flowI hs k (i :: r) = false := by
  show (if 0 ≤ hs.getD k 0 then _ else _) = _
  rw [if_pos h, e]
theorem flowI_some {hs hs' : List Int} {k : Nat} {i : Ins} {r : List Ins} (h : 0 ≤ hs.getD k 0) (e : goI hs k i = some hs') : flowI hs k (i :: r) = flowI hs' (k + 1) r := by
  show (if 0 ≤ hs.getD k 0 then _ else _) = _
  rw [if_pos h, e]
def startI (n : Nat) : List Int := (List.replicate n (-1)).set 0 0
/-- The program's mayBeFunc. -/
def headB (p l k : Int) (code : List Ins) : Bool :=
  belB p 7 && decide (p ≤ l) && decide (l ≤ 40) && belB k 41 && decide (1 ≤ code.length) && decide (code.length ≤ 6000) && decide ((code.map Ins.op).getD 0 0 = 1)
def funcB (c : Ctx) (x : VV.Fn) : Bool :=
  headB x.p x.l x.c x.code && x.code.all (instrB c x.l x.c x.code.length) && flowI (startI x.code.length) 0 x.code
/-! The document's. -/
def takeD (i : Ins) : Int :=
  if i.op = 4 ∨ i.op = 6 ∨ i.op = 7 ∨ i.op = 10 ∨ i.op = 14 ∨ i.op = 16 ∨ i.op = 17 ∨ i.op = 20 ∨ i.op = 21 then 1
  else if i.op = 8 ∨ i.op = 22 then 2
  else if i.op = 11 then i.b
  else if i.op = 12 ∨ i.op = 13 then IntKind.i64.wrap (i.a + 1)
  else if i.op = 18 ∨ i.op = 19 then i.a
  else 0
def leaveD (i : Ins) : Int :=
  if i.op = 2 ∨ i.op = 3 ∨ i.op = 5 ∨ i.op = 6 ∨ i.op = 7 ∨ i.op = 9 ∨ i.op = 11 ∨ i.op = 12 ∨ i.op = 13 ∨ i.op = 18 ∨ i.op = 19 ∨ i.op = 20 ∨ i.op = 21 ∨ i.op = 22 then 1 else 0
def comeD (ds : List Int) (k : Nat) (to h : Int) : Option (List Int) :=
  if inB to (k + 1) (ds.length - 1) = false then none
  else if ¬ ds.getD to.toNat 0 = 0 ∧ ¬ ds.getD to.toNat 0 = h then none
  else some (ds.set to.toNat h)
def allD (k : Nat) (h : Int) : List Int → List Int → Option (List Int)
  | ds, [] => some ds
  | ds, t :: r => (comeD ds k t h).bind fun ds' => allD k h ds' r
def nextD (k : Nat) (i : Ins) : List Int :=
  (if i.op = 16 ∨ i.op = 15 then [i.a] else []) ++ (if ¬ i.op = 15 ∧ ¬ i.op = 14 ∧ ¬ i.op = 13 then [(k : Int) + 1] else [])
def leftD (d : Int) (i : Ins) : Int := IntKind.i64.wrap (IntKind.i64.wrap (d - takeD i) + leaveD i)
def stepD (ds : List Int) (k : Nat) (i : Ins) : Option (List Int) :=
  if IntKind.i64.wrap (ds.getD k 0 - 1) < takeD i ∨ 6000 < IntKind.i64.wrap (leftD (ds.getD k 0) i - 1) then none
  else allD k (leftD (ds.getD k 0) i) ds (nextD k i)
def flowD (ok : Ins → Bool) : List Int → Nat → List Ins → Bool
  | _, _, [] => true
  | ds, k, i :: r => if ok i = false then false else if ds.getD k 0 = 0 then flowD ok ds (k + 1) r else (match stepD ds k i with
    | none => false
    | some ds' => flowD ok ds' (k + 1) r)
theorem flowD_nil (ok : Ins → Bool) (hs : List Int) (k : Nat) : flowD ok hs k [] = true := rfl
theorem flowD_bad {ok : Ins → Bool} {hs : List Int} {k : Nat} {i : Ins} {r : List Ins} (h : ok i = false) : flowD ok hs k (i :: r) = false := if_pos h
theorem flowD_skip {ok : Ins → Bool} {hs : List Int} {k : Nat} {i : Ins} {r : List Ins} (h : ok i = true) (h0 : hs.getD k 0 = 0) : flowD ok hs k (i :: r) = flowD ok hs (k + 1) r := by
  show (if ok i = false then _ else if hs.getD k 0 = 0 then _ else _) = _
  rw [if_neg (by rw [h]; decide), if_pos h0]
theorem flowD_none {ok : Ins → Bool} {hs : List Int} {k : Nat} {i : Ins} {r : List Ins} (h : ok i = true) (h0 : ¬ hs.getD k 0 = 0) (e : stepD hs k i = none) : flowD ok hs k (i :: r) = false := by
  show (if ok i = false then _ else if hs.getD k 0 = 0 then _ else _) = _
  rw [if_neg (by rw [h]; decide), if_neg h0, e]
theorem flowD_some {ok : Ins → Bool} {hs hs' : List Int} {k : Nat} {i : Ins} {r : List Ins} (h : ok i = true) (h0 : ¬ hs.getD k 0 = 0) (e : stepD hs k i = some hs') : flowD ok hs k (i :: r) = flowD ok hs' (k + 1) r := by
  show (if ok i = false then _ else if hs.getD k 0 = 0 then _ else _) = _
  rw [if_neg (by rw [h]; decide), if_neg h0, e]
def startD (n : Nat) : List Int := (List.replicate n 0).set 0 1
def funcD (c : Ctx) (x : VV.Fn) : Bool :=
  headB x.p x.l x.c x.code && flowD (instrB c x.l x.c x.code.length) (startD x.code.length) 0 x.code
/-! Both are one, where no function has more captured values than may be. -/
def fineC (c : Ctx) : Prop := ∀ k, k ∈ c.capts → belB k 41 = true
def rise (hs : List Int) : List Int := hs.map (· + 1)
def LowH (hs : List Int) : Prop := ∀ h, h ∈ hs → -1 ≤ h ∧ h ≤ 6000
theorem rise_len (hs : List Int) : (rise hs).length = hs.length := by simp [rise]
theorem rise_get {hs : List Int} {k : Nat} (h : k < hs.length) : (rise hs).getD k 0 = hs.getD k 0 + 1 := by
  unfold rise
  rw [List.getD_eq_getElem?_getD, List.getD_eq_getElem?_getD, List.getElem?_map, List.getElem?_eq_getElem h]; rfl
theorem rise_set (hs : List Int) (k : Nat) (h : Int) : (rise hs).set k (h + 1) = rise (hs.set k h) := by simp [rise, List.map_set]
theorem low_get {hs : List Int} (hl : LowH hs) {k : Nat} (h : k < hs.length) : -1 ≤ hs.getD k 0 ∧ hs.getD k 0 ≤ 6000 := by
  rw [List.getD_eq_getElem?_getD, List.getElem?_eq_getElem h]; exact hl _ (List.getElem_mem h)
theorem low_set {hs : List Int} (hl : LowH hs) (k : Nat) {h : Int} (h1 : -1 ≤ h) (h2 : h ≤ 6000) : LowH (hs.set k h) := by
  intro x hx
  rcases List.mem_or_eq_of_mem_set hx with hx | rfl
  · exact hl x hx
  · exact ⟨h1, h2⟩
theorem wrap_small {x : Int} (h1 : -1000000 ≤ x) (h2 : x ≤ 1000000) : IntKind.i64.wrap x = x := by
  have : IntKind.i64.wrap x = x := by
    simp only [IntKind.wrap, IntKind.signed, IntKind.bits]
    try simp
    omega
  exact this
theorem come_same {hs : List Int} {k : Nat} {to h : Int} (hl : LowH hs) (_h1 : 0 ≤ h) (_h2 : h ≤ 6000) (_hk : k < hs.length) :
    comeD (rise hs) k to (h + 1) = (comeI hs k to h).map rise := by
  unfold comeD comeI
  rw [rise_len]
  by_cases ha : to ≤ (k : Int) ∨ (hs.length : Int) ≤ to
  · rw [if_pos ha, if_pos (by unfold inB; simp; omega)]; rfl
  · have ht : to.toNat < hs.length := by omega
    have hlo := low_get hl ht
    rw [if_neg ha, if_neg (by unfold inB; simp; omega), rise_get ht]
    by_cases hb : 0 ≤ hs.getD to.toNat 0 ∧ ¬ hs.getD to.toNat 0 = h
    · rw [if_pos hb, if_pos (by omega)]; rfl
    · rw [if_neg hb, if_neg (by omega), rise_set]; rfl
theorem come_low {hs hs' : List Int} {fr to h : Int} (hl : LowH hs) (h1 : -1 ≤ h) (h2 : h ≤ 6000) (e : comeI hs fr to h = some hs') : LowH hs' ∧ hs'.length = hs.length := by
  unfold comeI at e
  split at e
  · cases e
  · split at e
    · cases e
    · injection e with e
      rw [← e]
      exact ⟨low_set hl _ h1 h2, List.length_set⟩
/-- What an instruction takes and leaves, where it may be. -/
theorem took_same {c : Ctx} (hc : fineC c) {l k : Int} {n : Nat} {i : Ins} (ho : instrB c l k n i = true) :
    takeD i = (effAt i.op).takes + (effAt i.op).byA * i.a + (effAt i.op).byB * i.b ∧ leaveD i = (effAt i.op).leaves ∧
    -100 ≤ (effAt i.op).byA * i.a ∧ (effAt i.op).byA * i.a ≤ 100 ∧ -100 ≤ (effAt i.op).byB * i.b ∧ (effAt i.op).byB * i.b ≤ 100 ∧ 0 ≤ (effAt i.op).takes ∧ (effAt i.op).takes ≤ 2 ∧ 0 ≤ (effAt i.op).leaves ∧ (effAt i.op).leaves ≤ 1 ∧
    nextD n i = (if (effAt i.op).goes = 3 then [] else if (effAt i.op).goes = 1 then [i.a] else if (effAt i.op).goes = 2 then [i.a, (n : Int) + 1] else [(n : Int) + 1]) := by
  have hop := instrB_op ho
  obtain ⟨op, a, b, s, t, w⟩ := i
  dsimp only at hop ⊢
  have hcase : op = 1 ∨ op = 2 ∨ op = 3 ∨ op = 4 ∨ op = 5 ∨ op = 6 ∨ op = 7 ∨ op = 8 ∨ op = 9 ∨ op = 10 ∨ op = 11 ∨ op = 12 ∨ op = 13 ∨ op = 14 ∨ op = 15 ∨ op = 16 ∨ op = 17 ∨ op = 18 ∨ op = 19 ∨ op = 20 ∨ op = 21 ∨ op = 22 := by omega
  have hpr : ∀ l : List UInt8, 0 ≤ UU.valOf prims l ∧ UU.valOf prims l ≤ 2 := by
    intro l
    have : ∀ m : List (List UInt8 × Int), (∀ p ∈ m, 0 ≤ p.2 ∧ p.2 ≤ 2) → 0 ≤ UU.valOf m l ∧ UU.valOf m l ≤ 2 := by
      intro m
      induction m with
      | nil => intro _; simp [UU.valOf]
      | cons p r ih =>
        intro h
        unfold UU.valOf
        split
        · exact h p List.mem_cons_self
        · exact ih fun q hq => h q (List.mem_cons_of_mem _ hq)
    exact this prims (by decide)
  have hk : ∀ j : Nat, 0 ≤ c.capts.getD j 0 ∧ c.capts.getD j 0 ≤ 40 := by
    intro j
    rw [List.getD_eq_getElem?_getD]
    rcases Nat.lt_or_ge j c.capts.length with h | h
    · rw [List.getElem?_eq_getElem h]
      have := hc _ (List.getElem_mem h)
      unfold belB at this; simp at this
      simp only [Option.getD_some]; omega
    · rw [List.getElem?_eq_none h]; simp
  rcases hcase with rfl | rfl | rfl | rfl | rfl | rfl | rfl | rfl | rfl | rfl | rfl | rfl | rfl | rfl | rfl | rfl | rfl | rfl | rfl | rfl | rfl | rfl
  all_goals simp [takeD, leaveD, nextD, effAt, effs, instrB, belB] at ho ⊢
  case inr.inr.inr.inr.inr.inr.inr.inr.inr.inr.inl =>
    have := hk a.toNat
    rw [List.getD_eq_getElem?_getD] at this
    omega
  all_goals first
    | omega
    | (rw [wrap_small (by omega) (by omega)]; omega)
    | (have := hpr s.data.toList; omega)
theorem step_same {c : Ctx} (hc : fineC c) {l k : Int} {n m : Nat} {i : Ins} (ho : instrB c l k n i = true) {hs : List Int} (hl : LowH hs) (hm : m < hs.length) (h0 : 0 ≤ hs.getD m 0) :
    stepD (rise hs) m i = (goI hs m i).map rise := by
  have hnx : nextD m i = (if (effAt i.op).goes = 3 then [] else if (effAt i.op).goes = 1 then [i.a] else if (effAt i.op).goes = 2 then [i.a, (m : Int) + 1] else [(m : Int) + 1]) := by
    have h : instrB c l k n i = true := ho
    have hop := instrB_op ho
    obtain ⟨op, a, b, s, t, w⟩ := i
    dsimp only at hop ⊢
    have hcase : op = 1 ∨ op = 2 ∨ op = 3 ∨ op = 4 ∨ op = 5 ∨ op = 6 ∨ op = 7 ∨ op = 8 ∨ op = 9 ∨ op = 10 ∨ op = 11 ∨ op = 12 ∨ op = 13 ∨ op = 14 ∨ op = 15 ∨ op = 16 ∨ op = 17 ∨ op = 18 ∨ op = 19 ∨ op = 20 ∨ op = 21 ∨ op = 22 := by omega
    rcases hcase with rfl | rfl | rfl | rfl | rfl | rfl | rfl | rfl | rfl | rfl | rfl | rfl | rfl | rfl | rfl | rfl | rfl | rfl | rfl | rfl | rfl | rfl
    all_goals simp [nextD, effAt, effs]
  obtain ⟨e1, e2, a1, a2, b1, b2, t1, t2, l1, l2, _⟩ := took_same hc ho
  have hg := low_get hl hm
  have et : tookI (hs.getD m 0) i = hs.getD m 0 - takeD i := by
    unfold tookI
    rw [wrap_small (x := hs.getD m 0 - (effAt i.op).takes) (by omega) (by omega), wrap_small (x := (effAt i.op).byA * i.a) (by omega) (by omega), wrap_small (x := (effAt i.op).byB * i.b) (by omega) (by omega),
      wrap_small (x := hs.getD m 0 - (effAt i.op).takes - (effAt i.op).byA * i.a) (by omega) (by omega), wrap_small (by omega) (by omega)]
    omega
  have el : leftI (hs.getD m 0) i = hs.getD m 0 - takeD i + leaveD i := by
    unfold leftI
    rw [et, wrap_small (by omega) (by omega)]; omega
  have ed : leftD (hs.getD m 0 + 1) i = leftI (hs.getD m 0) i + 1 := by
    unfold leftD
    rw [el, wrap_small (x := hs.getD m 0 + 1 - takeD i) (by omega) (by omega), wrap_small (by omega) (by omega)]; omega
  unfold stepD goI
  rw [rise_get hm, ed, wrap_small (x := hs.getD m 0 + 1 - 1) (by omega) (by omega), wrap_small (x := leftI (hs.getD m 0) i + 1 - 1) (by omega) (by omega)]
  by_cases hx : tookI (hs.getD m 0) i < 0
  · rw [if_pos hx, if_pos (by omega)]; rfl
  · rw [if_neg hx]
    by_cases hy : 6000 < leftI (hs.getD m 0) i
    · rw [if_pos hy, if_pos (by omega)]; rfl
    · rw [if_neg hy, if_neg (by omega), hnx]
      have hlo : 0 ≤ leftI (hs.getD m 0) i := by omega
      generalize leftI (hs.getD m 0) i = g at hlo hy
      split
      · rfl
      · split
        · simp only [allD]
          rw [come_same hl hlo (by omega) hm]
          cases comeI hs m i.a g <;> rfl
        · split
          · simp only [allD]
            rw [come_same hl hlo (by omega) hm]
            cases e : comeI hs m i.a g with
            | none => rfl
            | some hs' =>
              obtain ⟨q1, q2⟩ := come_low hl (by omega) (by omega) e
              simp only [Option.map_some, Option.bind_some]
              rw [come_same q1 hlo (by omega) (by omega)]
              cases comeI hs' m (m + 1) g <;> rfl
          · simp only [allD]
            rw [come_same hl hlo (by omega) hm]
            cases comeI hs m (m + 1) g <;> rfl
theorem go_low {c : Ctx} (hc : fineC c) {l k : Int} {n m : Nat} {i : Ins} (ho : instrB c l k n i = true) {hs hs' : List Int} (hl : LowH hs) (hm : m < hs.length) (h0 : 0 ≤ hs.getD m 0) (e : goI hs m i = some hs') : LowH hs' ∧ hs'.length = hs.length := by
  obtain ⟨e1, e2, a1, a2, b1, b2, t1, t2, l1, l2, _⟩ := took_same hc ho
  have hg := low_get hl hm
  have et : tookI (hs.getD m 0) i = hs.getD m 0 - takeD i := by
    unfold tookI
    rw [wrap_small (x := hs.getD m 0 - (effAt i.op).takes) (by omega) (by omega), wrap_small (x := (effAt i.op).byA * i.a) (by omega) (by omega), wrap_small (x := (effAt i.op).byB * i.b) (by omega) (by omega),
      wrap_small (x := hs.getD m 0 - (effAt i.op).takes - (effAt i.op).byA * i.a) (by omega) (by omega), wrap_small (by omega) (by omega)]
    omega
  have el : leftI (hs.getD m 0) i = hs.getD m 0 - takeD i + leaveD i := by
    unfold leftI
    rw [et, wrap_small (by omega) (by omega)]; omega
  unfold goI at e
  split at e
  · cases e
  split at e
  · cases e
  split at e
  · injection e with e; rw [← e]; exact ⟨hl, rfl⟩
  split at e
  · exact come_low hl (by omega) (by omega) e
  split at e
  · obtain ⟨h1, e1', e2'⟩ := Option.bind_eq_some_iff.1 e
    obtain ⟨q1, q2⟩ := come_low hl (by omega) (by omega) e1'
    obtain ⟨r1, r2⟩ := come_low q1 (by omega) (by omega) e2'
    exact ⟨r1, r2.trans q2⟩
  · exact come_low hl (by omega) (by omega) e
theorem flow_same (ok : Ins → Bool) (hok : ∀ (i : Ins) (m : Nat) (hs : List Int), ok i = true → LowH hs → m < hs.length → 0 ≤ hs.getD m 0 → stepD (rise hs) m i = (goI hs m i).map rise ∧ ∀ hs', goI hs m i = some hs' → LowH hs' ∧ hs'.length = hs.length) (r : List Ins) :
    ∀ (m : Nat) (hs : List Int), LowH hs → m + r.length ≤ hs.length → flowD ok (rise hs) m r = (r.all ok && flowI hs m r) := by
  induction r with
  | nil => intro m hs _ _; rw [flowD_nil, flowI_nil]; rfl
  | cons i r ih =>
    intro m hs hl hn
    have hn2 : m + (r.length + 1) ≤ hs.length := hn
    have hm : m < hs.length := by omega
    have hg := low_get hl hm
    rw [List.all_cons]
    cases ho : ok i with
    | false => rw [flowD_bad ho]; rfl
    | true =>
      rw [Bool.true_and]
      by_cases h0 : 0 ≤ hs.getD m 0
      · obtain ⟨hst, hlw⟩ := hok i m hs ho hl hm h0
        cases e : goI hs m i with
        | none => rw [flowI_none h0 e, flowD_none ho (by rw [rise_get hm]; omega) (by rw [hst, e]; rfl), Bool.and_false]
        | some hs' =>
          obtain ⟨q1, q2⟩ := hlw hs' e
          rw [flowI_some h0 e, flowD_some ho (by rw [rise_get hm]; omega) (by rw [hst, e]; rfl)]
          exact ih (m + 1) hs' q1 (by omega)
      · rw [flowI_skip h0, flowD_skip ho (by rw [rise_get hm]; omega)]
        exact ih (m + 1) hs hl (by omega)
theorem func_same {c : Ctx} (hc : fineC c) (x : VV.Fn) : funcD c x = funcB c x := by
  unfold funcD funcB
  cases hh : headB x.p x.l x.c x.code with
  | false => simp
  | true =>
    have hn : 1 ≤ x.code.length := by unfold headB at hh; simp at hh; omega
    have hs : startD x.code.length = rise (startI x.code.length) := by
      unfold startD startI
      rw [← rise_set, rise]
      simp
    rw [hs, Bool.true_and, Bool.true_and]
    refine flow_same _ (fun i m hs ho hl hm h0 => ⟨step_same hc ho hl hm h0, fun hs' e => go_low hc ho hl hm h0 e⟩) x.code 0 (startI x.code.length) ?_ (by unfold startI; simp)
    refine low_set ?_ 0 (by omega) (by omega)
    intro h hm
    have := List.eq_of_mem_replicate hm
    omega
theorem head_capts {x : VV.Fn} {c : Ctx} (h : funcB c x = true) : belB x.c 41 = true := by
  unfold funcB headB at h
  simp only [Bool.and_eq_true] at h
  exact h.1.1.1.1.1.2
theorem head_capts' {x : VV.Fn} {c : Ctx} (h : funcD c x = true) : belB x.c 41 = true := by
  unfold funcD headB at h
  simp only [Bool.and_eq_true] at h
  exact h.1.1.1.1.2
/-- All functions of a world. -/
theorem funcs_same (c : Ctx) (l : List VV.Fn) (hc : c.capts = l.map VV.Fn.c) : l.all (funcB c) = l.all (funcD c) := by
  have key : ∀ f : VV.Fn → Bool, (∀ x : VV.Fn, f x = true → belB x.c 41 = true) → l.all f = true → fineC c := by
    intro f hf h k hk
    rw [hc] at hk
    obtain ⟨x, hx, rfl⟩ := List.mem_map.1 hk
    exact hf x (List.all_eq_true.1 h x hx)
  by_cases hb : fineC c
  · congr 1; funext x; exact (func_same hb x).symm
  · cases h1 : l.all (funcB c) with
    | true => exact absurd (key _ (fun x => head_capts) h1) hb
    | false =>
      cases h2 : l.all (funcD c) with
      | true => exact absurd (key _ (fun x => head_capts') h2) hb
      | false => rfl
end Go.Proofs.YtldmanfgmadbfaaGreatDoor
namespace Go.Proofs.YtldmanfgmadbfaaGreatDoor.VV
set_option maxRecDepth 100000
open Go.ChangeShapes Go.WideShapes Go.ChangeAt Go.RowKit
theorem exists_list {α : Type} {P : Nat → α → Prop} : ∀ n, (∀ i, i < n → ∃ x, P i x) → ∃ l : List α, l.length = n ∧ ∀ i (hi : i < l.length), P i l[i]
  | 0, _ => ⟨[], rfl, fun i hi => absurd hi (by simp)⟩
  | n + 1, h => by
    obtain ⟨l, hl, hp⟩ := exists_list n (fun i hi => h i (by omega))
    obtain ⟨x, hx⟩ := h n (by omega)
    refine ⟨l ++ [x], by simp [hl], fun i hi => ?_⟩
    by_cases hlt : i < l.length
    · rw [List.getElem_append_left hlt]; exact hp i hlt
    · have : i = l.length := by simp at hi; omega
      subst this
      rw [List.getElem_append_right (Nat.le_refl _)]
      simpa [hl] using hx
theorem weightsAll_mem {H : Type} {P : Program} {e : TypeId} : ∀ {l : List (DataW H)} {d : DataW H}, d ∈ l → ∀ n ∈ d.weights P e, n ∈ DataW.weightsAll P e l
  | d' :: r, d, hd, n, hn => by
    simp only [DataW.weightsAll, List.mem_append]
    rcases List.mem_cons.1 hd with rfl | h
    · exact Or.inl hn
    · exact Or.inr (weightsAll_mem h n hn)
/-- Nothing of it is beyond the reach. -/
def InR {H : Type} (P : Program) (t : TypeId) (d : DataW H) : Prop := ∀ n, n ∈ d.weights P t → n ≤ 140737488351232
theorem InR.field {H : Type} {P : Program} {t : TypeId} {fs : Array Field} {parts : List (DataW H)} (h : InR P t (.agg parts)) (ht : P.underlying t = some (.struct fs)) {j : Nat} {f : Field} {d : DataW H} (hf : fs[j]? = some f) (hd : parts[j]? = some d) : InR P f.type d := by
  intro n hn
  refine h n ?_
  simp only [DataW.weights, ht]
  exact DataW.weights_mem_each (by simp [hf]) hd n hn
theorem open_list {α H : Type} {enc : TypeId × Value → H} {P : Program} {W : World} {c : α → List Value} {Q : α → Prop} {t e : TypeId} {k y : Nat} (ht : P.underlying t = some (.slice e)) (hk : P.cellsOf e = k) (hk0 : 0 < k) (hc : ∀ x, (c x).length = k) (hby : P.bytesOf e = y)
    (hel : ∀ fuel cs' (z : DataW H × List MemPlace), DataW.trod enc P W 0 (fun _ => true) true fuel e cs' = some z → cs'.length = k → InR P e z.1 → ∃ x : α, cs' = c x ∧ Q x)
    {fuel : Nat} {v : Value} {z : DataW H × List MemPlace} (h : DataW.trod enc P W 0 (fun _ => true) true fuel t [v] = some z) (hw : InR P t z.1) :
    ∃ a cap l, v = .slice a (List.length l) cap ∧ l.length * y ≤ 140737488351232 ∧ Cs W (fun b => b < W.heap.size) a (flatC c l) ∧ ∀ x, x ∈ l → Q x := by
  rcases Deep.open_slice ht h with ⟨hcs, _⟩ | ⟨a, len, cap, m, n, D, Pl, hcs, _, hl, hm, hmm, rfl, helm⟩
  · exact ⟨none, 0, [], by simpa using hcs, by simp, Cs.nil _ _ _, fun x hx => by cases hx⟩
  · simp at hmm
    have hone : ∀ i, i < len → ∃ x : α, W.cells? 0 (a.add (i * k)) k = some (c x) ∧ Q x := by
      intro i hi
      obtain ⟨cs', h1, h2⟩ := helm i (by omega)
      rw [hk] at h1
      have hlen := (World.cells?_some h1).2.1
      obtain ⟨x, hx, hq⟩ := hel n cs' _ h2 hlen (fun q hq => hw q (by
        simp only [DataW.weights, ht, List.mem_cons, List.mem_append]
        exact Or.inr (Or.inl (weightsAll_mem (List.mem_map.2 ⟨i, by simpa using hi, rfl⟩) q hq))))
      exact ⟨x, by rw [h1, hx], hq⟩
    obtain ⟨l, hll, hp⟩ := exists_list len hone
    refine ⟨some a, cap, l, by rw [hll]; simpa using hcs, ?_, ?_, fun x hx => ?_⟩
    · have h1 := hw ((len + (m - len)) * y) (by
        simp only [DataW.weights, ht, List.mem_cons, hby]
        exact Or.inl (by simp))
      rw [hll]
      exact Nat.le_trans (Nat.mul_le_mul_right y (by omega)) h1
    · intro j u hj
      have hj2 : j < l.length * k := by rw [← flatC_length hc]; exact (List.getElem?_eq_some_iff.1 hj).1
      have hi : j / k < l.length := Nat.div_lt_of_lt_mul (by rw [Nat.mul_comm]; exact hj2)
      have hr : j % k < k := Nat.mod_lt _ hk0
      have hjk : j / k * k + j % k = j := by rw [Nat.mul_comm]; exact Nat.div_add_mod j k
      have e1 := flatC_at hc l (j / k) hi (j % k) hr
      rw [hjk, hj] at e1
      obtain ⟨h1, _⟩ := hp (j / k) hi
      obtain ⟨_, hlen, hcell⟩ := World.cells?_some h1
      have hc1 := hcell (j % k) hr
      rw [Deep.add_add, hjk, ← e1] at hc1
      obtain ⟨b, off, spot⟩ := a
      have hspot : spot = none := by
        have hl0 : 0 < l.length := Nat.lt_of_le_of_lt (Nat.zero_le _) hi
        obtain ⟨h10, _⟩ := hp 0 hl0
        obtain ⟨_, _, hcell0⟩ := World.cells?_some h10
        have q0 := hcell0 0 hk0
        obtain ⟨u0, hu0⟩ : ∃ u0, (c (l[0]'hl0))[0]? = some u0 := ⟨(c (l[0]'hl0))[0]'(by rw [hc]; exact hk0), List.getElem?_eq_getElem _⟩
        rw [hu0] at q0
        simpa [Addr.add] using World.cell?_spot (by simpa [Addr.add] using q0)
      subst hspot
      rw [add_plain] at hc1
      exact ⟨b, off, rfl, World.block_lt_of_cell? _ _ hc1, hc1⟩
    · obtain ⟨i, hi, rfl⟩ := List.getElem_of_mem hx
      exact (hp i hi).2
theorem cellsI : Tryz.prog.cellsOf 3 = 1 := by kernel_rfl
theorem cellsS : Tryz.prog.cellsOf 9 = 1 := by kernel_rfl
theorem cellsWd : Tryz.prog.cellsOf 51 = 3 := by kernel_rfl
theorem cellsIns : Tryz.prog.cellsOf 89 = 8 := by kernel_rfl
theorem cellsGl : Tryz.prog.cellsOf 53 = 4 := by kernel_rfl
theorem cellsFn : Tryz.prog.cellsOf 63 = 4 := by kernel_rfl
theorem cellsSh : Tryz.prog.cellsOf 65 = 2 := by kernel_rfl
theorem cellsRc : Tryz.prog.cellsOf 58 = 3 := by kernel_rfl
theorem cellsHp : Tryz.prog.cellsOf 27 = 2 := by kernel_rfl
theorem cellsWo : Tryz.prog.cellsOf 29 = 5 := by kernel_rfl
theorem cells_is : Tryz.prog.cellsOf 86 = 1 := by kernel_rfl
theorem cells_ss : Tryz.prog.cellsOf 33 = 1 := by kernel_rfl
theorem cells_ins : Tryz.prog.cellsOf 61 = 1 := by kernel_rfl
theorem cells_shs : Tryz.prog.cellsOf 34 = 1 := by kernel_rfl
theorem cells_mvs : Tryz.prog.cellsOf 56 = 1 := by kernel_rfl
theorem cells_fns : Tryz.prog.cellsOf 22 = 1 := by kernel_rfl
theorem cells_gls : Tryz.prog.cellsOf 23 = 1 := by kernel_rfl
theorem cells_rcs : Tryz.prog.cellsOf 24 = 1 := by kernel_rfl
theorem cells_wds : Tryz.prog.cellsOf 25 = 1 := by kernel_rfl
section
variable {H : Type} {enc : TypeId × Value → H} {W : World} {fuel : Nat} {z : DataW H × List MemPlace}
theorem el_str (cs' : List Value) (h : DataW.trod enc Tryz.prog W 0 (fun _ => true) true fuel 9 cs' = some z) : ∃ x, cs' = strC x ∧ True := by
  obtain ⟨s, e, _, _⟩ := DataW.trod_string Tryz.underlying9 h
  exact ⟨s, e, trivial⟩
theorem el_int (cs' : List Value) (h : DataW.trod enc Tryz.prog W 0 (fun _ => true) true fuel 3 cs' = some z) : ∃ x, cs' = intC x ∧ True := by
  obtain ⟨s, e, _, _⟩ := DataW.trod_int Tryz.underlying3 h
  exact ⟨s, e, trivial⟩
theorem el_wd (cs' : List Value) (h : DataW.trod enc Tryz.prog W 0 (fun _ => true) true fuel 51 cs' = some z) (hl : cs'.length = 3) : ∃ x, cs' = wdC x ∧ True := by
  obtain ⟨y0, y1, y2, n', _, _, t0, t1, t2⟩ := Deep.trod_struct3 Tryz.underlying51 h
  match cs', hl with
  | [u0, u1, u2], _ =>
    simp [cellsS, cellsI] at t0 t1 t2
    obtain ⟨k, e0, _, _⟩ := DataW.trod_int Tryz.underlying3 t0
    obtain ⟨nn, e1, _, _⟩ := DataW.trod_int Tryz.underlying3 t1
    obtain ⟨ss, e2, _, _⟩ := DataW.trod_string Tryz.underlying9 t2
    simp at e0 e1 e2
    subst e0 e1 e2
    exact ⟨⟨k, nn, ss⟩, rfl, trivial⟩
theorem trod_struct6 {P : Program} {t : TypeId} {f0 f1 f2 f3 f4 f5 : Field} {cs : List Value} {x : DataW H × List MemPlace} (ht : P.underlying t = some (.struct #[f0, f1, f2, f3, f4, f5])) (h : DataW.trod enc P W 0 (fun _ => true) true fuel t cs = some x) :
    ∃ y0 y1 y2 y3 y4 y5 n, DataW.trod enc P W 0 (fun _ => true) true n f0.type ((cs.drop f0.offset).take (P.cellsOf f0.type)) = some y0 ∧ DataW.trod enc P W 0 (fun _ => true) true n f1.type ((cs.drop f1.offset).take (P.cellsOf f1.type)) = some y1 ∧ DataW.trod enc P W 0 (fun _ => true) true n f2.type ((cs.drop f2.offset).take (P.cellsOf f2.type)) = some y2 ∧
      DataW.trod enc P W 0 (fun _ => true) true n f3.type ((cs.drop f3.offset).take (P.cellsOf f3.type)) = some y3 ∧ DataW.trod enc P W 0 (fun _ => true) true n f4.type ((cs.drop f4.offset).take (P.cellsOf f4.type)) = some y4 ∧ DataW.trod enc P W 0 (fun _ => true) true n f5.type ((cs.drop f5.offset).take (P.cellsOf f5.type)) = some y5 := by
  obtain ⟨xs, n, _, rfl, hl, hlen, hf⟩ := DataW.trod_struct ht h
  match xs, hlen with
  | [y0, y1, y2, y3, y4, y5], _ => exact ⟨y0, y1, y2, y3, y4, y5, n, by simpa using hf 0 f0 rfl, by simpa using hf 1 f1 rfl, by simpa using hf 2 f2 rfl, by simpa using hf 3 f3 rfl, by simpa using hf 4 f4 rfl, by simpa using hf 5 f5 rfl⟩
theorem el_ins (cs' : List Value) (h : DataW.trod enc Tryz.prog W 0 (fun _ => true) true fuel 89 cs' = some z) (hl : cs'.length = 8) : ∃ x, cs' = insC x ∧ True := by
  obtain ⟨y0, y1, y2, y3, y4, y5, n', t0, t1, t2, t3, t4, t5⟩ := trod_struct6 Tryz.underlying89 h
  match cs', hl with
  | [u0, u1, u2, u3, u4, u5, u6, u7], _ =>
    simp [cellsS, cellsI, cellsWd] at t0 t1 t2 t3 t4 t5
    obtain ⟨k0, e0, _, _⟩ := DataW.trod_int Tryz.underlying3 t0
    obtain ⟨k1, e1, _, _⟩ := DataW.trod_int Tryz.underlying3 t1
    obtain ⟨k2, e2, _, _⟩ := DataW.trod_int Tryz.underlying3 t2
    obtain ⟨k3, e3, _, _⟩ := DataW.trod_string Tryz.underlying9 t3
    obtain ⟨k4, e4, _, _⟩ := DataW.trod_string Tryz.underlying9 t4
    obtain ⟨w, e5, _⟩ := el_wd _ t5 rfl
    unfold wdC at e5
    simp at e0 e1 e2 e3 e4 e5
    obtain ⟨e5, e6, e7⟩ := e5
    subst e0 e1 e2 e3 e4 e5 e6 e7
    exact ⟨⟨k0, k1, k2, k3, k4, w⟩, rfl, trivial⟩
theorem el_gl (cs' : List Value) (h : DataW.trod enc Tryz.prog W 0 (fun _ => true) true fuel 53 cs' = some z) (hl : cs'.length = 4) : ∃ x, cs' = glC x ∧ True := by
  obtain ⟨y0, y1, n', _, _, t0, t1⟩ := ChangeShapes.trod_struct2 Tryz.underlying53 h
  match cs', hl with
  | [u0, u1, u2, u3], _ =>
    simp [cellsS, cellsWd] at t0 t1
    obtain ⟨k0, e0, _, _⟩ := DataW.trod_string Tryz.underlying9 t0
    obtain ⟨w, e5, _⟩ := el_wd _ t1 rfl
    unfold wdC at e5
    simp at e0 e5
    obtain ⟨e5, e6, e7⟩ := e5
    subst e0 e5 e6 e7
    exact ⟨⟨k0, w⟩, rfl, trivial⟩
theorem el_mv (cs' : List Value) (h : DataW.trod enc Tryz.prog W 0 (fun _ => true) true fuel 86 cs' = some z) (hl : cs'.length = 1) (hw : InR Tryz.prog 86 z.1) : ∃ x, cs' = mvC x ∧ subM W (fun b => b < W.heap.size) x ∧ bigM x := by
  match cs', hl with
  | [v], _ =>
    obtain ⟨a, cap, l, rfl, h1, h2, _⟩ := open_list (c := intC) (Q := fun _ => True) Tryz.underlying86 cellsI (by omega) intC_len (y := 8) (by kernel_rfl) (fun _ cs' _ h _ _ => el_int cs' h) h hw
    exact ⟨⟨a, cap, l⟩, rfl, h2, by unfold bigM; dsimp only; omega⟩
theorem el_sh (cs' : List Value) (h : DataW.trod enc Tryz.prog W 0 (fun _ => true) true fuel 65 cs' = some z) (hl : cs'.length = 2) (hw : InR Tryz.prog 65 z.1) : ∃ x, cs' = shC x ∧ subS W (fun b => b < W.heap.size) x ∧ bigS x := by
  obtain ⟨y0, y1, n', rfl, _, t0, t1⟩ := ChangeShapes.trod_struct2 Tryz.underlying65 h
  match cs', hl with
  | [u0, u1], _ =>
    simp [cellsS, cells_ss] at t0 t1
    obtain ⟨nm, e0, _, _⟩ := DataW.trod_string Tryz.underlying9 t0
    simp at e0
    subst e0
    obtain ⟨a, cap, l, rfl, h1, h2, _⟩ := open_list (c := strC) (Q := fun _ => True) Tryz.underlying33 cellsS (by omega) strC_len (y := 16) (by kernel_rfl) (fun _ cs' _ h _ _ => el_str cs' h) t1 (hw.field Tryz.underlying65 (j := 1) rfl rfl)
    exact ⟨⟨nm, a, cap, l⟩, rfl, h2, by unfold bigS; dsimp only; omega⟩
theorem el_fn (cs' : List Value) (h : DataW.trod enc Tryz.prog W 0 (fun _ => true) true fuel 63 cs' = some z) (hl : cs'.length = 4) (hw : InR Tryz.prog 63 z.1) : ∃ x, cs' = fnC x ∧ subF W (fun b => b < W.heap.size) x ∧ bigF x := by
  obtain ⟨y0, y1, y2, y3, n', rfl, _, t0, t1, t2, t3⟩ := Joins.trod_struct4 Tryz.underlying63 h
  match cs', hl with
  | [u0, u1, u2, u3], _ =>
    simp [cellsI, cells_ins] at t0 t1 t2 t3
    obtain ⟨k0, e0, _, _⟩ := DataW.trod_int Tryz.underlying3 t0
    obtain ⟨k1, e1, _, _⟩ := DataW.trod_int Tryz.underlying3 t1
    obtain ⟨k2, e2, _, _⟩ := DataW.trod_int Tryz.underlying3 t2
    simp at e0 e1 e2
    subst e0 e1 e2
    obtain ⟨a, cap, l, rfl, h1, h2, _⟩ := open_list (c := insC) (Q := fun _ => True) Tryz.underlying61 cellsIns (by omega) insC_len (y := 88) (by kernel_rfl) (fun _ cs' _ h hl _ => el_ins cs' h hl) t3 (hw.field Tryz.underlying63 (j := 3) rfl rfl)
    exact ⟨⟨k0, k1, k2, a, cap, l⟩, rfl, h2, by unfold bigF; dsimp only; omega⟩
theorem el_rc (cs' : List Value) (h : DataW.trod enc Tryz.prog W 0 (fun _ => true) true fuel 58 cs' = some z) (hl : cs'.length = 3) (hw : InR Tryz.prog 58 z.1) : ∃ x, cs' = rcC x ∧ subR W (fun b => b < W.heap.size) x ∧ bigR x := by
  obtain ⟨y0, y1, y2, n', rfl, _, t0, t1, t2⟩ := Deep.trod_struct3 Tryz.underlying58 h
  match cs', hl with
  | [u0, u1, u2], _ =>
    simp [cellsS, cells_shs, cells_mvs] at t0 t1 t2
    obtain ⟨nm, e0, _, _⟩ := DataW.trod_string Tryz.underlying9 t0
    simp at e0
    subst e0
    obtain ⟨a, cap, l, rfl, h1, h2, h3⟩ := open_list (c := shC) (Q := fun x => subS W (fun b => b < W.heap.size) x ∧ bigS x) Tryz.underlying34 cellsSh (by omega) shC_len (y := 40) (by kernel_rfl) (fun _ cs' _ h hl hw => el_sh cs' h hl hw) t1 (hw.field Tryz.underlying58 (j := 1) rfl rfl)
    obtain ⟨a', cap', l', rfl, h1', h2', h3'⟩ := open_list (c := mvC) (Q := fun x => subM W (fun b => b < W.heap.size) x ∧ bigM x) Tryz.underlying56 cells_is (by omega) mvC_len (y := 24) (by kernel_rfl) (fun _ cs' _ h hl hw => el_mv cs' h hl hw) t2 (hw.field Tryz.underlying58 (j := 2) rfl rfl)
    exact ⟨⟨nm, a, cap, l, a', cap', l'⟩, rfl, ⟨h2, fun s hs => (h3 s hs).1, h2', fun s hs => (h3' s hs).1⟩, ⟨by dsimp only; omega, fun s hs => (h3 s hs).2, by dsimp only; omega, fun s hs => (h3' s hs).2⟩⟩
theorem array5 {α : Type} {cs : Array α} (h : cs.size = 5) : ∃ c0 c1 c2 c3 c4, cs = #[c0, c1, c2, c3, c4] := by
  obtain ⟨l⟩ := cs
  match l, h with
  | [c0, c1, c2, c3, c4], _ => exact ⟨c0, c1, c2, c3, c4, rfl⟩
theorem open_world {v : Value} {d : DataW H} {p : List MemPlace} {base : Nat} (hv : Value.okWide Tryz.prog W .any base 29 v) (h : DataW.Trod enc Tryz.prog W 0 (fun _ => true) true 29 v d p) (hw : InR Tryz.prog 29 d) :
    ∃ (x : Wv) (lim : Int), v = .agg #[.slice x.fa x.fs.length x.fcap, .slice x.ga x.gs.length x.gcap, .slice x.ra x.rs.length x.rcap, .slice x.ha x.hs.length x.hcap, .int .i64 lim] ∧ subW W (fun b => b < W.heap.size) x ∧ bigW x := by
  obtain ⟨cs, rfl, hsz⟩ := okWide_struct Tryz.underlying29 hv
  obtain ⟨c0, c1, c2, c3, c4, rfl⟩ := array5 (hsz.trans cellsWo)
  obtain ⟨fuel, hf⟩ := h
  obtain ⟨y0, y1, y2, y3, n', hx, _, t0, t1, t2, t3⟩ := Joins.trod_struct4 Tryz.underlying29 hf
  simp only [Prod.mk.injEq] at hx
  obtain ⟨rfl, _⟩ := hx
  simp [Value.cells, cells_fns, cells_gls, cells_rcs, cellsHp] at t0 t1 t2 t3
  have hw3 := hw.field Tryz.underlying29 (j := 3) rfl rfl
  obtain ⟨z0, z1, n'', rfl, _, s0, s1⟩ := ChangeShapes.trod_struct2 Tryz.underlying27 t3
  simp [cells_wds, cellsI] at s0 s1
  obtain ⟨lim, e4, _, _⟩ := DataW.trod_int Tryz.underlying3 s1
  simp at e4
  subst e4
  obtain ⟨a1, p1, l1, rfl, h11, h12, h13⟩ := open_list (c := fnC) (Q := fun x => subF W (fun b => b < W.heap.size) x ∧ bigF x) Tryz.underlying22 cellsFn (by omega) fnC_len (y := 48) (by kernel_rfl) (fun _ cs' _ h hl hw => el_fn cs' h hl hw) t0 (hw.field Tryz.underlying29 (j := 0) rfl rfl)
  obtain ⟨a2, p2, l2, rfl, h21, h22, _⟩ := open_list (c := glC) (Q := fun _ => True) Tryz.underlying23 cellsGl (by omega) glC_len (y := 48) (by kernel_rfl) (fun _ cs' _ h hl _ => el_gl cs' h hl) t1 (hw.field Tryz.underlying29 (j := 1) rfl rfl)
  obtain ⟨a3, p3, l3, rfl, h31, h32, h33⟩ := open_list (c := rcC) (Q := fun x => subR W (fun b => b < W.heap.size) x ∧ bigR x) Tryz.underlying24 cellsRc (by omega) rcC_len (y := 64) (by kernel_rfl) (fun _ cs' _ h hl hw => el_rc cs' h hl hw) t2 (hw.field Tryz.underlying29 (j := 2) rfl rfl)
  obtain ⟨a4, p4, l4, rfl, h41, h42, _⟩ := open_list (c := wdC) (Q := fun _ => True) Tryz.underlying25 cellsWd (by omega) wdC_len (y := 32) (by kernel_rfl) (fun _ cs' _ h hl _ => el_wd cs' h hl) s0 (hw3.field Tryz.underlying27 (j := 0) rfl rfl)
  exact ⟨⟨a1, p1, l1, a2, p2, l2, a3, p3, l3, a4, p4, l4⟩, lim, rfl, ⟨h12, fun y hy => (h13 y hy).1, h22, h32, fun y hy => (h33 y hy).1, h42⟩, ⟨by dsimp only; omega, fun y hy => (h13 y hy).2, by dsimp only; omega, by dsimp only; omega, fun y hy => (h33 y hy).2, by dsimp only; omega⟩⟩
end
end Go.Proofs.YtldmanfgmadbfaaGreatDoor.VV
namespace Go.Proofs.YtldmanfgmadbfaaGreatDoor
set_option maxRecDepth 100000
open HH UU VV
open Go.ChangeShapes Go.WideShapes Go.ChangeAt Go.RowKit
abbrev wfN (k : Int) : Prop := (Lit.int .i64 k).wf = true
structure wfWd (x : Wd) : Prop where
  k : wfN x.k
  n : wfN x.n
  s : x.s.size ≤ maxLen
structure wfIns (x : Ins) : Prop where
  op : wfN x.op
  a : wfN x.a
  b : wfN x.b
  s : x.s.size ≤ maxLen
  t : x.t.size ≤ maxLen
  w : wfWd x.w
structure wfGl (x : Gl) : Prop where
  name : x.name.size ≤ maxLen
  w : wfWd x.w
structure wfFn (x : VV.Fn) : Prop where
  p : wfN x.p
  l : wfN x.l
  c : wfN x.c
  cap : x.code.length ≤ x.cap
  code : ∀ i, i ∈ x.code → wfIns i
structure wfSh (x : VV.Sh) : Prop where
  name : x.name.size ≤ maxLen
  cap : x.fs.length ≤ x.cap
  fs : ∀ s, s ∈ x.fs → s.size ≤ maxLen
structure wfMv (x : Mv) : Prop where
  cap : x.l.length ≤ x.cap
  l : ∀ n, n ∈ x.l → wfN n
structure wfRc (x : Rc) : Prop where
  name : x.name.size ≤ maxLen
  vcap : x.vs.length ≤ x.vcap
  vs : ∀ s, s ∈ x.vs → wfSh s
  mcap : x.ms.length ≤ x.mcap
  ms : ∀ s, s ∈ x.ms → wfMv s
structure wfW (x : Wv) : Prop where
  fcap : x.fs.length ≤ x.fcap
  fs : ∀ y, y ∈ x.fs → wfFn y
  gcap : x.gs.length ≤ x.gcap
  gs : ∀ y, y ∈ x.gs → wfGl y
  rcap : x.rs.length ≤ x.rcap
  rs : ∀ y, y ∈ x.rs → wfRc y
  hcap : x.hs.length ≤ x.hcap
  hs : ∀ y, y ∈ x.hs → wfWd y
theorem open_list {α H : Type} {enc : TypeId × Value → H} {P : Program} {W : World} {c : α → List Value} {Q : α → Prop} {t e : TypeId} {k y : Nat} (ht : P.underlying t = some (.slice e)) (hk : P.cellsOf e = k) (hk0 : 0 < k) (hc : ∀ x, (c x).length = k) (hby : P.bytesOf e = y)
    (hel : ∀ fuel cs' (z : DataW H × List MemPlace), DataW.trod enc P W 0 (fun _ => true) true fuel e cs' = some z → cs'.length = k → VV.InR P e z.1 → ∃ x : α, cs' = c x ∧ Q x)
    {fuel : Nat} {v : Value} {z : DataW H × List MemPlace} (h : DataW.trod enc P W 0 (fun _ => true) true fuel t [v] = some z) (hw : VV.InR P t z.1) :
    ∃ a cap l, v = .slice a (List.length l) cap ∧ l.length ≤ cap ∧ l.length * y ≤ 140737488351232 ∧ Cs W (fun b => b < W.heap.size) a (flatC c l) ∧ ∀ x, x ∈ l → Q x := by
  rcases Deep.open_slice ht h with ⟨hcs, _⟩ | ⟨a, len, cap, m, n, D, Pl, hcs, _, hl, hm, hmm, rfl, helm⟩
  · exact ⟨none, 0, [], by simpa using hcs, Nat.le_refl _, by simp, Cs.nil _ _ _, fun x hx => by cases hx⟩
  · simp at hmm
    have hone : ∀ i, i < len → ∃ x : α, W.cells? 0 (a.add (i * k)) k = some (c x) ∧ Q x := by
      intro i hi
      obtain ⟨cs', h1, h2⟩ := helm i (by omega)
      rw [hk] at h1
      have hlen := (World.cells?_some h1).2.1
      obtain ⟨x, hx, hq⟩ := hel n cs' _ h2 hlen (fun q hq => hw q (by
        simp only [DataW.weights, ht, List.mem_cons, List.mem_append]
        exact Or.inr (Or.inl (weightsAll_mem (List.mem_map.2 ⟨i, by simpa using hi, rfl⟩) q hq))))
      exact ⟨x, by rw [h1, hx], hq⟩
    obtain ⟨l, hll, hp⟩ := exists_list len hone
    refine ⟨some a, cap, l, by rw [hll]; simpa using hcs, by rw [hll]; exact hl, ?_, ?_, fun x hx => ?_⟩
    · have h1 := hw ((len + (m - len)) * y) (by
        simp only [DataW.weights, ht, List.mem_cons, hby]
        exact Or.inl (by simp))
      rw [hll]
      exact Nat.le_trans (Nat.mul_le_mul_right y (by omega)) h1
    · intro j u hj
      have hj2 : j < l.length * k := by rw [← flatC_length hc]; exact (List.getElem?_eq_some_iff.1 hj).1
      have hi : j / k < l.length := Nat.div_lt_of_lt_mul (by rw [Nat.mul_comm]; exact hj2)
      have hr : j % k < k := Nat.mod_lt _ hk0
      have hjk : j / k * k + j % k = j := by rw [Nat.mul_comm]; exact Nat.div_add_mod j k
      have e1 := flatC_at hc l (j / k) hi (j % k) hr
      rw [hjk, hj] at e1
      obtain ⟨h1, _⟩ := hp (j / k) hi
      obtain ⟨_, hlen, hcell⟩ := World.cells?_some h1
      have hc1 := hcell (j % k) hr
      rw [Deep.add_add, hjk, ← e1] at hc1
      obtain ⟨b, off, spot⟩ := a
      have hspot : spot = none := by
        have hl0 : 0 < l.length := Nat.lt_of_le_of_lt (Nat.zero_le _) hi
        obtain ⟨h10, _⟩ := hp 0 hl0
        obtain ⟨_, _, hcell0⟩ := World.cells?_some h10
        have q0 := hcell0 0 hk0
        obtain ⟨u0, hu0⟩ : ∃ u0, (c (l[0]'hl0))[0]? = some u0 := ⟨(c (l[0]'hl0))[0]'(by rw [hc]; exact hk0), List.getElem?_eq_getElem _⟩
        rw [hu0] at q0
        simpa [Addr.add] using World.cell?_spot (by simpa [Addr.add] using q0)
      subst hspot
      rw [add_plain] at hc1
      exact ⟨b, off, rfl, World.block_lt_of_cell? _ _ hc1, hc1⟩
    · obtain ⟨i, hi, rfl⟩ := List.getElem_of_mem hx
      exact (hp i hi).2
section
variable {H : Type} {enc : TypeId × Value → H} {W : World} {fuel : Nat} {z : DataW H × List MemPlace}
theorem el_str (cs' : List Value) (h : DataW.trod enc Tryz.prog W 0 (fun _ => true) true fuel 9 cs' = some z) : ∃ x : ByteArray, cs' = strC x ∧ x.size ≤ maxLen := by
  obtain ⟨s, e, _, g⟩ := DataW.trod_string Tryz.underlying9 h
  exact ⟨s, e, g⟩
theorem el_int (cs' : List Value) (h : DataW.trod enc Tryz.prog W 0 (fun _ => true) true fuel 3 cs' = some z) : ∃ x : Int, cs' = intC x ∧ wfN x := by
  obtain ⟨s, e, _, g⟩ := DataW.trod_int Tryz.underlying3 h
  exact ⟨s, e, g⟩
theorem el_wd (cs' : List Value) (h : DataW.trod enc Tryz.prog W 0 (fun _ => true) true fuel 51 cs' = some z) (hl : cs'.length = 3) : ∃ x : Wd, cs' = wdC x ∧ wfWd x := by
  obtain ⟨y0, y1, y2, n', _, _, t0, t1, t2⟩ := Deep.trod_struct3 Tryz.underlying51 h
  match cs', hl with
  | [u0, u1, u2], _ =>
    simp [cellsS, cellsI] at t0 t1 t2
    obtain ⟨k, e0, _, g0⟩ := DataW.trod_int Tryz.underlying3 t0
    obtain ⟨nn, e1, _, g1⟩ := DataW.trod_int Tryz.underlying3 t1
    obtain ⟨ss, e2, _, g2⟩ := DataW.trod_string Tryz.underlying9 t2
    simp at e0 e1 e2
    subst e0 e1 e2
    exact ⟨⟨k, nn, ss⟩, rfl, ⟨g0, g1, g2⟩⟩
theorem el_ins (cs' : List Value) (h : DataW.trod enc Tryz.prog W 0 (fun _ => true) true fuel 89 cs' = some z) (hl : cs'.length = 8) : ∃ x : Ins, cs' = insC x ∧ wfIns x := by
  obtain ⟨y0, y1, y2, y3, y4, y5, n', t0, t1, t2, t3, t4, t5⟩ := trod_struct6 Tryz.underlying89 h
  match cs', hl with
  | [u0, u1, u2, u3, u4, u5, u6, u7], _ =>
    simp [cellsS, cellsI, cellsWd] at t0 t1 t2 t3 t4 t5
    obtain ⟨k0, e0, _, g0⟩ := DataW.trod_int Tryz.underlying3 t0
    obtain ⟨k1, e1, _, g1⟩ := DataW.trod_int Tryz.underlying3 t1
    obtain ⟨k2, e2, _, g2⟩ := DataW.trod_int Tryz.underlying3 t2
    obtain ⟨k3, e3, _, g3⟩ := DataW.trod_string Tryz.underlying9 t3
    obtain ⟨k4, e4, _, g4⟩ := DataW.trod_string Tryz.underlying9 t4
    obtain ⟨w, e5, g5⟩ := el_wd _ t5 rfl
    unfold wdC at e5
    simp at e0 e1 e2 e3 e4 e5
    obtain ⟨e5, e6, e7⟩ := e5
    subst e0 e1 e2 e3 e4 e5 e6 e7
    exact ⟨⟨k0, k1, k2, k3, k4, w⟩, rfl, ⟨g0, g1, g2, g3, g4, g5⟩⟩
theorem el_gl (cs' : List Value) (h : DataW.trod enc Tryz.prog W 0 (fun _ => true) true fuel 53 cs' = some z) (hl : cs'.length = 4) : ∃ x : Gl, cs' = glC x ∧ wfGl x := by
  obtain ⟨y0, y1, n', _, _, t0, t1⟩ := ChangeShapes.trod_struct2 Tryz.underlying53 h
  match cs', hl with
  | [u0, u1, u2, u3], _ =>
    simp [cellsS, cellsWd] at t0 t1
    obtain ⟨k0, e0, _, g0⟩ := DataW.trod_string Tryz.underlying9 t0
    obtain ⟨w, e5, g5⟩ := el_wd _ t1 rfl
    unfold wdC at e5
    simp at e0 e5
    obtain ⟨e5, e6, e7⟩ := e5
    subst e0 e5 e6 e7
    exact ⟨⟨k0, w⟩, rfl, ⟨g0, g5⟩⟩
theorem el_mv (cs' : List Value) (h : DataW.trod enc Tryz.prog W 0 (fun _ => true) true fuel 86 cs' = some z) (hl : cs'.length = 1) (hw : VV.InR Tryz.prog 86 z.1) : ∃ x : Mv, cs' = mvC x ∧ subM W (fun b => b < W.heap.size) x ∧ bigM x ∧ wfMv x := by
  match cs', hl with
  | [v], _ =>
    obtain ⟨a, cap, l, rfl, hc, h1, h2, h3⟩ := open_list (c := intC) (Q := fun n => wfN n) Tryz.underlying86 cellsI (by omega) intC_len (y := 8) (by kernel_rfl) (fun _ cs' _ h _ _ => el_int cs' h) h hw
    exact ⟨⟨a, cap, l⟩, rfl, h2, by unfold bigM; dsimp only; omega, ⟨hc, h3⟩⟩
theorem el_sh (cs' : List Value) (h : DataW.trod enc Tryz.prog W 0 (fun _ => true) true fuel 65 cs' = some z) (hl : cs'.length = 2) (hw : VV.InR Tryz.prog 65 z.1) : ∃ x : VV.Sh, cs' = shC x ∧ subS W (fun b => b < W.heap.size) x ∧ bigS x ∧ wfSh x := by
  obtain ⟨y0, y1, n', rfl, _, t0, t1⟩ := ChangeShapes.trod_struct2 Tryz.underlying65 h
  match cs', hl with
  | [u0, u1], _ =>
    simp [cellsS, cells_ss] at t0 t1
    obtain ⟨nm, e0, _, g0⟩ := DataW.trod_string Tryz.underlying9 t0
    simp at e0
    subst e0
    obtain ⟨a, cap, l, rfl, hc, h1, h2, h3⟩ := open_list (c := strC) (Q := fun n => n.size ≤ maxLen) Tryz.underlying33 cellsS (by omega) strC_len (y := 16) (by kernel_rfl) (fun _ cs' _ h _ _ => el_str cs' h) t1 (hw.field Tryz.underlying65 (j := 1) rfl rfl)
    exact ⟨⟨nm, a, cap, l⟩, rfl, h2, by unfold bigS; dsimp only; omega, ⟨g0, hc, h3⟩⟩
theorem el_fn (cs' : List Value) (h : DataW.trod enc Tryz.prog W 0 (fun _ => true) true fuel 63 cs' = some z) (hl : cs'.length = 4) (hw : VV.InR Tryz.prog 63 z.1) : ∃ x : VV.Fn, cs' = fnC x ∧ subF W (fun b => b < W.heap.size) x ∧ bigF x ∧ wfFn x := by
  obtain ⟨y0, y1, y2, y3, n', rfl, _, t0, t1, t2, t3⟩ := Joins.trod_struct4 Tryz.underlying63 h
  match cs', hl with
  | [u0, u1, u2, u3], _ =>
    simp [cellsI, cells_ins] at t0 t1 t2 t3
    obtain ⟨k0, e0, _, g0⟩ := DataW.trod_int Tryz.underlying3 t0
    obtain ⟨k1, e1, _, g1⟩ := DataW.trod_int Tryz.underlying3 t1
    obtain ⟨k2, e2, _, g2⟩ := DataW.trod_int Tryz.underlying3 t2
    simp at e0 e1 e2
    subst e0 e1 e2
    obtain ⟨a, cap, l, rfl, hc, h1, h2, h3⟩ := open_list (c := insC) (Q := wfIns) Tryz.underlying61 cellsIns (by omega) insC_len (y := 88) (by kernel_rfl) (fun _ cs' _ h hl _ => el_ins cs' h hl) t3 (hw.field Tryz.underlying63 (j := 3) rfl rfl)
    exact ⟨⟨k0, k1, k2, a, cap, l⟩, rfl, h2, by unfold bigF; dsimp only; omega, ⟨g0, g1, g2, hc, h3⟩⟩
theorem el_rc (cs' : List Value) (h : DataW.trod enc Tryz.prog W 0 (fun _ => true) true fuel 58 cs' = some z) (hl : cs'.length = 3) (hw : VV.InR Tryz.prog 58 z.1) : ∃ x : Rc, cs' = rcC x ∧ subR W (fun b => b < W.heap.size) x ∧ bigR x ∧ wfRc x := by
  obtain ⟨y0, y1, y2, n', rfl, _, t0, t1, t2⟩ := Deep.trod_struct3 Tryz.underlying58 h
  match cs', hl with
  | [u0, u1, u2], _ =>
    simp [cellsS, cells_shs, cells_mvs] at t0 t1 t2
    obtain ⟨nm, e0, _, g0⟩ := DataW.trod_string Tryz.underlying9 t0
    simp at e0
    subst e0
    obtain ⟨a, cap, l, rfl, hc, h1, h2, h3⟩ := open_list (c := shC) (Q := fun x => subS W (fun b => b < W.heap.size) x ∧ bigS x ∧ wfSh x) Tryz.underlying34 cellsSh (by omega) shC_len (y := 40) (by kernel_rfl) (fun _ cs' _ h hl hw => el_sh cs' h hl hw) t1 (hw.field Tryz.underlying58 (j := 1) rfl rfl)
    obtain ⟨a', cap', l', rfl, hc', h1', h2', h3'⟩ := open_list (c := mvC) (Q := fun x => subM W (fun b => b < W.heap.size) x ∧ bigM x ∧ wfMv x) Tryz.underlying56 cells_is (by omega) mvC_len (y := 24) (by kernel_rfl) (fun _ cs' _ h hl hw => el_mv cs' h hl hw) t2 (hw.field Tryz.underlying58 (j := 2) rfl rfl)
    exact ⟨⟨nm, a, cap, l, a', cap', l'⟩, rfl, ⟨h2, fun s hs => (h3 s hs).1, h2', fun s hs => (h3' s hs).1⟩, ⟨by dsimp only; omega, fun s hs => (h3 s hs).2.1, by dsimp only; omega, fun s hs => (h3' s hs).2.1⟩, ⟨g0, hc, fun s hs => (h3 s hs).2.2, hc', fun s hs => (h3' s hs).2.2⟩⟩
theorem array5 {α : Type} {cs : Array α} (h : cs.size = 5) : ∃ c0 c1 c2 c3 c4, cs = #[c0, c1, c2, c3, c4] := by
  obtain ⟨l⟩ := cs
  match l, h with
  | [c0, c1, c2, c3, c4], _ => exact ⟨c0, c1, c2, c3, c4, rfl⟩
theorem open_world {v : Value} {d : DataW H} {p : List MemPlace} {base : Nat} (hv : Value.okWide Tryz.prog W .any base 29 v) (h : DataW.Trod enc Tryz.prog W 0 (fun _ => true) true 29 v d p) (hw : VV.InR Tryz.prog 29 d) :
    ∃ (x : Wv) (lim : Int), v = .agg #[.slice x.fa x.fs.length x.fcap, .slice x.ga x.gs.length x.gcap, .slice x.ra x.rs.length x.rcap, .slice x.ha x.hs.length x.hcap, .int .i64 lim] ∧ subW W (fun b => b < W.heap.size) x ∧ bigW x ∧ wfW x ∧ wfN lim := by
  obtain ⟨cs, rfl, hsz⟩ := okWide_struct Tryz.underlying29 hv
  obtain ⟨c0, c1, c2, c3, c4, rfl⟩ := array5 (hsz.trans cellsWo)
  obtain ⟨fuel, hf⟩ := h
  obtain ⟨y0, y1, y2, y3, n', hx, _, t0, t1, t2, t3⟩ := Joins.trod_struct4 Tryz.underlying29 hf
  simp only [Prod.mk.injEq] at hx
  obtain ⟨rfl, _⟩ := hx
  simp [Value.cells, cells_fns, cells_gls, cells_rcs, cellsHp] at t0 t1 t2 t3
  have hw3 := hw.field Tryz.underlying29 (j := 3) rfl rfl
  obtain ⟨z0, z1, n'', rfl, _, s0, s1⟩ := ChangeShapes.trod_struct2 Tryz.underlying27 t3
  simp [cells_wds, cellsI] at s0 s1
  obtain ⟨lim, e4, _, g4⟩ := DataW.trod_int Tryz.underlying3 s1
  simp at e4
  subst e4
  obtain ⟨a1, p1, l1, rfl, hc1, h11, h12, h13⟩ := open_list (c := fnC) (Q := fun x => subF W (fun b => b < W.heap.size) x ∧ bigF x ∧ wfFn x) Tryz.underlying22 cellsFn (by omega) fnC_len (y := 48) (by kernel_rfl) (fun _ cs' _ h hl hw => el_fn cs' h hl hw) t0 (hw.field Tryz.underlying29 (j := 0) rfl rfl)
  obtain ⟨a2, p2, l2, rfl, hc2, h21, h22, h23⟩ := open_list (c := glC) (Q := wfGl) Tryz.underlying23 cellsGl (by omega) glC_len (y := 48) (by kernel_rfl) (fun _ cs' _ h hl _ => el_gl cs' h hl) t1 (hw.field Tryz.underlying29 (j := 1) rfl rfl)
  obtain ⟨a3, p3, l3, rfl, hc3, h31, h32, h33⟩ := open_list (c := rcC) (Q := fun x => subR W (fun b => b < W.heap.size) x ∧ bigR x ∧ wfRc x) Tryz.underlying24 cellsRc (by omega) rcC_len (y := 64) (by kernel_rfl) (fun _ cs' _ h hl hw => el_rc cs' h hl hw) t2 (hw.field Tryz.underlying29 (j := 2) rfl rfl)
  obtain ⟨a4, p4, l4, rfl, hc4, h41, h42, h43⟩ := open_list (c := wdC) (Q := wfWd) Tryz.underlying25 cellsWd (by omega) wdC_len (y := 32) (by kernel_rfl) (fun _ cs' _ h hl _ => el_wd cs' h hl) s0 (hw3.field Tryz.underlying27 (j := 0) rfl rfl)
  exact ⟨⟨a1, p1, l1, a2, p2, l2, a3, p3, l3, a4, p4, l4⟩, lim, rfl, ⟨h12, fun y hy => (h13 y hy).1, h22, h32, fun y hy => (h33 y hy).1, h42⟩, ⟨by dsimp only; omega, fun y hy => (h13 y hy).2.1, by dsimp only; omega, by dsimp only; omega, fun y hy => (h33 y hy).2.1, by dsimp only; omega⟩,
    ⟨hc1, fun y hy => (h13 y hy).2.2, hc2, h23, hc3, fun y hy => (h33 y hy).2.2, hc4, h43⟩, g4⟩
end
end Go.Proofs.YtldmanfgmadbfaaGreatDoor

/- What a walk over a world wants: elements of lists, the laid effects, maps by names, views. · vm's small ones: isBelow, isPlain, what the finders tell, valuesOn's closure, isNotInMove. · May a move be: vm's isNotInMove over code, mayBeMoves. -/
import Derived.Test.YtldmanfgmadbfaaGreatDoorQ04
import Derived.Test.YtldmanfgmadbfaaGreatDoorQ06
import Derived.Test.YtldmanfgmadbfaaGreatDoorQ07
import Derived.Test.YtldmanfgmadbfaaGreatDoorQ02
namespace Go.Proofs.YtldmanfgmadbfaaGreatDoor
set_option maxRecDepth 100000
open HH UU VV
open Go.RowKit Go.Maps Go.WideMaps
theorem hid {p : Prop} (h : p) : Hid p := h
theorem ret_bool {a b : Bool} (h : a = b) : Ending.returned (.bool a) = .returned (.bool b) := by rw [h]
theorem ret_int {k : IntKind} {a b : Int} (h : a = b) : Ending.returned (.int k a) = .returned (.int k b) := by rw [h]
theorem bdrew {B : Nat} {a w : World} (h : Below B a w) (n : Nat) : Below B a (w.drewN n) := ⟨h.os, h.tape, h.output, h.size, h.block⟩
theorem Cs.below {w w' : World} {B B' : Nat} {a : Option Addr} {cs : List Value} (h : Cs w (fun b => b < B) a cs) (hb : Below B w w') (hB : B ≤ B') : Cs w' (fun b => b < B') a cs :=
  h.keep (fun b hb' => hb.block b hb') (fun _ hb' => Nat.lt_of_lt_of_le hb' hB)
/-! Elements. -/
theorem el_at {α : Type} {c : α → List Value} {k : Nat} {w : World} {S : Nat → Prop} {a : Option Addr} {l : List α} (hc : ∀ x, (c x).length = k) (hk : 0 < k) (h : Cs w S a (flatC c l)) {i : Nat} (hi : i < l.length) :
    ∃ b o, a = some ⟨b, o, none⟩ ∧ S b ∧ ∀ j u, j < k → (c l[i])[j]? = some u → w.cell? ⟨b, o + i * k + j, none⟩ = some u := by
  have e0 := flatC_at hc l i hi 0 hk
  obtain ⟨u0, hu0⟩ : ∃ u0, (c l[i])[0]? = some u0 := ⟨(c l[i])[0]'(by rw [hc]; exact hk), List.getElem?_eq_getElem _⟩
  obtain ⟨b, o, e, hs, _⟩ := h (i * k + 0) u0 (by rw [e0]; exact hu0)
  refine ⟨b, o, e, hs, fun j u hj hu => ?_⟩
  subst e
  have := (h.at (j := i * k + j) (u := u) (by rw [flatC_at hc l i hi j hj]; exact hu)).1
  rw [← Nat.add_assoc] at this
  exact this
theorem fn_at {w : World} {S : Nat → Prop} {a : Option Addr} {l : List VV.Fn} (h : Cs w S a (flatC fnC l)) {i : Nat} (hi : i < l.length) :
    ∃ b o, a = some ⟨b, o, none⟩ ∧ S b ∧ w.cell? ⟨b, o + i * 4, none⟩ = some (.int .i64 l[i].p) ∧ w.cell? ⟨b, o + i * 4 + 1, none⟩ = some (.int .i64 l[i].l) ∧ w.cell? ⟨b, o + i * 4 + 2, none⟩ = some (.int .i64 l[i].c) ∧ w.cell? ⟨b, o + i * 4 + 3, none⟩ = some (.slice l[i].adr l[i].code.length l[i].cap) := by
  obtain ⟨b, o, e, hs, H⟩ := el_at fnC_len (by omega) h hi
  exact ⟨b, o, e, hs, H 0 _ (by omega) rfl, H 1 _ (by omega) rfl, H 2 _ (by omega) rfl, H 3 _ (by omega) rfl⟩
theorem ins_at {w : World} {S : Nat → Prop} {a : Option Addr} {l : List Ins} (h : Cs w S a (flatC insC l)) {i : Nat} (hi : i < l.length) :
    ∃ b o, a = some ⟨b, o, none⟩ ∧ S b ∧ w.cell? ⟨b, o + i * 8, none⟩ = some (.int .i64 l[i].op) ∧ w.cell? ⟨b, o + i * 8 + 1, none⟩ = some (.int .i64 l[i].a) ∧ w.cell? ⟨b, o + i * 8 + 2, none⟩ = some (.int .i64 l[i].b) ∧ w.cell? ⟨b, o + i * 8 + 3, none⟩ = some (.string l[i].s) ∧
      w.cell? ⟨b, o + i * 8 + 4, none⟩ = some (.string l[i].t) ∧ w.cell? ⟨b, o + i * 8 + 5, none⟩ = some (.int .i64 l[i].w.k) ∧ w.cell? ⟨b, o + i * 8 + 6, none⟩ = some (.int .i64 l[i].w.n) ∧ w.cell? ⟨b, o + i * 8 + 7, none⟩ = some (.string l[i].w.s) := by
  obtain ⟨b, o, e, hs, H⟩ := el_at insC_len (by omega) h hi
  exact ⟨b, o, e, hs, H 0 _ (by omega) rfl, H 1 _ (by omega) rfl, H 2 _ (by omega) rfl, H 3 _ (by omega) rfl, H 4 _ (by omega) rfl, H 5 _ (by omega) rfl, H 6 _ (by omega) rfl, H 7 _ (by omega) rfl⟩
theorem gl_at {w : World} {S : Nat → Prop} {a : Option Addr} {l : List Gl} (h : Cs w S a (flatC glC l)) {i : Nat} (hi : i < l.length) :
    ∃ b o, a = some ⟨b, o, none⟩ ∧ S b ∧ w.cell? ⟨b, o + i * 4, none⟩ = some (.string l[i].name) ∧ w.cell? ⟨b, o + i * 4 + 1, none⟩ = some (.int .i64 l[i].w.k) ∧ w.cell? ⟨b, o + i * 4 + 2, none⟩ = some (.int .i64 l[i].w.n) ∧ w.cell? ⟨b, o + i * 4 + 3, none⟩ = some (.string l[i].w.s) := by
  obtain ⟨b, o, e, hs, H⟩ := el_at glC_len (by omega) h hi
  exact ⟨b, o, e, hs, H 0 _ (by omega) rfl, H 1 _ (by omega) rfl, H 2 _ (by omega) rfl, H 3 _ (by omega) rfl⟩
theorem rc_at {w : World} {S : Nat → Prop} {a : Option Addr} {l : List Rc} (h : Cs w S a (flatC rcC l)) {i : Nat} (hi : i < l.length) :
    ∃ b o, a = some ⟨b, o, none⟩ ∧ S b ∧ w.cell? ⟨b, o + i * 3, none⟩ = some (.string l[i].name) ∧ w.cell? ⟨b, o + i * 3 + 1, none⟩ = some (.slice l[i].va l[i].vs.length l[i].vcap) ∧ w.cell? ⟨b, o + i * 3 + 2, none⟩ = some (.slice l[i].ma l[i].ms.length l[i].mcap) := by
  obtain ⟨b, o, e, hs, H⟩ := el_at rcC_len (by omega) h hi
  exact ⟨b, o, e, hs, H 0 _ (by omega) rfl, H 1 _ (by omega) rfl, H 2 _ (by omega) rfl⟩
theorem sh_at {w : World} {S : Nat → Prop} {a : Option Addr} {l : List VV.Sh} (h : Cs w S a (flatC shC l)) {i : Nat} (hi : i < l.length) :
    ∃ b o, a = some ⟨b, o, none⟩ ∧ S b ∧ w.cell? ⟨b, o + i * 2, none⟩ = some (.string l[i].name) ∧ w.cell? ⟨b, o + i * 2 + 1, none⟩ = some (.slice l[i].adr l[i].fs.length l[i].cap) := by
  obtain ⟨b, o, e, hs, H⟩ := el_at shC_len (by omega) h hi
  exact ⟨b, o, e, hs, H 0 _ (by omega) rfl, H 1 _ (by omega) rfl⟩
theorem mv_at {w : World} {S : Nat → Prop} {a : Option Addr} {l : List Mv} (h : Cs w S a (flatC mvC l)) {i : Nat} (hi : i < l.length) :
    ∃ b o, a = some ⟨b, o, none⟩ ∧ S b ∧ w.cell? ⟨b, o + i, none⟩ = some (.slice l[i].adr l[i].l.length l[i].cap) := by
  obtain ⟨b, o, e, hs, H⟩ := el_at mvC_len (by omega) h hi
  have := H 0 _ (by omega) rfl
  rw [Nat.mul_one, Nat.add_zero] at this
  exact ⟨b, o, e, hs, this⟩
theorem int_at {w : World} {S : Nat → Prop} {a : Option Addr} {l : List Int} (h : Cs w S a (flatC intC l)) {i : Nat} (hi : i < l.length) :
    ∃ b o, a = some ⟨b, o, none⟩ ∧ S b ∧ w.cell? ⟨b, o + i, none⟩ = some (.int .i64 l[i]) := by
  obtain ⟨b, o, e, hs, H⟩ := el_at intC_len (by omega) h hi
  have := H 0 _ (by omega) rfl
  rw [Nat.mul_one, Nat.add_zero] at this
  exact ⟨b, o, e, hs, this⟩
theorem wds_row {w : World} {B : Nat} {a : Option Addr} {l : List Wd} (h : Cs w (fun b => b < B) a (flatC wdC l)) : Wds w B a l := by
  intro i hi
  obtain ⟨b, o, e, hs, H⟩ := el_at wdC_len (by omega) h hi
  exact ⟨b, o, e, hs, H 0 _ (by omega) rfl, H 1 _ (by omega) rfl, H 2 _ (by omega) rfl⟩
theorem strs_row {w : World} {B : Nat} {a : Option Addr} {l : List ByteArray} (h : Cs w (fun b => b < B) a (flatC strC l)) (hs : ∀ s, s ∈ l → s.size ≤ maxLen) : Strs w B a l := by
  intro i hi
  obtain ⟨b, o, e, hS, H⟩ := el_at strC_len (by omega) h hi
  have := H 0 _ (by omega) rfl
  rw [Nat.mul_one, Nat.add_zero] at this
  exact ⟨hs _ (List.getElem_mem hi), b, o, e, hS, this⟩
theorem wfL_of {l : List Wd} (h : ∀ y, y ∈ l → wfWd y) : wfL l := fun i hi => ⟨(h _ (List.getElem_mem hi)).n, by have := (h _ (List.getElem_mem hi)).s; unfold maxLen at this; omega⟩
/-! The effects of the operators, as their variable is laid. -/
structure EffAt (w : World) : Prop where
  lt : 0 < w.heap.size
  at_ : ∀ k : Nat, k ≤ 22 → w.cell? ⟨0, k * 6, none⟩ = some (.int .i64 (effAt k).takes) ∧ w.cell? ⟨0, k * 6 + 1, none⟩ = some (.int .i64 (effAt k).byA) ∧ w.cell? ⟨0, k * 6 + 2, none⟩ = some (.int .i64 (effAt k).byB) ∧
    w.cell? ⟨0, k * 6 + 3, none⟩ = some (.int .i64 (effAt k).leaves) ∧ w.cell? ⟨0, k * 6 + 4, none⟩ = some (.int .i64 (effAt k).goes) ∧ w.cell? ⟨0, k * 6 + 5, none⟩ = some (.bool (effAt k).inMove)
theorem EffAt.below {w w' : World} {B : Nat} (h : EffAt w) (hb : Below B w w') (hB : 0 < B) : EffAt w' := by
  refine ⟨Nat.lt_of_lt_of_le h.lt hb.size, fun k hk => ?_⟩
  have e : ∀ o, w'.cell? ⟨0, o, none⟩ = w.cell? ⟨0, o, none⟩ := fun o => hb.cell (p := ⟨0, o, none⟩) hB
  rw [e, e, e, e, e, e]
  exact h.at_ k hk
/-! Maps by names. -/
def filledK : List (List UInt8 × DataW Unit) → DataW Unit
  | [] => .map []
  | p :: r => (filledK r).put (.string p.1) p.2
def hasK : List (List UInt8 × DataW Unit) → List UInt8 → Bool
  | [], _ => false
  | p :: r, k => decide (p.1 = k) || hasK r k
def atK : List (List UInt8 × DataW Unit) → List UInt8 → DataW Unit → DataW Unit
  | [], _, d => d
  | p :: r, k, d => if p.1 = k then p.2 else atK r k d
theorem filledK_map : ∀ l, IsMap (filledK l)
  | [] => isMap_empty
  | _ :: r => (filledK_map r).put _ _
theorem filledK_has (k : List UInt8) : ∀ l, Maps.has (filledK l) (.string k) = hasK l k
  | [] => rfl
  | p :: r => by
    unfold filledK hasK
    by_cases h : p.1 = k
    · rw [← h, has_put_same (k := .string p.1) (filledK_map r) (by trivial)]; simp
    · rw [has_put_other (by intro e; injection e with e; exact h e.symm), filledK_has k r]; simp [h]
theorem filledK_at (k : List UInt8) (d : DataW Unit) : ∀ l, (filledK l).atKey (.string k) d = atK l k d
  | [] => rfl
  | p :: r => by
    unfold filledK atK
    by_cases h : p.1 = k
    · rw [if_pos h, ← h]; exact atKey_put_same (k := .string p.1) (filledK_map r) (by trivial) _ _
    · rw [if_neg h, atKey_put_other (by intro e; injection e with e; exact h e.symm)]; exact filledK_at k d r
/-- The places of names, the last one first. -/
def plc (l : List ByteArray) : List (List UInt8 × DataW Unit) := (l.zipIdx.map fun p => (p.1.data.toList, DataW.lit (.int .i64 (p.2 : Int)))).reverse
theorem plc_snoc (l : List ByteArray) (x : ByteArray) : plc (l ++ [x]) = (x.data.toList, .lit (.int .i64 (l.length : Int))) :: plc l := by simp [plc, List.zipIdx_append]
theorem plc_length (l : List ByteArray) : (plc l).length = l.length := by simp [plc]
theorem hasK_any (k : List UInt8) : ∀ l, hasK l k = l.any fun p => decide (p.1 = k)
  | [] => rfl
  | p :: r => by unfold hasK; rw [List.any_cons, hasK_any k r]
theorem bytes_inj {x y : ByteArray} : x.data.toList = y.data.toList ↔ x = y := by
  constructor
  · intro h
    cases x; cases y
    simp only [ByteArray.mk.injEq]
    exact Array.toList_inj.1 h
  · rintro rfl; rfl
theorem hasK_plc (l : List ByteArray) (s : ByteArray) : hasK (plc l) s.data.toList = hasS l s := by
  rw [hasK_any, plc, List.any_reverse, List.any_map]
  rw [Bool.eq_iff_iff, List.any_eq_true, Lib.containsS_iff]
  constructor
  · rintro ⟨p, hp, he⟩
    have he : p.1.data.toList = s.data.toList := by simpa using he
    rw [← bytes_inj.1 he]
    exact (List.mem_zipIdx' hp).2 ▸ List.getElem_mem _
  · intro h
    obtain ⟨i, hi, rfl⟩ := List.getElem_of_mem h
    exact ⟨(l[i], i), by rw [List.mem_zipIdx_iff_getElem?]; simp [List.getElem?_eq_getElem hi], by simp⟩
abbrev OwnsN (w : World) (b : Nat) (l : List ByteArray) : Prop := w.ownsMap Tryz.prog 9 (plainElem (H := Unit) Tryz.prog 3) b l.length (filledK (plc l))
theorem OwnsN.look2 {w : World} {b : Nat} {l : List ByteArray} (h : OwnsN w b l) {s : ByteArray} (hs : s.size ≤ maxLen) :
    ∃ c : Int, (Instr.lookup 100 (.map (some b)) (.string s) true).run Tryz.prog w = .ok (.tuple #[.int .i64 c, .bool (hasS l s)]) w ∧ atK (plc l) s.data.toList (.lit (.int .i64 0)) = .lit (.int .i64 c) := by
  obtain ⟨v, ps, hrun, hv⟩ := h.look_ok lawK Tryz.underlying100 (UU.zeroI w) (plainElem_int Tryz.underlying3 (by decide)) (keyOf_string_mk Tryz.underlying9 hs)
  obtain ⟨c, rfl, hc, _⟩ := plainElem_int_inv Tryz.underlying3 hv
  simp only [Prod.mk.injEq] at hc
  refine ⟨c, ?_, ?_⟩
  · rw [hrun, filledK_has, hasK_plc]
  · rw [← filledK_at]; exact hc.1
/-! The primitives. -/
def primR : Value → Option (DataW Unit × List MemPlace)
  | .agg cs => match cs.toList with
    | [.int .i64 a, .int .i64 b] => some (.agg [.lit (.int .i64 a), .lit (.int .i64 b)], [])
    | _ => none
  | _ => none
theorem primR_inv {v : Value} {a b : Int} {ps : List MemPlace} (h : primR v = some (.agg [.lit (.int .i64 a), .lit (.int .i64 b)], ps)) : v = .agg #[.int .i64 a, .int .i64 b] := by
  cases v with
  | agg cs =>
    simp only [primR] at h
    split at h
    · rename_i a' b' e
      simp only [Option.some.injEq, Prod.mk.injEq, DataW.agg.injEq, List.cons.injEq, DataW.lit.injEq, Lit.int.injEq, true_and, and_true] at h
      obtain ⟨⟨rfl, rfl⟩, _⟩ := h
      congr 1
      exact Array.toList_inj.1 e
    · cases h
  | _ => simp [primR] at h
/-- As they are put, the last one first: the name, which one, how many arguments. -/
def primL : List (List UInt8 × (Int × Int)) := [([101, 114, 114, 111, 114], 14, 1), ([110, 111, 116], 13, 1), ([112, 97, 105, 114, 63], 12, 1), ([110, 117, 108, 108, 63], 11, 1), ([99, 100, 114], 10, 1), ([99, 97, 114], 9, 1), ([101, 113, 63], 8, 2), ([99, 111, 110, 115], 7, 2), ([60], 6, 2), ([61], 5, 2), ([114, 101, 109, 97, 105, 110, 100, 101, 114], 4, 2), ([113, 117, 111, 116, 105, 101, 110, 116], 3, 2), ([42], 2, 2), ([45], 1, 2), ([43], 0, 2)]
def dprim (p : Int × Int) : DataW Unit := .agg [.lit (.int .i64 p.1), .lit (.int .i64 p.2)]
def primK (l : List (List UInt8 × (Int × Int))) : List (List UInt8 × DataW Unit) := l.map fun p => (p.1, dprim p.2)
def prmOf : List (List UInt8 × (Int × Int)) → List UInt8 → Int × Int
  | [], _ => (0, 0)
  | p :: r, s => if p.1 = s then p.2 else prmOf r s
theorem primK_at (s : List UInt8) : ∀ l, atK (primK l) s (dprim (0, 0)) = dprim (prmOf l s)
  | [] => rfl
  | p :: r => by
    have ih := primK_at s r
    unfold primK at ih ⊢
    rw [List.map_cons]
    unfold atK prmOf
    split
    · rfl
    · exact ih
theorem primK_has (s : List UInt8) : ∀ l : List (List UInt8 × (Int × Int)), (∀ p, p ∈ l → ¬ p.2.2 = 0) → hasK (primK l) s = decide (¬ (prmOf l s).2 = 0)
  | [], _ => rfl
  | p :: r, h => by
    have ih := primK_has s r (fun q hq => h q (List.mem_cons_of_mem _ hq))
    have h0 := h p List.mem_cons_self
    unfold primK at ih ⊢
    rw [List.map_cons]
    unfold hasK prmOf
    by_cases e : p.1 = s
    · rw [if_pos e]; simp [e, h0]
    · rw [if_neg e, ih]; simp [e]
theorem prm_val (s : List UInt8) : (prmOf primL s).2 = UU.valOf prims s := by
  have h1 : ∀ l : List (List UInt8 × (Int × Int)), (prmOf l s).2 = UU.valOf (l.map fun p => (p.1, p.2.2)) s := by
    intro l
    induction l with
    | nil => rfl
    | cons p r ih =>
      rw [List.map_cons]
      unfold prmOf UU.valOf
      split <;> simp_all
  rw [h1]
  have e : (primL.map fun p => (p.1, p.2.2)) = prims := by decide
  rw [e]
abbrev OwnsP (w : World) (b : Nat) (l : List (List UInt8 × (Int × Int))) : Prop := w.ownsMap Tryz.prog 9 primR b l.length (filledK (primK l))
theorem zeroP (w : World) : (zeroValue 107).run Tryz.prog w = .ok (.agg #[.int .i64 0, .int .i64 0]) w := by kernel_rfl
theorem OwnsP.look2 {w : World} {b : Nat} (h : OwnsP w b primL) {s : ByteArray} (hs : s.size ≤ maxLen) :
    (Instr.lookup 43 (.map (some b)) (.string s) true).run Tryz.prog w = .ok (.tuple #[.agg #[.int .i64 (prmOf primL s.data.toList).1, .int .i64 (UU.valOf prims s.data.toList)], .bool (decide (¬ UU.valOf prims s.data.toList = 0))]) w := by
  obtain ⟨v, ps, hrun, hv⟩ := h.look_ok lawK Tryz.underlying43 (zeroP w) (zd := dprim (0, 0)) (zp := []) rfl (keyOf_string_mk Tryz.underlying9 hs)
  rw [filledK_at, primK_at] at hv
  have := primR_inv hv
  rw [hrun, this, filledK_has, primK_has _ _ (by decide), prm_val]
/-! Views. -/
structure Vw where
  x : Wv
  lim : Int
  gq : Nat
  gm : Nat
  rq : Nat
  rm : Nat
  vq : Nat
  vb : Nat
  pm : Nat
abbrev finG (q : Nat) : Value := .func (.func 44) #[] #[.pointer (some ⟨q, 0, none⟩)]
abbrev finR (q : Nat) : Value := .func (.func 45) #[] #[.pointer (some ⟨q, 0, none⟩)]
abbrev valF (q : Nat) : Value := .func (.func 47) #[] #[.pointer (some ⟨q, 0, none⟩)]
abbrev viewV (v : Vw) : Value := .agg #[.slice v.x.fa v.x.fs.length v.x.fcap, .slice v.x.ga v.x.gs.length v.x.gcap, .slice v.x.ra v.x.rs.length v.x.rcap, .slice v.x.ha v.x.hs.length v.x.hcap, .int .i64 v.lim, finG v.gq, finR v.rq, valF v.vq, .map (some v.pm)]
/-- A view in a box. -/
structure VBox (W : World) (g : Nat) (v : Vw) : Prop where
  lt : g < W.heap.size
  c0 : W.cell? ⟨g, 0, none⟩ = some (.slice v.x.fa v.x.fs.length v.x.fcap)
  c1 : W.cell? ⟨g, 1, none⟩ = some (.slice v.x.ga v.x.gs.length v.x.gcap)
  c2 : W.cell? ⟨g, 2, none⟩ = some (.slice v.x.ra v.x.rs.length v.x.rcap)
  c3 : W.cell? ⟨g, 3, none⟩ = some (.slice v.x.ha v.x.hs.length v.x.hcap)
  c4 : W.cell? ⟨g, 4, none⟩ = some (.int .i64 v.lim)
  c5 : W.cell? ⟨g, 5, none⟩ = some (finG v.gq)
  c6 : W.cell? ⟨g, 6, none⟩ = some (finR v.rq)
  c7 : W.cell? ⟨g, 7, none⟩ = some (valF v.vq)
  c8 : W.cell? ⟨g, 8, none⟩ = some (.map (some v.pm))
theorem VBox.below {W W' : World} {g B : Nat} {v : Vw} (h : VBox W g v) (hb : Below B W W') (hg : g < B) : VBox W' g v :=
  ⟨Nat.lt_of_lt_of_le h.lt hb.size, (hb.cell (p := ⟨g, 0, none⟩) hg).trans h.c0, (hb.cell (p := ⟨g, 1, none⟩) hg).trans h.c1, (hb.cell (p := ⟨g, 2, none⟩) hg).trans h.c2, (hb.cell (p := ⟨g, 3, none⟩) hg).trans h.c3, (hb.cell (p := ⟨g, 4, none⟩) hg).trans h.c4, (hb.cell (p := ⟨g, 5, none⟩) hg).trans h.c5, (hb.cell (p := ⟨g, 6, none⟩) hg).trans h.c6, (hb.cell (p := ⟨g, 7, none⟩) hg).trans h.c7, (hb.cell (p := ⟨g, 8, none⟩) hg).trans h.c8⟩
theorem vbox_new (w : World) (v : Vw) (t : TypeId) : VBox (w.alloc (.cells #[.slice v.x.fa v.x.fs.length v.x.fcap, .slice v.x.ga v.x.gs.length v.x.gcap, .slice v.x.ra v.x.rs.length v.x.rcap, .slice v.x.ha v.x.hs.length v.x.hcap, .int .i64 v.lim, finG v.gq, finR v.rq, valF v.vq, .map (some v.pm)] t)) w.heap.size v := by
  refine ⟨by simp, ?_, ?_, ?_, ?_, ?_, ?_, ?_, ?_, ?_⟩ <;> go_simp
def ctxOf (x : Wv) : Ctx := ⟨x.gs.map Gl.name, x.rs.map Rc.name, x.fs.map VV.Fn.c⟩
structure ViewAt (w : World) (v : Vw) (th : List Th) : Prop where
  sub : subW w (fun b => b < w.heap.size) v.x
  big : bigW v.x
  wf : wfW v.x
  gq : v.gq < w.heap.size
  gc : w.cell? ⟨v.gq, 0, none⟩ = some (.map (some v.gm))
  gm : OwnsN w v.gm (v.x.gs.map Gl.name)
  rq : v.rq < w.heap.size
  rc : w.cell? ⟨v.rq, 0, none⟩ = some (.map (some v.rm))
  rm : OwnsN w v.rm (v.x.rs.map Rc.name)
  vq : v.vq < w.heap.size
  vc : w.cell? ⟨v.vq, 0, none⟩ = some (.slice (some ⟨v.vb, 0, none⟩) v.x.hs.length v.x.hs.length)
  vb : v.vb < w.heap.size
  beg : Beg w v.vb v.x.hs.length th
  pm : OwnsP w v.pm primL
  eff : EffAt w
  room : v.x.hs.length ≤ 60000
theorem owns_below {w w' : World} {k : TypeId} {R : Value → Option (DataW Unit × List MemPlace)} {b n : Nat} {D : DataW Unit} (h : w.ownsMap Tryz.prog k R b n D) (hb : Below w.heap.size w w') : w'.ownsMap Tryz.prog k R b n D := by
  have hlt := h.lt
  obtain ⟨es, c, e1, e2⟩ := h
  exact ⟨es, c, (hb.block _ hlt).trans e1, e2⟩
theorem ViewAt.below {w w' : World} {v : Vw} {th : List Th} (h : ViewAt w v th) (hb : Below w.heap.size w w') : ViewAt w' v th :=
  ⟨subW_keep h.sub (fun b hb' => hb.block b hb') (fun _ hb' => Nat.lt_of_lt_of_le hb' hb.size), h.big, h.wf,
    Nat.lt_of_lt_of_le h.gq hb.size, (hb.cell (p := ⟨v.gq, 0, none⟩) h.gq).trans h.gc, owns_below h.gm hb,
    Nat.lt_of_lt_of_le h.rq hb.size, (hb.cell (p := ⟨v.rq, 0, none⟩) h.rq).trans h.rc, owns_below h.rm hb,
    Nat.lt_of_lt_of_le h.vq hb.size, (hb.cell (p := ⟨v.vq, 0, none⟩) h.vq).trans h.vc, Nat.lt_of_lt_of_le h.vb hb.size, h.beg.below hb h.vb,
    owns_below h.pm hb, h.eff.below hb h.eff.lt, h.room⟩
end Go.Proofs.YtldmanfgmadbfaaGreatDoor
namespace Go.Proofs.YtldmanfgmadbfaaGreatDoor
set_option maxRecDepth 100000
open HH UU VV
open Go.RowKit Go.Maps Go.WideMaps
set_option maxHeartbeats 400000 in
theorem isBelow_any (n m : Int) (w : World) :
    Calls Tryz.prog 48 #[.int .i64 n, .int .i64 m] w fun e w' => e = .returned (.bool (belB n m)) ∧ w' = w := by
  go_enter Tryz.func48, Tryz.ntmps48
  go_wp2
  all_goals (go_ret; refine ⟨ret_bool ?_, rfl⟩; first | (simp_all [belB]; done) | (simp_all [belB]; omega))
theorem isBelow_is {n m : Int} {b : Bool} (h : belB n m = b) (w : World) :
    Calls Tryz.prog 48 #[.int .i64 n, .int .i64 m] w fun e w' => e = .returned (.bool b) ∧ w' = w := by rw [← h]; exact isBelow_any n m w
theorem chain_nil {acc : List Th} (h : Chain [] acc 0) : acc = [] := by
  have := h.le.2
  cases acc with
  | nil => rfl
  | cons a r => simp at this
theorem plain_cv {k n : Int} {s : ByteArray} {r : Int} (h : CvI 50 [] k n s r) : (r = 0 ∧ plainV ⟨k, n, s⟩ = true) ∨ (r = 3 ∧ plainV ⟨k, n, s⟩ = false) := by
  have hv : ∀ acc, Chain [] acc 0 → valB (plOf acc) k n s = plainV ⟨k, n, s⟩ := by
    intro acc hc
    rw [val_ok hc]
    unfold plainV refB
    dsimp only
    congr 1
    have : ¬ (0 ≤ n ∧ n < ((([] : List Wd).length : Nat) : Int)) := by simp
    by_cases h5 : k = 5
    · simp only [h5, not_true_eq_false, decide_false, Bool.false_or]
      rw [Bool.eq_false_iff]
      intro e
      simp only [Bool.and_eq_true, decide_eq_true_eq] at e
      exact this e.1
    · simp [h5]
  rcases h with ⟨rfl, acc, ms, hok, h⟩ | ⟨rfl, acc, ms, hok, h⟩ | ⟨rfl, hbad⟩
  · exact Or.inl ⟨rfl, by rw [← hv acc hok.chain]; exact h⟩
  · exact Or.inr ⟨rfl, by rw [← hv acc hok.chain]; exact h⟩
  · exfalso
    rcases hbad with h | ⟨acc, i, _, hi, _⟩ | ⟨acc, hc, h⟩
    · exact h ⟨by omega, by omega, by simp⟩
    · simp at hi
    · rw [chain_nil hc] at h
      simp [mvAll] at h
set_option maxHeartbeats 1000000 in
theorem isPlain_any (x : Wd) (w : World) (hx : wfWd x) :
    Calls Tryz.prog 49 #[.agg #[.int .i64 x.k, .int .i64 x.n, .string x.s]] w fun e w' => e = .returned (.bool (plainV x)) ∧ Below w.heap.size w w' := by
  obtain ⟨k, n, s⟩ := x
  obtain ⟨w1, hw1⟩ : ∃ w1, w1 = w.alloc (.cells #[.int .i64 k, .int .i64 n, .string s] 51) := ⟨_, rfl⟩
  have hb1 : Below w.heap.size w w1 := by rw [hw1]; exact (Below.refl _ _).alloc (Nat.le_refl _) _
  have HC := hid (CheckValue_any w1 0 none 0 0 [] 50 k n s (fun i hi => absurd hi (by simp)) (Nat.zero_le _) rfl (Nat.le_refl _) (by omega) (fun i hi => absurd hi (by simp)) hx.n (by have := hx.s; unfold maxLen at this; dsimp only at this; omega))
  have H1 := hid hw1
  have HB1 := hid hb1
  clear hw1 hb1
  go_enter Tryz.func49, Tryz.ntmps49
  go_wp2_with fail
  rw [← H1.out]
  have hcall := HC.out
  go_fit hcall
  clear hcall
  rintro e w2 ⟨r, rfl, hr, hb2⟩
  have HB2 := hid (HB1.out.trans (hb2.mono HB1.out.size))
  rcases plain_cv hr with ⟨rfl, hp⟩ | ⟨rfl, hp⟩
  all_goals
    have HP := hid hp
    clear hp hr
    go_wp2_with fail
    go_ret
    exact ⟨ret_bool (by rw [HP.out]), HB2.out⟩
set_option maxHeartbeats 1000000 in
theorem finG_any (q m : Nat) (l : List ByteArray) (s : ByteArray) (w : World) (hs : s.size ≤ maxLen) (_hq : q < w.heap.size) (hc : w.cell? ⟨q, 0, none⟩ = some (.map (some m))) (hm : OwnsN w m l) :
    Calls Tryz.prog 44 #[.string s, .pointer (some ⟨q, 0, none⟩)] w fun e w' => ∃ c, e = .returned (.tuple #[.int .i64 c, .bool (hasS l s)]) ∧ atK (plc l) s.data.toList (.lit (.int .i64 0)) = .lit (.int .i64 c) ∧ w' = w := by
  obtain ⟨c, hrun, hat⟩ := hm.look2 hs
  have HA := hid hat
  clear hat
  go_enter Tryz.func44, Tryz.ntmps44
  go_wp2_with fail
  go_ret2
  exact ⟨c, rfl, HA.out, rfl⟩
set_option maxHeartbeats 1000000 in
theorem finR_any (q m : Nat) (l : List ByteArray) (s : ByteArray) (w : World) (hs : s.size ≤ maxLen) (_hq : q < w.heap.size) (hc : w.cell? ⟨q, 0, none⟩ = some (.map (some m))) (hm : OwnsN w m l) :
    Calls Tryz.prog 45 #[.string s, .pointer (some ⟨q, 0, none⟩)] w fun e w' => ∃ c, e = .returned (.tuple #[.int .i64 c, .bool (hasS l s)]) ∧ atK (plc l) s.data.toList (.lit (.int .i64 0)) = .lit (.int .i64 c) ∧ w' = w := by
  obtain ⟨c, hrun, hat⟩ := hm.look2 hs
  have HA := hid hat
  clear hat
  go_enter Tryz.func45, Tryz.ntmps45
  go_wp2_with fail
  go_ret2
  exact ⟨c, rfl, HA.out, rfl⟩
set_option maxHeartbeats 1000000 in
/-- Is a word a value? -/
theorem isValue_any (q b n : Nat) (th : List Th) (x : Wd) (w : World) (hx : wfWd x) (_hn : n ≤ 60000) (hq : q < w.heap.size) (hc : w.cell? ⟨q, 0, none⟩ = some (.slice (some ⟨b, 0, none⟩) n n)) (hb : b < w.heap.size) (hbeg : Beg w b n th) :
    Calls Tryz.prog 47 #[.agg #[.int .i64 x.k, .int .i64 x.n, .string x.s], .pointer (some ⟨q, 0, none⟩)] w fun e w' => e = .returned (.bool (okV n th x)) ∧ Below w.heap.size w w' := by
  have hx' := hx
  obtain ⟨k, m, s⟩ := x
  have hb1 : Below w.heap.size w (w.alloc (.cells #[.int .i64 k, .int .i64 m, .string s] 51)) := (Below.refl _ _).alloc (Nat.le_refl _) _
  have c1 := (hb1.cell (p := ⟨q, 0, none⟩) hq).trans hc
  have hbeg1 := hbeg.below hb1 hb
  have HB1 := hid hb1
  clear hb1 hbeg hc hx
  have hnil : (s.toList == []) = decide (s.size = 0) := by
    rw [Bool.eq_iff_iff]
    simp only [beq_iff_eq, decide_eq_true_eq]
    rw [bnil]
    constructor
    · rintro rfl; rfl
    · intro h; cases s; rename_i d; simp only [ByteArray.size] at h; rw [Array.eq_empty_of_size_eq_zero h]; rfl
  by_cases h5 : k = 5
  · subst h5
    have hok : okV n th ⟨5, m, s⟩ = (refB n th m && (s.toList == [])) := by unfold okV wmB; rw [hnil]; simp [Bool.and_comm]
    rw [hok]
    have HN := hid hnil
    clear hnil
    by_cases hin : 0 ≤ m ∧ m < n
    · obtain ⟨j, rfl⟩ := Int.eq_ofNat_of_zero_le hin.1
      have hj : j < n := by omega
      have hj2 : (j : Int) < n := by omega
      obtain ⟨d0, _⟩ := hbeg1 j hj
      have HR := hid (show refB n th (j : Int) = th.any fun t => t.h == j by unfold refB; simp [hj])
      generalize (th.any fun t => t.h == j) = bo at d0 HR
      have hbl : belB (j : Int) (n : Int) = true := by unfold belB; simp [hj]
      clear hin hbeg1 hok
      go_enter Tryz.func47, Tryz.ntmps47
      go_wp2_with (go_at_call 48; refine (isBelow_is hbl _).mono ?_; rintro e w' ⟨rfl, rfl⟩)
      all_goals (go_ret; exact ⟨ret_bool (by rw [HR.out]; simp_all), HB1.out⟩)
    · have hf : belB m (n : Int) = false := by rw [Bool.eq_false_iff]; intro e; unfold belB at e; simp only [Bool.and_eq_true, decide_eq_true_eq] at e; exact hin e
      have HR := hid (show refB n th m = false by unfold refB; unfold belB at hf; rw [hf]; rfl)
      clear hin hbeg1 hok
      go_enter Tryz.func47, Tryz.ntmps47
      go_wp2_with (go_at_call 48; refine (isBelow_is hf _).mono ?_; rintro e w' ⟨rfl, rfl⟩)
      go_ret
      exact ⟨ret_bool (by rw [HR.out]; simp), HB1.out⟩
  · have h5b : (k == 5) = false := by simp [h5]
    have HR := hid (show plainV ⟨k, m, s⟩ = okV n th ⟨k, m, s⟩ by unfold plainV okV; simp [h5])
    clear hbeg1 hnil
    go_enter Tryz.func47, Tryz.ntmps47
    go_wp2_with fail
    have hcall := isPlain_any ⟨k, m, s⟩ (w.alloc (.cells #[.int .i64 k, .int .i64 m, .string s] 51)) hx'
    go_fit hcall
    clear hcall
    rintro e w2 ⟨rfl, hb2⟩
    go_wp2_with fail
    go_ret
    exact ⟨ret_bool HR.out, HB1.out.trans (hb2.mono HB1.out.size)⟩
theorem eff_nat {k : Nat} : effAt (k : Int) = effs.getD k ⟨0, 0, 0, 0, 0, false⟩ := by unfold effAt; simp
set_option maxHeartbeats 1000000 in
theorem isNotInMove_any (k : Nat) (a b : Int) (s t : ByteArray) (x : Wd) (w : World) (hk : k ≤ 22) (hE : EffAt w) :
    Calls Tryz.prog 87 #[.agg #[.int .i64 k, .int .i64 a, .int .i64 b, .string s, .string t, .int .i64 x.k, .int .i64 x.n, .string x.s]] w fun e w' => e = .returned (.bool (!(effAt k).inMove)) ∧ Below w.heap.size w w' := by
  obtain ⟨_, _, _, _, _, d5⟩ := hE.at_ k hk
  have hlt := hE.lt
  have hk2 : (k : Int) < 23 := by omega
  have hne : ¬ 0 = w.heap.size := by omega
  clear hE
  go_enter Tryz.func87, Tryz.ntmps87
  go_wp2_with fail
  go_ret
  exact ⟨rfl, (Below.refl _ _).alloc (Nat.le_refl _) _⟩
end Go.Proofs.YtldmanfgmadbfaaGreatDoor
namespace Go.Proofs.YtldmanfgmadbfaaGreatDoor
set_option maxRecDepth 100000
open HH UU VV
open Go.RowKit Go.Maps Go.WideMaps
/-- The place of the first of some of which a thing is told; -1: there is none. -/
def IdxR {α : Type} (f : α → Bool) (l : List α) (w : World) (e : Ending) (w' : World) : Prop :=
  ∃ r : Int, e = .returned (.int .i64 r) ∧ decide (0 ≤ r) = l.any f ∧ Below w.heap.size w w'
theorem take_none {α : Type} {f : α → Bool} {l : List α} {k : Nat} (h : (l.take k).any f = false) (hk : k < l.length) (hf : f l[k] = false) : (l.take (k + 1)).any f = false := by
  rw [List.take_succ_eq_append_getElem hk, List.any_append, h]; simp [hf]
theorem any_yes {α : Type} {f : α → Bool} {l : List α} {k : Nat} (hk : k < l.length) (hf : f l[k] = true) : l.any f = true := by
  rw [List.any_eq_true]; exact ⟨l[k], List.getElem_mem hk, hf⟩
theorem IdxR.hit {α : Type} {f : α → Bool} {l : List α} {w w' : World} {k : Nat} (h : l.any f = true) (hb : Below w.heap.size w w') : IdxR f l w (.returned (.int .i64 (k : Int))) w' :=
  ⟨k, rfl, by rw [h]; simp, hb⟩
theorem IdxR.miss {α : Type} {f : α → Bool} {l : List α} {w w' : World} (h : l.any f = false) (hb : Below w.heap.size w w') : IdxR f l w (.returned (.int .i64 (-1))) w' :=
  ⟨-1, rfl, by rw [h]; rfl, hb⟩
def outM (i : Ins) : Bool := !(effAt i.op).inMove
set_option maxHeartbeats 2000000 in
theorem indexIns_any (w : World) (a : Option Addr) (n cap : Nat) (l : List Ins) (hC : Cs w (fun b => b < w.heap.size) a (flatC insC l)) (hn : n = l.length) (hm : n ≤ 9223372036854775807) (hO : ∀ i, i ∈ l → 1 ≤ i.op ∧ i.op ≤ 22) (hE : EffAt w) :
    Calls Tryz.prog 98 #[.slice a n cap, .func (.func 87) #[] #[]] w fun e w' => IdxR outM l w e w' := by
  have HN := hid hn
  have HC := hid hC
  clear hC hn
  go_enter Tryz.func98, Tryz.ntmps98
  go_wp2_with fail
  go_loopw [8] (fun i wr => ∃ k : Nat, k ≤ n ∧ i = .int .i64 k ∧ (l.take k).any outM = false ∧ Below w.heap.size w wr) (fun i _ => n - (intOf i).toNat)
  case atStart => exact ⟨0, Nat.zero_le _, rfl, by simp, Below.refl _ _⟩
  case round =>
    obtain ⟨k, hk, rfl, hno, hbr⟩ := hrel
    have HNo := hid hno
    have HBr := hid hbr
    clear hno
    by_cases hlt : k < n
    · have hlt2 : (k : Int) < n := by omega
      have hkl : k < l.length := by rw [← HN.out]; exact hlt
      obtain ⟨b, o, rfl, hbB, i0, i1, i2, i3, i4, i5, i6, i7⟩ := ins_at (Cs.below HC.out hbr hbr.size) hkl
      have hop := hO _ (List.getElem_mem hkl)
      have HYes := hid (fun h => any_yes (f := outM) hkl h)
      have HNx := hid (fun h => take_none (f := outM) HNo.out hkl h)
      generalize l[k]'hkl = ii at i0 i1 i2 i3 i4 i5 i6 i7 hop HYes HNx
      obtain ⟨op, ia, ib, is, it, iw⟩ := ii
      dsimp only at i0 i1 i2 i3 i4 i5 i6 i7 hop
      obtain ⟨opn, rfl⟩ := Int.eq_ofNat_of_zero_le (by omega : 0 ≤ op)
      have hE2 := hid (hE.below hbr hE.lt)
      clear hbr
      go_wp2_with fail
      have hcall := isNotInMove_any opn ia ib is it iw wr (by omega) hE2.out
      go_fit hcall
      clear hcall
      rintro e w2 ⟨rfl, hb2⟩
      have HB2 := hid (HBr.out.trans (hb2.mono HBr.out.size))
      clear hb2
      cases hv : (effAt (opn : Int)).inMove with
      | false =>
        have HR := hid (HYes.out (by unfold outM; dsimp only; rw [hv]; rfl))
        go_wp2_with fail
        go_ret
        exact IdxR.hit HR.out HB2.out
      | true =>
        have HR := hid (HNx.out (by unfold outM; dsimp only; rw [hv]; rfl))
        go_wp2_with fail
        go_roundw
        case rel => exact ⟨k + 1, by omega, by go_num, HR.out, HB2.out⟩
        case measure => simp [intOf]; omega
    · have hlt2 : ¬ (k : Int) < n := by omega
      have hkl : k = l.length := by rw [← HN.out]; omega
      have HR := hid (show l.any outM = false from by have := HNo.out; rw [hkl, List.take_length] at this; exact this)
      clear hbr hkl
      go_wp2_with fail
      go_ret
      exact IdxR.miss HR.out HBr.out
set_option maxHeartbeats 1000000 in
theorem containsIns_any (w : World) (a : Option Addr) (n cap : Nat) (l : List Ins) (hC : Cs w (fun b => b < w.heap.size) a (flatC insC l)) (hn : n = l.length) (hm : n ≤ 9223372036854775807) (hO : ∀ i, i ∈ l → 1 ≤ i.op ∧ i.op ≤ 22) (hE : EffAt w) :
    Calls Tryz.prog 86 #[.slice a n cap, .func (.func 87) #[] #[]] w fun e w' => e = .returned (.bool (l.any outM)) ∧ Below w.heap.size w w' := by
  have HC := hid (indexIns_any w a n cap l hC hn hm hO hE)
  clear hC hn hO hE
  go_enter Tryz.func86, Tryz.ntmps86
  go_wp2_with fail
  have hcall := HC.out
  go_fit hcall
  clear hcall
  rintro e w2 ⟨r, rfl, hr, hb2⟩
  have HR := hid hr
  have HB := hid hb2
  clear hr hb2
  go_wp2_with fail
  go_ret
  exact ⟨ret_bool (by rw [← HR.out]), HB.out⟩
end Go.Proofs.YtldmanfgmadbfaaGreatDoor

/- Words in memory; heap's isPlain, hasInt, planOf. -/
import Derived.Test.YtfjfobpdlmdddaaChecked
import Derived.Test.YtfjfobpdlmdddaaHPlain
import Derived.WalkKit
import Derived.WalkSpells
import Derived.WalkLawsBesides
import Derived.Below
import Derived.Deep.QuietTactic
import Derived.BigQuiet
import Derived.Deep.Draws
import Derived.Deep.Light
import Derived.Deep.DeepFit
namespace Go.Proofs.Ytfjfobpdlmdddaa
set_option maxRecDepth 100000
open Go.RowKit
theorem hid {p : Prop} (h : p) : Hid p := h
theorem ret_bool {a b : Bool} (h : a = b) : Ending.returned (.bool a) = .returned (.bool b) := by rw [h]
theorem ret_int {k : IntKind} {a b : Int} (h : a = b) : Ending.returned (.int k a) = .returned (.int k b) := by rw [h]
theorem bdrew {B : Nat} {a w : World} (h : Below B a w) (n : Nat) : Below B a (w.drewN n) := ⟨h.os, h.tape, h.output, h.size, h.block⟩
theorem bempty (s : ByteArray) : (s.toList == ([] : List UInt8)) = decide (s.size = 0) := by
  rw [Bool.eq_iff_iff]
  simp only [beq_iff_eq, decide_eq_true_eq]
  rw [ByteArray.toList_eq]
  obtain ⟨⟨l⟩⟩ := s
  show l = [] ↔ l.length = 0
  exact List.length_eq_zero_iff.symm
/-- Words in a row, from an address on, in blocks below B. -/
def Wds (w : World) (B : Nat) (a : Option Addr) (l : List Wd) : Prop :=
  ∀ i (h : i < l.length), ∃ b o, a = some ⟨b, o, none⟩ ∧ b < B ∧ w.cell? ⟨b, o + i * 3, none⟩ = some (.int .i64 l[i].k) ∧ w.cell? ⟨b, o + i * 3 + 1, none⟩ = some (.int .i64 l[i].n) ∧ w.cell? ⟨b, o + i * 3 + 2, none⟩ = some (.string l[i].s)
theorem Wds.below {w w' : World} {B : Nat} {a : Option Addr} {l : List Wd} (h : Wds w B a l) (hb : Below B w w') : Wds w' B a l := by
  intro i hi
  obtain ⟨b, o, h2, h3, c0, c1, c2⟩ := h i hi
  exact ⟨b, o, h2, h3, (hb.cell (p := ⟨b, _, none⟩) h3).trans c0, (hb.cell (p := ⟨b, _, none⟩) h3).trans c1, (hb.cell (p := ⟨b, _, none⟩) h3).trans c2⟩
theorem Wds.mono {w : World} {B B' : Nat} {a : Option Addr} {l : List Wd} (h : Wds w B a l) (hb : B ≤ B') : Wds w B' a l := by
  intro i hi
  obtain ⟨b, o, h2, h3, h4⟩ := h i hi
  exact ⟨b, o, h2, Nat.lt_of_lt_of_le h3 hb, h4⟩
abbrev wdV (k n : Int) (s : ByteArray) : Value := .agg #[.int .i64 k, .int .i64 n, .string s]
set_option maxHeartbeats 400000 in
theorem isPlain_any (k n b : Int) (s : ByteArray) (w : World) :
    Calls Try.prog 55 #[.agg #[.int .i64 k, .int .i64 n, .string s], .int .i64 b] w fun e w' => e = .returned (.bool (plainB n s b)) ∧ Below w.heap.size w w' := by
  have he := hid (bempty s)
  have hB0 := hid ((Below.refl w.heap.size w).alloc (Nat.le_refl _) (.cells #[.int .i64 k, .int .i64 n, .string s] 37))
  go_enter Try.func55, Try.ntmps55
  go_wp2
  all_goals (go_ret; refine ⟨ret_bool ?_, hB0.out⟩)
  all_goals (have e := he.out; clear he hB0; simp_all [plainB])
  all_goals omega
theorem intAt_at (l : List Wd) (i : Nat) (b : Int) (h : i < l.length) : intAt l i b = (decide (l[i].k = 1) && plainB l[i].n l[i].s b) := by
  unfold intAt; rw [List.getElem?_eq_getElem h]
theorem intAt_no (l : List Wd) (i : Nat) (b : Int) (h : ¬ i < l.length) : intAt l i b = false := by
  unfold intAt; rw [List.getElem?_eq_none (by omega)]
set_option maxHeartbeats 400000 in
theorem hasInt_any (w : World) (B : Nat) (a : Option Addr) (l : List Wd) (len cap i : Nat) (b : Int) (hlen : len = l.length) (hW : Wds w B a l) :
    Calls Try.prog 57 #[.slice a len cap, .int .i64 i, .int .i64 b] w fun e w' => e = .returned (.bool (intAt l i b)) ∧ Below w.heap.size w w' := by
  have hL := hid hlen
  clear hlen
  by_cases hlt : i < len
  · have hi2 : i < l.length := by rw [← hL.out]; exact hlt
    have hlt2 : (i : Int) < len := by omega
    obtain ⟨bb, o, rfl, hbB, c0, c1, c2⟩ := hW i hi2
    have HX := hid (intAt_at l i b hi2)
    generalize l[i].k = k at c0 HX
    generalize l[i].n = n at c1 HX
    generalize l[i].s = s at c2 HX
    go_enter Try.func57, Try.ntmps57
    go_wp2_with (go_at_call 55; refine (isPlain_any _ _ _ _ _).mono ?_; rintro e w' ⟨rfl, hb⟩)
    all_goals (go_ret; refine ⟨ret_bool ?_, ?_⟩)
    all_goals first | exact hb | exact Below.refl _ _ | (rw [HX.out]; clear HX; simp_all)
  · have HX := hid (intAt_no l i b (by rw [← hL.out]; exact hlt))
    have hlt2 : ¬ (i : Int) < len := by omega
    go_enter Try.func57, Try.ntmps57
    go_wp2_with fail
    go_ret
    exact ⟨ret_bool HX.out.symm, Below.refl _ _⟩
set_option maxHeartbeats 400000 in
theorem planOf_any (k : Int) (w : World) :
    Calls Try.prog 56 #[.int .i64 k] w fun e w' => e = .returned (.agg #[.int .i64 (headsI k), .int .i64 (versI k), .int .i64 (valsI k), .bool (cntdB k)]) ∧ Below w.heap.size w w' := by
  go_enter Try.func56, Try.ntmps56
  go_wp2
  · refine bodyPost_ret (v := .agg #[.int .i64 1, .int .i64 0, .int .i64 2, .bool false]) (by simp [results, Try.results56, go_sem]) rfl ⟨?_, (Below.refl _ _).alloc (Nat.le_refl _) _⟩
    simp_all [headsI, versI, valsI, cntdB]
  · refine bodyPost_ret (v := .agg #[.int .i64 1, .int .i64 0, .int .i64 1, .bool false]) (by simp [results, Try.results56, go_sem]) rfl ⟨?_, (Below.refl _ _).alloc (Nat.le_refl _) _⟩
    simp_all [headsI, versI, valsI, cntdB]
  · refine bodyPost_ret (v := .agg #[.int .i64 2000, .int .i64 0, .int .i64 40, .bool true]) (by simp [results, Try.results56, go_sem]) rfl ⟨?_, (Below.refl _ _).alloc (Nat.le_refl _) _⟩
    simp_all [headsI, versI, valsI, cntdB]
  · refine bodyPost_ret (v := .agg #[.int .i64 8, .int .i64 20, .int .i64 6, .bool true]) (by simp [results, Try.results56, go_sem]) rfl ⟨?_, (Below.refl _ _).alloc (Nat.le_refl _) _⟩
    simp_all [headsI, versI, valsI, cntdB]
  · refine bodyPost_ret (v := .agg #[.int .i64 60000, .int .i64 1, .int .i64 6, .bool true]) (by simp [results, Try.results56, go_sem]) rfl ⟨?_, (Below.refl _ _).alloc (Nat.le_refl _) _⟩
    simp_all [headsI, versI, valsI, cntdB]
  · refine bodyPost_ret (v := .agg #[.int .i64 0, .int .i64 0, .int .i64 0, .bool false]) (by simp [results, Try.results56, go_sem]) rfl ⟨?_, (Below.refl _ _).alloc (Nat.le_refl _) _⟩
    simp_all [headsI, versI, valsI, cntdB]
end Go.Proofs.Ytfjfobpdlmdddaa

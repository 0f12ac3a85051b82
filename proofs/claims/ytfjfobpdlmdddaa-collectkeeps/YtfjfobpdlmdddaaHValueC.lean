/- One value: heap's CheckValue. -/
import Derived.Test.YtfjfobpdlmdddaaHFor
import Derived.Test.YtfjfobpdlmdddaaHSame2
namespace Go.Proofs.Ytfjfobpdlmdddaa
set_option maxRecDepth 100000
open Go.RowKit Go.Maps
theorem wds_one (w : World) (k n : Int) (s : ByteArray) (t : TypeId) : Wds (w.alloc (.cells #[.int .i64 k, .int .i64 n, .string s] t)) (w.heap.size + 1) (some ⟨w.heap.size, 0, none⟩) [⟨k, n, s⟩] := by
  intro i hi
  have : i = 0 := by simp at hi; omega
  subst this
  refine ⟨w.heap.size, 0, rfl, by omega, ?_, ?_, ?_⟩ <;> (simp only [Nat.zero_mul, Nat.zero_add, List.getElem_cons_zero]; go_simp)
/-- What CheckValue tells. -/
def CvI (lim : Int) (l : List Wd) (k n : Int) (s : ByteArray) (r : Int) : Prop :=
  (r = 0 ∧ ∃ acc ms, OkC lim l acc ms ∧ valB (plOf acc) k n s = true) ∨ (r = 3 ∧ ∃ acc ms, OkC lim l acc ms ∧ valB (plOf acc) k n s = false) ∨ (r = 9 ∧ BadC lim l)
theorem allB_one (ps : List (Int × Int)) (k n : Int) (s : ByteArray) : allB ps [⟨k, n, s⟩] = valB ps k n s := by simp [allB]
theorem below_3 (w : World) (o o' o'' : Obj) : Below w.heap.size w (((w.alloc o).alloc o').alloc o'') := (below_2 w o o').alloc (by simp; omega) _
set_option maxHeartbeats 2000000 in
theorem CheckValue_any (w : World) (B : Nat) (a : Option Addr) (len cap : Nat) (l : List Wd) (lim : Int) (k n : Int) (s : ByteArray) (hW : Wds w B a l) (hB : B ≤ w.heap.size) (hlen : len = l.length) (hcap : len ≤ cap) (hl : len ≤ 9223372036854775807) (hwf : wfL l) (hn : wfI n) (hs : s.size ≤ 9223372036854775807) :
    Calls Try.prog 19 #[.agg #[.slice a len cap, .int .i64 lim], .agg #[.int .i64 k, .int .i64 n, .string s]] w fun e w' => ∃ r, e = .returned (.int .i64 r) ∧ CvI lim l k n s r ∧ Below w.heap.size w w' := by
  have HL := hid hlen
  clear hlen
  obtain ⟨w2, hw2⟩ : ∃ w2, w2 = (w.alloc (.cells #[.slice a len cap, .int .i64 lim] 24)).alloc (.cells #[.int .i64 k, .int .i64 n, .string s] 37) := ⟨_, rfl⟩
  have hb2 : Below w.heap.size w w2 := by rw [hw2]; exact below_2 _ _ _
  have hz2 : w2.heap.size = w.heap.size + 2 := by rw [hw2]; simp
  have hone := wds_one w2 k n s 37
  obtain ⟨w3, hw3⟩ : ∃ w3, w3 = w2.alloc (.cells #[.int .i64 k, .int .i64 n, .string s] 37) := ⟨_, rfl⟩
  have hb3 : Below w2.heap.size w2 w3 := by rw [hw3]; exact (Below.refl _ _).alloc (Nat.le_refl _) _
  have hz3 : w3.heap.size = w.heap.size + 3 := by rw [hw3]; simp [hz2]
  rw [← hw3, hz2] at hone
  have hB3 := hid (hb2.trans (hb3.mono (by omega)))
  have hcall := chartFor_any w3 (w.heap.size + 3) a len cap l lim ((hW.below (hB3.out.mono hB)).mono (by omega)) (by omega) HL.out hcap hl hwf (some ⟨w.heap.size + 2, 0, none⟩) 1 1 [⟨k, n, s⟩] hone rfl (by omega) (fun i hi => by
    have : i = 0 := by simp at hi; omega
    subst this; exact ⟨hn, hs⟩)
  have HC := hid hcall
  have H2 := hid hw2
  have H3 := hid hw3
  clear hcall hone hw2 hw3 hb2 hb3 hz2
  go_enter Try.func19, Try.ntmps19
  go_wp2_with fail
  rw [← H2.out, ← H3.out]
  have hcall := HC.out
  go_fit hcall
  clear hcall
  rintro e w4 ⟨hb4, ⟨v, acc, pb, mb, ms, rfl, hok, hall, hV⟩ | ⟨rfl, acc, ms, hok, hall⟩ | ⟨rfl, hbad⟩⟩
  · obtain ⟨av, capv, hv, _, _⟩ := hV.row.cells
    subst hv
    have HX := hid (show CvI lim l k n s 0 from Or.inl ⟨rfl, acc, ms, hok, by rw [← allB_one]; exact hall⟩)
    have hB4 := hid (hB3.out.trans (hb4.mono (by omega)))
    go_wp2_with fail
    go_ret
    exact ⟨0, rfl, HX.out, hB4.out.alloc hB4.out.size _⟩
  · have HX := hid (show CvI lim l k n s 3 from Or.inr (Or.inl ⟨rfl, acc, ms, hok, by rw [← allB_one]; exact hall⟩))
    have hB4 := hid (hB3.out.trans (hb4.mono (by omega)))
    go_wp2_with fail
    go_ret
    exact ⟨3, rfl, HX.out, hB4.out.alloc hB4.out.size _⟩
  · have HX := hid (show CvI lim l k n s 9 from Or.inr (Or.inr ⟨rfl, hbad⟩))
    have hB4 := hid (hB3.out.trans (hb4.mono (by omega)))
    go_wp2_with fail
    go_ret
    exact ⟨9, rfl, HX.out, hB4.out.alloc hB4.out.size _⟩
end Go.Proofs.Ytfjfobpdlmdddaa

/- A value of a heap: heap's CheckValue and the document's ValueFault: P3.4. -/
import Derived.Test.YtfjfobpdlmdddaaHFor
import Derived.Test.YtfjfobpdlmdddaaHSame2
namespace Go.Proofs.Ytfjfobpdlmdddaa
set_option maxRecDepth 100000
open Go.RowKit Go.Maps
theorem wds_one (w : World) (k n : Int) (s : ByteArray) (t : TypeId) : Wds (w.alloc (.cells #[.int .i64 k, .int .i64 n, .string s] t)) (w.heap.size + 1) (some ⟨w.heap.size, 0, none⟩) [⟨k, n, s⟩] := by
  intro i hi
  have : i = 0 := by simp at hi; omega
  subst this
  refine ⟨w.heap.size, 0, rfl, by omega, ?_, ?_, ?_⟩ <;> (simp only [Nat.zero_mul, Nat.zero_add, List.getElem_cons_zero]; go_simp)
/-- What CheckValue tells. -/
def CvI (lim : Int) (l : List Wd) (k n : Int) (s : ByteArray) (r : Int) : Prop :=
  (r = 0 ∧ ∃ acc ms, OkC lim l acc ms ∧ valB (plOf acc) k n s = true) ∨ (r = 3 ∧ ∃ acc ms, OkC lim l acc ms ∧ valB (plOf acc) k n s = false) ∨ (r = 9 ∧ BadC lim l)
theorem allB_one (ps : List (Int × Int)) (k n : Int) (s : ByteArray) : allB ps [⟨k, n, s⟩] = valB ps k n s := by simp [allB]
theorem below_3 (w : World) (o o' o'' : Obj) : Below w.heap.size w (((w.alloc o).alloc o').alloc o'') := (below_2 w o o').alloc (by simp; omega) _
set_option maxHeartbeats 2000000 in
theorem CheckValue_any (w : World) (B : Nat) (a : Option Addr) (len cap : Nat) (l : List Wd) (lim : Int) (k n : Int) (s : ByteArray) (hW : Wds w B a l) (hB : B ≤ w.heap.size) (hlen : len = l.length) (hcap : len ≤ cap) (hl : len ≤ 9223372036854775807) (hwf : wfL l) (hn : wfI n) (hs : s.size ≤ 9223372036854775807) :
    Calls Try.prog 19 #[.agg #[.slice a len cap, .int .i64 lim], .agg #[.int .i64 k, .int .i64 n, .string s]] w fun e w' => ∃ r, e = .returned (.int .i64 r) ∧ CvI lim l k n s r ∧ Below w.heap.size w w' := by
  have HL := hid hlen
  clear hlen
  obtain ⟨w2, hw2⟩ : ∃ w2, w2 = (w.alloc (.cells #[.slice a len cap, .int .i64 lim] 24)).alloc (.cells #[.int .i64 k, .int .i64 n, .string s] 37) := ⟨_, rfl⟩
  have hb2 : Below w.heap.size w w2 := by rw [hw2]; exact below_2 _ _ _
  have hz2 : w2.heap.size = w.heap.size + 2 := by rw [hw2]; simp
  have hone := wds_one w2 k n s 37
  obtain ⟨w3, hw3⟩ : ∃ w3, w3 = w2.alloc (.cells #[.int .i64 k, .int .i64 n, .string s] 37) := ⟨_, rfl⟩
  have hb3 : Below w2.heap.size w2 w3 := by rw [hw3]; exact (Below.refl _ _).alloc (Nat.le_refl _) _
  have hz3 : w3.heap.size = w.heap.size + 3 := by rw [hw3]; simp [hz2]
  rw [← hw3, hz2] at hone
  have hB3 := hid (hb2.trans (hb3.mono (by omega)))
  have hcall := chartFor_any w3 (w.heap.size + 3) a len cap l lim ((hW.below (hB3.out.mono hB)).mono (by omega)) (by omega) HL.out hcap hl hwf (some ⟨w.heap.size + 2, 0, none⟩) 1 1 [⟨k, n, s⟩] hone rfl (by omega) (fun i hi => by
    have : i = 0 := by simp at hi; omega
    subst this; exact ⟨hn, hs⟩)
  have HC := hid hcall
  have H2 := hid hw2
  have H3 := hid hw3
  clear hcall hone hw2 hw3 hb2 hb3 hz2
  go_enter Try.func19, Try.ntmps19
  go_wp2_with fail
  rw [← H2.out, ← H3.out]
  have hcall := HC.out
  go_fit hcall
  clear hcall
  rintro e w4 ⟨hb4, ⟨v, acc, pb, mb, ms, rfl, hok, hall, hV⟩ | ⟨rfl, acc, ms, hok, hall⟩ | ⟨rfl, hbad⟩⟩
  · obtain ⟨av, capv, hv, _, _⟩ := hV.row.cells
    subst hv
    have HX := hid (show CvI lim l k n s 0 from Or.inl ⟨rfl, acc, ms, hok, by rw [← allB_one]; exact hall⟩)
    have hB4 := hid (hB3.out.trans (hb4.mono (by omega)))
    go_wp2_with fail
    go_ret
    exact ⟨0, rfl, HX.out, hB4.out.alloc hB4.out.size _⟩
  · have HX := hid (show CvI lim l k n s 3 from Or.inr (Or.inl ⟨rfl, acc, ms, hok, by rw [← allB_one]; exact hall⟩))
    have hB4 := hid (hB3.out.trans (hb4.mono (by omega)))
    go_wp2_with fail
    go_ret
    exact ⟨3, rfl, HX.out, hB4.out.alloc hB4.out.size _⟩
  · have HX := hid (show CvI lim l k n s 9 from Or.inr (Or.inr ⟨rfl, hbad⟩))
    have hB4 := hid (hB3.out.trans (hb4.mono (by omega)))
    go_wp2_with fail
    go_ret
    exact ⟨9, rfl, HX.out, hB4.out.alloc hB4.out.size _⟩
set_option maxHeartbeats 2000000 in
theorem ValueMay_any (w : World) (B : Nat) (a : Option Addr) (len cap : Nat) (l : List Wd) (lim : Int) (k n : Int) (s : ByteArray) (hW : Wds w B a l) (hB : B ≤ w.heap.size) (hlen : len = l.length) (hl : len ≤ 60000) (accR : List Th) (hR : ChainR l accR l.length) :
    Calls Try.prog 29 #[.agg #[.slice a len cap, .int .i64 lim], .agg #[.int .i64 k, .int .i64 n, .string s]] w fun e w' => e = .returned (.bool (wmB k n s && (decide (¬ k = 5) || refB len accR n))) ∧ Below w.heap.size w w' := by
  have HL := hid hlen
  clear hlen
  obtain ⟨w2, hw2⟩ : ∃ w2, w2 = (w.alloc (.cells #[.slice a len cap, .int .i64 lim] 24)).alloc (.cells #[.int .i64 k, .int .i64 n, .string s] 37) := ⟨_, rfl⟩
  have hb2 : Below w.heap.size w w2 := by rw [hw2]; exact below_2 _ _ _
  have hz2 : w2.heap.size = w.heap.size + 2 := by rw [hw2]; simp
  have t0 : w2.cell? ⟨w.heap.size + 1, 0, none⟩ = some (.int .i64 k) ∧ w2.cell? ⟨w.heap.size + 1, 1, none⟩ = some (.int .i64 n) ∧ w2.cell? ⟨w.heap.size + 1, 2, none⟩ = some (.string s) := by
    rw [hw2]; refine ⟨?_, ?_, ?_⟩ <;> go_simp
  have hcall := beginsOf_any w2 B a len cap l (hW.below (hb2.mono hB)) (by omega) HL.out hl
  have HC := hid hcall
  have H2 := hid hw2
  have HB2 := hid hb2
  clear hcall hw2 hb2
  go_enter Try.func29, Try.ntmps29
  go_wp2_with fail
  rw [← H2.out]
  have hcall := HC.out
  go_fit hcall
  clear hcall
  rintro e w3 ⟨hb3, ⟨rfl, acc, hch, hbeg, hgl⟩ | ⟨rfl, acc, i, hch, hi, hno⟩⟩
  · obtain ⟨rfl, _⟩ := hch.same hR hch.full hR.full
    have hB3 := hid (HB2.out.trans (hb3.mono (by omega)))
    obtain ⟨y0, y1, y2⟩ := t0
    have x0 := (hb3.cell (p := ⟨w.heap.size + 1, 0, none⟩) (by dsimp only; omega)).trans y0
    have x1 := (hb3.cell (p := ⟨w.heap.size + 1, 1, none⟩) (by dsimp only; omega)).trans y1
    have x2 := (hb3.cell (p := ⟨w.heap.size + 1, 2, none⟩) (by dsimp only; omega)).trans y2
    rw [hz2] at hbeg hgl
    have HBeg := hid hbeg
    clear hb3 hbeg y0 y1 y2 HC
    go_wp2_with fail
    have hcall := wordMay_any k n s w3
    go_fit hcall
    clear hcall
    rintro e w4 ⟨rfl, hb4⟩
    have z0 := (hb4.cell (p := ⟨w.heap.size + 1, 0, none⟩) (by dsimp only; omega)).trans x0
    have z1 := (hb4.cell (p := ⟨w.heap.size + 1, 1, none⟩) (by dsimp only; omega)).trans x1
    have HRt := hid (refersTo_any w4 (w.heap.size + 2) len acc n (HBeg.out.below hb4 (by omega)) hl)
    have hB4 := hid (hB3.out.trans (hb4.mono (by omega)))
    clear hb4 x0 x1 x2
    by_cases h5 : k = 5
    · subst h5
      cases hwb : wmB 5 n s
      · go_wp2_with fail
        go_ret
        exact ⟨ret_bool (by simp), hB4.out⟩
      · go_wp2_with (go_at_call 44; refine HRt.out.mono ?_; rintro e w' ⟨rfl, rfl⟩)
        go_ret
        exact ⟨ret_bool (by simp), hB4.out⟩
    · have h5b : (k != 5) = true := by simp [h5]
      cases hwb : wmB k n s
      · go_wp2_with fail
        go_ret
        exact ⟨ret_bool (by simp [hwb]), hB4.out⟩
      · go_wp2_with fail
        go_ret
        exact ⟨ret_bool (by simp [hwb, h5]), hB4.out⟩
  · have := (hch.same hR (hch.stuck hno) hR.full).2
    omega
end Go.Proofs.Ytfjfobpdlmdddaa

/- read.Show and the document's DatumShown, and both side by side. -/
import Derived.Test.YtfhiolnoalghmaaDoorShows3
namespace Go.Proofs.YtfhiolnoalghmaaDoor
open Go.RowKit
set_option maxRecDepth 100000 in
set_option maxHeartbeats 2000000 in
theorem write_any (W : World) (hT : Tab W) (B : Nat) (hBW : W.heap.size ≤ B) (d : Nat) : WriteAt W B d := by
  induction d with
  | zero => intro k n s a len cap b l w _ _ _ h _ _; exact absurd h (alone_deep k n s len)
  | succ d ih =>
    intro k n s a len cap b l w hW hBs hF h hlim hI
    obtain ⟨hE, hel⟩ := flt_parts h
    obtain ⟨_, hcase⟩ := alone_zero _ _ _ _ _ hE
    have hWs := hW.size
    have hbX := hid ((Below.refl w.heap.size w).alloc (Nat.le_refl _) (.cells #[.int .i64 k, .int .i64 n, .string s, .slice a len cap] 24))
    have HIX := hid (hI.keep hbX.out)
    have HTX := hid (hT.keep (hW.trans (hbX.out.mono hWs)))
    have hW1 := hid (hW.trans (hbX.out.mono hWs))
    clear h hE
    rcases hcase with ⟨rfl, hn, hs0, rfl⟩ | ⟨rfl, hn, hs0, rfl⟩ | ⟨rfl, hn, rfl, rfl⟩ | ⟨rfl, rfl, hs0⟩
    · have hTx : Hid (txtI W (d + 1) 1 n s a 0 = Lib.itoa n) := hid rfl
      have hr : -1099511627776 ≤ n ∧ n ≤ 1099511627776 := by simpa [inI] using hn
      have hll : l.length + (Lib.itoa n).length ≤ 1099511627776 := by rw [← hTx.out]; exact hlim
      go_enter Tryd.func21, Tryd.ntmps21
      go_wp2_with fail
      have hcall := showItoa n hr.1 hr.2 _ HTX.out
      go_fit hcall
      clear hcall
      rintro e w1 ⟨rfl, hb1⟩
      have hB1 : Below B w w1 := (hbX.out.mono hBs).trans (hb1.mono (by simp; omega))
      have hcall := wStr_any B b l (Lib.itoa n) w1 (HIX.out.keep hb1) hll (by have := hB1.size; omega)
      have HCL := hid hcall
      clear hcall
      go_wp2_with fail
      have hcall := HCL.out
      go_fit hcall
      clear hcall
      rintro e w2 ⟨⟨z, rfl⟩, hI2, hb2⟩
      go_wp2_with fail
      go_end0
      exact ⟨rfl, by rw [hTx.out]; exact hI2, hB1.trans hb2⟩
    · have hTx : Hid (txtI W (d + 1) 2 n s a 0 = boolT n) := hid rfl
      have hll : l.length + (boolT n).length ≤ 1099511627776 := by rw [← hTx.out]; exact hlim
      have hcall := wStr_any B b l (boolT n) _ HIX.out hll (by simp; omega)
      have HCL := hid hcall
      clear hcall
      go_enter Tryd.func21, Tryd.ntmps21
      go_wp2_with (go_at_call 33; refine (boolText_any _ _).mono ?_; rintro e w1 ⟨rfl, hw1⟩; obtain rfl := hw1.symm)
      have hcall := HCL.out
      go_fit hcall
      clear hcall
      rintro e w2 ⟨⟨z, rfl⟩, hI2, hb2⟩
      go_wp2_with fail
      go_end0
      exact ⟨rfl, by rw [hTx.out]; exact hI2, (hbX.out.mono hBs).trans hb2⟩
    · have hTx : Hid (txtI W (d + 1) 3 0 s a 0 = s.data.toList) := hid rfl
      have hll : l.length + s.data.toList.length ≤ 1099511627776 := by rw [← hTx.out]; exact hlim
      have hcall := wStr_any B b l s.data.toList _ HIX.out hll (by simp; omega)
      rw [show (⟨s.data.toList.toArray⟩ : ByteArray) = s from rfl] at hcall
      have HCL := hid hcall
      clear hcall
      go_enter Tryd.func21, Tryd.ntmps21
      go_wp2_with fail
      have hcall := HCL.out
      go_fit hcall
      clear hcall
      rintro e w2 ⟨⟨z, rfl⟩, hI2, hb2⟩
      go_wp2_with fail
      go_end0
      exact ⟨rfl, by rw [hTx.out]; exact hI2, (hbX.out.mono hBs).trans hb2⟩
    · have hTx : Hid (txtI W (d + 1) 4 0 s a len = [40] ++ joinTo (elemT W (txtI W d) a) len ++ [41]) := hid rfl
      have hcall := writeList_any W B d hBW ih a s len cap b l _ hW1.out (by simp; omega) hF hel (by rw [← hTx.out]; exact hlim) HIX.out
      have HCL := hid hcall
      clear hcall
      go_enter Tryd.func21, Tryd.ntmps21
      go_wp2_with fail
      have hcall := HCL.out
      go_fit hcall
      clear hcall
      rintro e w2 ⟨rfl, hI2, hb2⟩
      go_wp2_with fail
      go_end0
      exact ⟨rfl, by rw [hTx.out]; exact hI2, (hbX.out.mono hBs).trans hb2⟩
set_option maxHeartbeats 400000 in
theorem check_any (W : World) (k n : Int) (s : ByteArray) (a : Option Addr) (len cap : Nat) (w : World) (hW : Below W.heap.size W w) (hF : Fine W W.heap.size 40 s a len) :
    Calls Tryd.prog 17 #[.agg #[.int .i64 k, .int .i64 n, .string s, .slice a len cap]] w fun e w' => e = .returned (.int .i64 (fltI W 40 k n s a len)) ∧ Below w.heap.size w w' := by
  have hWs := hW.size
  have HW : Hid (Below W.heap.size W (w.alloc (.cells #[.int .i64 k, .int .i64 n, .string s, .slice a len cap] 24))) := hW.alloc hWs _
  go_enter Tryd.func17, Tryd.ntmps17
  go_wp2_with fail
  have hcall := within_any W W.heap.size 40 k n s a len cap 0 _ (by omega) (by omega) HW.out (by simp; omega) hF
  go_fit hcall
  rintro e w2 ⟨rfl, hb2⟩
  go_wp2_with fail
  go_ret
  exact ⟨rfl, ((Below.refl _ _).alloc (Nat.le_refl _) _).trans (hb2.mono (by simp))⟩
set_option maxHeartbeats 400000 in
theorem datumFault_any (W : World) (k n : Int) (s : ByteArray) (a : Option Addr) (len cap : Nat) (w : World) (hW : Below W.heap.size W w) (hF : Fine W W.heap.size 40 s a len) :
    Calls Tryd.prog 23 #[.agg #[.int .i64 k, .int .i64 n, .string s, .slice a len cap]] w fun e w' => e = .returned (.int .i64 (fltI W 40 k n s a len)) ∧ Below w.heap.size w w' := by
  have hWs := hW.size
  have HW : Hid (Below W.heap.size W (w.alloc (.cells #[.int .i64 k, .int .i64 n, .string s, .slice a len cap] 24))) := hW.alloc hWs _
  go_enter Tryd.func23, Tryd.ntmps23
  go_wp2_with fail
  have hcall := fault_any W W.heap.size 40 k n s a len cap 1 _ (by omega) (by omega) HW.out (by simp; omega) hF
  go_fit hcall
  rintro e w2 ⟨rfl, hb2⟩
  go_wp2_with fail
  go_ret
  exact ⟨rfl, ((Below.refl _ _).alloc (Nat.le_refl _) _).trans (hb2.mono (by simp))⟩
theorem box_all {w wr : World} {v0 v1 v2 v3 : Value} {t : TypeId} (hbr : Below (w.heap.size + 1) (w.alloc (.cells #[v0, v1, v2, v3] t)) wr) :
    wr.cell? ⟨w.heap.size, 0, none⟩ = some v0 ∧ wr.cell? ⟨w.heap.size, 1, none⟩ = some v1 ∧ wr.cell? ⟨w.heap.size, 2, none⟩ = some v2 ∧ wr.cell? ⟨w.heap.size, 3, none⟩ = some v3 := by
  refine ⟨?_, ?_, ?_, ?_⟩
  all_goals
    rw [hbr.cell (show w.heap.size < w.heap.size + 1 by omega)]
    go_simp
/-- How both end: the error, or the text. -/
def showE (W : World) (k n : Int) (s : ByteArray) (a : Option Addr) (len : Nat) : Ending :=
  if fltI W 40 k n s a len = 0 then .returned (.tuple #[.string ⟨(txtI W 40 k n s a len).toArray⟩, .int .i64 0]) else .returned (.tuple #[.string ⟨#[]⟩, .int .i64 (fltI W 40 k n s a len)])
set_option maxHeartbeats 1000000 in
theorem DatumShown_any (W : World) (k n : Int) (s : ByteArray) (a : Option Addr) (len cap : Nat) (w : World) (hW : Below W.heap.size W w) (hF : Fine W W.heap.size 40 s a len) (hlim : fltI W 40 k n s a len = 0 → (txtI W 40 k n s a len).length ≤ 1099511627776) :
    Calls Tryd.prog 10 #[.agg #[.int .i64 k, .int .i64 n, .string s, .slice a len cap]] w fun e w' => e = showE W k n s a len ∧ Below w.heap.size w w' := by
  have hWs := hW.size
  have hb0 := hid ((Below.refl w.heap.size w).alloc (Nat.le_refl _) (.cells #[.int .i64 k, .int .i64 n, .string s, .slice a len cap] 24))
  have HW1 := hid (hW.alloc hWs (.cells #[.int .i64 k, .int .i64 n, .string s, .slice a len cap] 24))
  have HC := hid (datumFault_any W k n s a len cap _ HW1.out hF)
  by_cases he : fltI W 40 k n s a len = 0
  · have hE : Hid (showE W k n s a len = .returned (.tuple #[.string ⟨(txtI W 40 k n s a len).toArray⟩, .int .i64 0])) := hid (by unfold showE; rw [if_pos he])
    have hlim2 := hlim he
    have HT := hid (fun w' (hb : Below W.heap.size W w') => text_any W W.heap.size 40 k n s a len cap w' hb hb.size hF he hlim2)
    rw [he] at HC
    generalize txtI W 40 k n s a len = t at hE HT
    clear he hlim hlim2
    go_enter Tryd.func10, Tryd.ntmps10
    go_wp2_with fail
    have hcall := HC.out
    go_fit hcall
    clear hcall
    rintro e w1 ⟨rfl, hb1⟩
    have hb1' : Below (w.heap.size + 1) (w.alloc (.cells #[.int .i64 k, .int .i64 n, .string s, .slice a len cap] 24)) w1 := hb1.mono (by simp)
    obtain ⟨x0, x1, x2, x3⟩ := box_all hb1'
    have hz1 : w.heap.size + 1 ≤ w1.heap.size := by have h := hb1'.size; simpa using h
    have HW2 := hid (HW1.out.trans (hb1'.mono (by omega)))
    clear hb1
    go_wp2_with fail
    have hcall := HT.out w1 HW2.out
    go_fit hcall
    clear hcall
    rintro e w2 ⟨rfl, hb2⟩
    go_wp2_with fail
    go_ret2
    exact ⟨by rw [hE.out]; rfl, hb0.out.trans ((hb1'.mono (by omega)).trans (hb2.mono (by omega)))⟩
  · have hE : Hid (showE W k n s a len = .returned (.tuple #[.string ⟨#[]⟩, .int .i64 (fltI W 40 k n s a len)])) := hid (by unfold showE; rw [if_neg he])
    generalize fltI W 40 k n s a len = r at he hE HC
    go_enter Tryd.func10, Tryd.ntmps10
    go_wp2_with fail
    have hcall := HC.out
    go_fit hcall
    clear hcall
    rintro e w1 ⟨rfl, hb1⟩
    go_wp2_with fail
    go_ret2
    exact ⟨by rw [hE.out]; rfl, hb0.out.trans (hb1.mono (by simp))⟩
theorem bString_any (B b : Nat) (l : List UInt8) (w : World) (h : IsB w B b l) (hB : B ≤ w.heap.size) :
    Calls Tryd.prog 22 #[.pointer (some ⟨b, 0, none⟩)] w fun e w' => e = .returned (.string ⟨l.toArray⟩) ∧ Below B w w' :=
  (Any.Builder_String_any_k Tryd.lays169 Tryd.Builder_Extra_169 B b l w h hB).mono (fun _ _ ⟨h1, _, h3, _⟩ => ⟨h1, h3⟩)
theorem fresh_B (w : World) (B : Nat) (hB : B ≤ w.heap.size) : IsB (w.alloc (.cells #[.pointer none, .slice none 0 0] 48)) B w.heap.size [] :=
  Lib.IsBuilderF.of (Or.inl ⟨hB, .slice none 0 0, heap_alloc_new w _, ⟨rfl, Or.inl ⟨rfl, rfl⟩⟩, by simp [Value.ownBlock]⟩)
set_option maxRecDepth 100000 in
set_option maxHeartbeats 1000000 in
theorem Show_any (W : World) (hT : Tab W) (k n : Int) (s : ByteArray) (a : Option Addr) (len cap : Nat) (w : World) (hW : Below W.heap.size W w) (hF : Fine W W.heap.size 40 s a len) (hlim : fltI W 40 k n s a len = 0 → (txtI W 40 k n s a len).length ≤ 1099511627776) :
    Calls Tryd.prog 9 #[.agg #[.int .i64 k, .int .i64 n, .string s, .slice a len cap]] w fun e w' => e = showE W k n s a len ∧ Below w.heap.size w w' := by
  have hWs := hW.size
  have hb0 := hid ((Below.refl w.heap.size w).alloc (Nat.le_refl _) (.cells #[.int .i64 k, .int .i64 n, .string s, .slice a len cap] 24))
  have HW1 := hid (hW.alloc hWs (.cells #[.int .i64 k, .int .i64 n, .string s, .slice a len cap] 24))
  have HC := hid (check_any W k n s a len cap _ HW1.out hF)
  by_cases he : fltI W 40 k n s a len = 0
  · have hE : Hid (showE W k n s a len = .returned (.tuple #[.string ⟨(txtI W 40 k n s a len).toArray⟩, .int .i64 0])) := hid (by unfold showE; rw [if_pos he])
    have hlim2 := hlim he
    have HT := hid (fun w' (b : Nat) (hb : Below W.heap.size W w') (hB : w.heap.size ≤ w'.heap.size) (hI : IsB w' w.heap.size b []) => write_any W hT w.heap.size hWs 40 k n s a len cap b [] w' hb hB hF he (by simpa using hlim2) hI)
    rw [he] at HC
    generalize txtI W 40 k n s a len = t at hE HT
    clear he hlim hlim2
    go_enter Tryd.func9, Tryd.ntmps9
    go_wp2_with fail
    have hcall := HC.out
    go_fit hcall
    clear hcall
    rintro e w1 ⟨rfl, hb1⟩
    have hb1' : Below (w.heap.size + 1) (w.alloc (.cells #[.int .i64 k, .int .i64 n, .string s, .slice a len cap] 24)) w1 := hb1.mono (by simp)
    obtain ⟨x0, x1, x2, x3⟩ := box_all hb1'
    have hz1 : w.heap.size + 1 ≤ w1.heap.size := by have h := hb1'.size; simpa using h
    have hzl : w.heap.size < w1.heap.size := by omega
    have HW2 := hid (HW1.out.trans (hb1'.mono (by omega)))
    clear hb1
    have hbb := hid ((Below.refl w1.heap.size w1).alloc (Nat.le_refl _) (.cells #[.pointer none, .slice none 0 0] 48))
    have HCL := hid (HT.out _ w1.heap.size (HW2.out.trans (hbb.out.mono (by have := HW2.out.size; omega))) (by simp; omega) (fresh_B w1 w.heap.size (by omega)))
    go_wp2_with fail
    have hcall := HCL.out
    go_fit hcall
    clear hcall
    rintro e w2 ⟨rfl, hI2, hb2⟩
    have hz2 := hb2.size
    simp at hz2
    simp only [List.nil_append] at hI2
    have HS := hid (bString_any w.heap.size w1.heap.size t w2 hI2 (by omega))
    go_wp2_with fail
    have hcall := HS.out
    go_fit hcall
    clear hcall
    rintro e w3 ⟨rfl, hb3⟩
    go_wp2_with fail
    go_ret2
    exact ⟨by rw [hE.out]; rfl, ((hb0.out.trans (hb1'.mono (by omega))).trans (hbb.out.mono (by omega))).trans (hb2.trans hb3)⟩
  · have hE : Hid (showE W k n s a len = .returned (.tuple #[.string ⟨#[]⟩, .int .i64 (fltI W 40 k n s a len)])) := hid (by unfold showE; rw [if_neg he])
    generalize fltI W 40 k n s a len = r at he hE HC
    go_enter Tryd.func9, Tryd.ntmps9
    go_wp2_with fail
    have hcall := HC.out
    go_fit hcall
    clear hcall
    rintro e w1 ⟨rfl, hb1⟩
    go_wp2_with fail
    go_ret2
    exact ⟨by rw [hE.out]; rfl, hb0.out.trans (hb1.mono (by simp))⟩
theorem showE_form (W : World) (k n : Int) (s : ByteArray) (a : Option Addr) (len : Nat) : ∃ x r, showE W k n s a len = .returned (.tuple #[.string x, .int .i64 r]) := by
  unfold showE
  split
  · exact ⟨_, _, rfl⟩
  · exact ⟨_, _, rfl⟩
set_option maxHeartbeats 1000000 in
theorem shows_walk (k n : Int) (s : ByteArray) (a : Option Addr) (len cap : Nat) (w : World) (hT : Tab w) (hF : Fine w w.heap.size 40 s a len) (hlim : fltI w 40 k n s a len = 0 → (txtI w 40 k n s a len).length ≤ 1099511627776) :
    Calls Tryd.prog 3 #[.agg #[.int .i64 k, .int .i64 n, .string s, .slice a len cap]] w fun e w' => e = .returned (.bool true) ∧ Below w.heap.size w w' := by
  have hb0 := hid ((Below.refl w.heap.size w).alloc (Nat.le_refl _) (.cells #[.int .i64 k, .int .i64 n, .string s, .slice a len cap] 24))
  have HC1 := hid (Show_any w hT k n s a len cap _ hb0.out hF hlim)
  have HC2 := hid (fun w' (h : Below w.heap.size w w') => DatumShown_any w k n s a len cap w' h hF hlim)
  obtain ⟨x, r, hx⟩ := showE_form w k n s a len
  rw [hx] at HC1 HC2
  clear hx hF hlim
  go_enter Tryd.func3, Tryd.ntmps3
  go_wp2_with fail
  have hcall := HC1.out
  go_fit hcall
  clear hcall
  rintro e w1 ⟨rfl, hb1⟩
  have hb1' : Below (w.heap.size + 1) (w.alloc (.cells #[.int .i64 k, .int .i64 n, .string s, .slice a len cap] 24)) w1 := hb1.mono (by simp)
  obtain ⟨x0, x1, x2, x3⟩ := box_all hb1'
  have hz1 : w.heap.size + 1 ≤ w1.heap.size := by have h := hb1'.size; simpa using h
  have HW2 := hid (hb0.out.trans (hb1'.mono (by omega)))
  clear hb1
  go_wp2_with fail
  have hcall := HC2.out w1 HW2.out
  go_fit hcall
  clear hcall
  rintro e w2 ⟨rfl, hb2⟩
  go_wp2_with fail
  go_ret
  exact ⟨rfl, HW2.out.trans (hb2.mono (by omega))⟩
end Go.Proofs.YtfhiolnoalghmaaDoor

/- read's write: the text of a datum goes behind what a Builder holds. -/
import Derived.Test.YtfhiolnoalghmaaDoorShows2
import Derived.Lib.AppendIntMem
import Derived.WalkSmall
namespace Go.Proofs.YtfhiolnoalghmaaDoor
open Go.RowKit
/-- A Builder of one's own holds these bytes. -/
def IsB (w : World) (B b : Nat) (l : List UInt8) : Prop := Lib.IsBuilderF 48 5 B b (Lib.byteCells l) w
theorem bytes_app (l m : List UInt8) : Lib.byteCells l ++ Lib.byteCells m = Lib.byteCells (l ++ m) := by simp [Lib.byteCells]
theorem rowB_keep {w w' : World} {B k : Nat} {ty : TypeId} {v : Value} {n : Nat} {cells : List Value} (h : w.ownsRowF B ty k v n cells) (hk : ∀ b, b < w.heap.size → w'.heap[b]? = w.heap[b]?) : w'.ownsRowF B ty k v n cells := by
  refine ⟨h.1, ?_⟩
  rcases h.2 with h | ⟨g, cap, cur, fz, hv, hb, hg, hr⟩
  · exact Or.inl h
  · have hlt : g < w.heap.size := by
      rcases Nat.lt_or_ge g w.heap.size with h' | h'
      · exact h'
      · rw [Array.getElem?_eq_none h'] at hg; cases hg
    exact Or.inr ⟨g, cap, cur, fz, hv, hb, by rw [hk g hlt]; exact hg, hr⟩
theorem IsB.keep {w w' : World} {B b : Nat} {l : List UInt8} (h : IsB w B b l) (hb : Below w.heap.size w w') : IsB w' B b l := by
  have gen : ∀ p, Lib.BuilderAtF 48 5 B b p (Lib.byteCells l) w → Lib.BuilderAtF 48 5 B b p (Lib.byteCells l) w' := fun p h => by
    have hlt := h.lt
    obtain ⟨h1, v, h2, h3, h4⟩ := h
    exact ⟨h1, v, (hb.block b hlt).trans h2, rowB_keep h3 (fun g hg => hb.block g hg), h4⟩
  exact h.elim (fun h => Or.inl (gen _ h)) (fun h => Or.inr (gen _ h))
theorem IsB.le {w : World} {B b : Nat} {l : List UInt8} (h : IsB w B b l) : B ≤ b ∧ b < w.heap.size := by
  rcases h with h | h
  · exact ⟨h.1, h.lt⟩
  · exact ⟨h.1, h.lt⟩
/-- All but the Builder and rows of bytes stands as it stood. -/
abbrev Oth (b : Nat) (w w' : World) : Prop := Lib.OthersKept 5 (some b) w w'
theorem oth_box {X w' : World} {b : Nat} (wr : World) {v0 v1 v2 v3 : Value} (h : Oth b X w') (hX : X = wr.alloc (.cells #[v0, v1, v2, v3] 24)) (hb : b < wr.heap.size) :
    w'.cell? ⟨wr.heap.size, 0, none⟩ = some v0 ∧ w'.cell? ⟨wr.heap.size, 1, none⟩ = some v1 ∧ w'.cell? ⟨wr.heap.size, 2, none⟩ = some v2 ∧ w'.cell? ⟨wr.heap.size, 3, none⟩ = some v3 := by
  have h1 : X.heap[wr.heap.size]? = some (.cells #[v0, v1, v2, v3] 24 (0, 0)) := by rw [hX]; exact heap_alloc_new wr _
  have h2 := h _ _ h1 (fun e => by injection e with e; omega) (fun c fz e => by injection e with _ e _; exact absurd e (by decide))
  refine ⟨?_, ?_, ?_, ?_⟩ <;> (unfold World.cell?; simp [h2])
theorem wByte_any (B b : Nat) (l : List UInt8) (c : UInt8) (z : Int) (w : World) (h : IsB w B b l) (hl : l.length ≤ 1099511627776) (hB : B ≤ w.heap.size) (hz : z = c.toNat) :
    Calls Tryd.prog 51 #[.pointer (some ⟨b, 0, none⟩), .int .u8 z] w fun e w' => e = .returned .nilIface ∧ IsB w' B b (l ++ [c]) ∧ Below B w w' ∧ Oth b w w' := by
  subst hz
  refine (Tryd.Builder_WriteByte_k B b (Lib.byteCells l) c.toNat w h (by rw [Lib.byteCells_length]; omega) hB).mono ?_
  rintro e w' ⟨rfl, h1, h2, h3⟩
  exact ⟨rfl, Or.inr (by rw [← bytes_app]; exact h1), h2, h3⟩
theorem wStr_any (B b : Nat) (l m : List UInt8) (w : World) (h : IsB w B b l) (hl : l.length + m.length ≤ 1099511627776) (hB : B ≤ w.heap.size) :
    Calls Tryd.prog 31 #[.pointer (some ⟨b, 0, none⟩), .string ⟨m.toArray⟩] w fun e w' => (∃ z, e = .returned (.tuple #[.int .i64 z, .nilIface])) ∧ IsB w' B b (l ++ m) ∧ Below B w w' := by
  have hs : (ByteArray.mk m.toArray).size = m.length := by show m.toArray.size = _; simp
  refine (Tryd.Builder_WriteString_k B b (Lib.byteCells l) ⟨m.toArray⟩ w h (by rw [Lib.byteCells_length, hs]; omega) hB).mono ?_
  rintro e w' ⟨rfl, h1, h2, _⟩
  exact ⟨⟨_, rfl⟩, Or.inr (by rw [← bytes_app]; exact h1), h2⟩
theorem gTab0 : ∃ g, Tryd.prog.globalNamed "internal/strconv.uint64pow10" = some g := ⟨0, by kernel_rfl⟩
abbrev Tab (w : World) : Prop := Lib.TabIs Tryd.prog w "internal/strconv.uint64pow10" .u64 Lib.pow10Tab
theorem Tab.keep {W w : World} (h : Tab W) (hb : Below W.heap.size W w) : Tab w := by
  obtain ⟨g, hg⟩ := gTab0
  exact Joins.tab_stays hg h hb (Nat.le_refl _)
theorem showItoa (n : Int) (h0 : -1099511627776 ≤ n) (h1 : n ≤ 1099511627776) (w : World) (hT : Tab w) :
    Calls Tryd.prog 32 #[.int .i64 n] w fun e w' => e = .returned (.string ⟨(Lib.itoa n).toArray⟩) ∧ Below w.heap.size w w' := by
  refine (Tryd.strconv_Itoa n (by omega) (by omega) w hT).mono ?_
  rintro e w' ⟨rfl, k, os, rfl⟩
  exact ⟨rfl, Lib.below_grow _ _ (Nat.le_refl _) _ _⟩
/-- What write does at a depth. -/
def WriteAt (W : World) (B d : Nat) : Prop := ∀ (k n : Int) (s : ByteArray) (a : Option Addr) (len cap b : Nat) (l : List UInt8) (w : World), Below W.heap.size W w → B ≤ w.heap.size → Fine W W.heap.size d s a len → fltI W d k n s a len = 0 → l.length + (txtI W d k n s a len).length ≤ 1099511627776 → IsB w B b l →
  Calls Tryd.prog 21 #[.pointer (some ⟨b, 0, none⟩), .agg #[.int .i64 k, .int .i64 n, .string s, .slice a len cap]] w fun e w' => e = .returned (.tuple #[]) ∧ IsB w' B b (l ++ txtI W d k n s a len) ∧ Below B w w'
set_option maxRecDepth 100000 in
set_option maxHeartbeats 2000000 in
theorem writeList_any (W : World) (B d : Nat) (hBW : W.heap.size ≤ B) (hw : WriteAt W B d) (a : Option Addr) (s : ByteArray) (len cap b : Nat) (l : List UInt8) (w : World) (hW : Below W.heap.size W w) (hBs : B ≤ w.heap.size) (hF : Fine W W.heap.size (d + 1) s a len) (hel : ∀ j, j < len → elemI W (fltI W d) a j = 0)
    (hlim : l.length + ([40] ++ joinTo (elemT W (txtI W d) a) len ++ [41]).length ≤ 1099511627776) (hI : IsB w B b l) :
    Calls Tryd.prog 34 #[.pointer (some ⟨b, 0, none⟩), .slice a len cap] w fun e w' => e = .returned (.tuple #[]) ∧ IsB w' B b (l ++ ([40] ++ joinTo (elemT W (txtI W d) a) len ++ [41])) ∧ Below B w w' := by
  have hl := hF.len
  have HC1 := hid (wByte_any B b l 40 40 w hI (by simp at hlim; omega) hBs rfl)
  go_enter Tryd.func34, Tryd.ntmps34
  go_wp2_with fail
  have hcall := HC1.out
  go_fit hcall
  clear hcall
  rintro e w1 ⟨rfl, hI1, hb1, _⟩
  go_wp2_with fail
  go_loopw [10] (fun i wr => ∃ j : Nat, j ≤ len ∧ i = .int .i64 j ∧ IsB wr B b (l ++ ([40] ++ joinTo (elemT W (txtI W d) a) j)) ∧ Below B w wr) (fun i _ => len - (intOf i).toNat)
  case atStart => exact ⟨0, Nat.zero_le _, rfl, hI1, hb1⟩
  case round =>
    obtain ⟨j, hj, rfl, hIr, hbr⟩ := hrel
    have hWr := hid (hW.trans (hbr.mono hBW))
    have hWz : B ≤ wr.heap.size := Nat.le_trans hBs hbr.size
    have hIl := hIr.le
    by_cases hlt : j < len
    · obtain ⟨q1, q, k', n', s', a', len', cap', rfl, hbB, c0, c1, c2, c3, hF'⟩ := hF.2.2 j hlt
      have hflt : fltI W d k' n' s' a' len' = 0 := by
        have h1 := hel j hlt
        rw [elemI_eq (fltI W d) c0 c1 c2 c3] at h1
        exact h1
      have htx := elemT_eq (txtI W d) c0 c1 c2 c3
      have hjs := joinTo_step (elemT W (txtI W d) (some ⟨q1, q, none⟩)) len j hlt
      have hrd : ∀ x, wr.cell? ⟨q1, x, none⟩ = W.cell? ⟨q1, x, none⟩ := fun x => hWr.out.cell (p := ⟨q1, x, none⟩) hbB
      have g0 := (hrd _).trans c0
      have g1 := (hrd _).trans c1
      have g2 := (hrd _).trans c2
      have g3 := (hrd _).trans c3
      have htot : l.length + 2 + (joinTo (elemT W (txtI W d) (some ⟨q1, q, none⟩)) len).length ≤ 1099511627776 := by
        simp at hlim
        omega
      rw [htx] at hjs
      have HW := hid (hw k' n' s' a' len' cap')
      have HST : Hid (joinTo (elemT W (txtI W d) (some ⟨q1, q, none⟩)) (j + 1) = joinTo (elemT W (txtI W d) (some ⟨q1, q, none⟩)) j ++ (if 0 < j then [32] else []) ++ txtI W d k' n' s' a' len') := hid (by rw [joinTo, htx])
      have HFF := hid hF'
      have HFL := hid hflt
      clear hrd c0 c1 c2 c3 htx hflt hF'
      generalize hcur : l ++ ([40] ++ joinTo (elemT W (txtI W d) (some ⟨q1, q, none⟩)) j) = cur at hIr
      have hcl : cur.length = l.length + 1 + (joinTo (elemT W (txtI W d) (some ⟨q1, q, none⟩)) j).length := by rw [← hcur]; simp; omega
      have HCU := hid hcur
      clear hcur
      have hbl : q1 < wr.heap.size := by omega
      have HX := hid (hIr.keep ((Below.refl wr.heap.size wr).alloc (Nat.le_refl _) (.cells #[.int .i64 k', .int .i64 n', .string s', .slice a' len' cap'] 24)))
      have HBX := hid (hWr.out.alloc (Nat.le_trans hBW hWz) (.cells #[.int .i64 k', .int .i64 n', .string s', .slice a' len' cap'] 24))
      by_cases h0 : 0 < j
      · rw [if_pos h0] at hjs
        have h0i : (0 : Int) < j := by omega
        go_wp2_with fail
        have hcall := wByte_any B b cur 32 32 _ HX.out (by omega) (by simp; omega) rfl
        go_fit hcall
        clear hcall
        rintro e w2 ⟨rfl, hI2, hb2, ho2⟩
        obtain ⟨x0, x1, x2, x3⟩ := oth_box wr ho2 rfl hIl.2
        have hW2 := HBX.out.trans (hb2.mono hBW)
        have hcall := HW.out b (cur ++ [32]) w2 hW2 (by have := hb2.size; simp at this; omega) HFF.out HFL.out (by simp; omega) hI2
        have HCL := hid hcall
        clear hcall ho2
        go_wp2_with fail
        have hcall := HCL.out
        go_fit hcall
        clear hcall
        rintro e w3 ⟨rfl, hI3, hb3⟩
        go_wp2_with fail
        go_roundw
        case rel => exact ⟨j + 1, by omega, by go_num, by rw [HST.out, if_pos h0]; rw [← HCU.out] at hI3; simpa [List.append_assoc] using hI3, (hbr.trans (((Below.refl B wr).alloc hWz _).trans hb2)).trans hb3⟩
        case measure => simp [intOf]; omega
      · obtain rfl : j = 0 := by omega
        rw [if_neg h0] at hjs
        simp only [Nat.zero_mul, Nat.add_zero] at g0 g1 g2 g3
        have hcall := HW.out b cur (wr.alloc (.cells #[.int .i64 k', .int .i64 n', .string s', .slice a' len' cap'] 24)) HBX.out (by simp; omega) HFF.out HFL.out (by omega) HX.out
        have HCL := hid hcall
        clear hcall
        go_wp2_with fail
        have hcall := HCL.out
        go_fit hcall
        clear hcall
        rintro e w3 ⟨rfl, hI3, hb3⟩
        go_wp2_with fail
        go_roundw
        case rel => exact ⟨1, by omega, by go_num, by rw [HST.out, if_neg h0, List.append_nil]; rw [← HCU.out] at hI3; simpa [List.append_assoc] using hI3, hbr.trans (((Below.refl B wr).alloc hWz _).trans hb3)⟩
        case measure => simp [intOf]; omega
    · obtain rfl : j = len := by omega
      have hcall := wByte_any B b _ 41 41 wr hIr (by simp at hlim ⊢; omega) hWz rfl
      have HCL := hid hcall
      clear hcall
      go_wp2_with fail
      have hcall := HCL.out
      go_fit hcall
      clear hcall
      rintro e w2 ⟨rfl, hI2, hb2, _⟩
      go_wp2_with fail
      go_end0
      exact ⟨rfl, by simpa [List.append_assoc] using hI2, hbr.trans hb2⟩
end Go.Proofs.YtfhiolnoalghmaaDoor

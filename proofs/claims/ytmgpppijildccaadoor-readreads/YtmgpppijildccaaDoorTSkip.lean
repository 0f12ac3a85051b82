/- The document's reader in memory: its blanks and comments, the end of a word, the first thing that is wrong. -/
import Derived.Test.YtmgpppijildccaaDoorList
import Derived.Test.YtmgpppijildccaaDoorLeafRef
namespace Go.Proofs.YtmgpppijildccaaDoor
open Go.RowKit
set_option linter.unusedSimpArgs false
/-- A text that is read lies in block tb. -/
structure Tx (w : World) (tb : Nat) (s : ByteArray) (p c : Nat) (b e : Int) : Prop where
  c0 : w.cell? ⟨tb, 0, none⟩ = some (.string s)
  c1 : w.cell? ⟨tb, 1, none⟩ = some (.int .i64 p)
  c2 : w.cell? ⟨tb, 2, none⟩ = some (.int .i64 c)
  c3 : w.cell? ⟨tb, 3, none⟩ = some (.int .i64 b)
  c4 : w.cell? ⟨tb, 4, none⟩ = some (.int .i64 e)
  f1 : w.frozen? ⟨tb, 1, none⟩ = false
  f2 : w.frozen? ⟨tb, 2, none⟩ = false
  f3 : w.frozen? ⟨tb, 3, none⟩ = false
  f4 : w.frozen? ⟨tb, 4, none⟩ = false
theorem Tx.lt {w : World} {tb : Nat} {s : ByteArray} {p c : Nat} {b e : Int} (h : Tx w tb s p c b e) : tb < w.heap.size := World.block_lt_of_cell? w _ h.c0
theorem Tx.of_block {w w' : World} {tb : Nat} {s : ByteArray} {p c : Nat} {b e : Int} (h : Tx w tb s p c b e) (hb : w'.heap[tb]? = w.heap[tb]?) : Tx w' tb s p c b e :=
  ⟨(World.cell?_of_block (w := w) hb).trans h.c0, (World.cell?_of_block (w := w) hb).trans h.c1, (World.cell?_of_block (w := w) hb).trans h.c2, (World.cell?_of_block (w := w) hb).trans h.c3, (World.cell?_of_block (w := w) hb).trans h.c4,
   (World.frozen?_of_block (w := w) hb).trans h.f1, (World.frozen?_of_block (w := w) hb).trans h.f2, (World.frozen?_of_block (w := w) hb).trans h.f3, (World.frozen?_of_block (w := w) hb).trans h.f4⟩
theorem Tx.below {w w' : World} {tb : Nat} {s : ByteArray} {p c : Nat} {b e : Int} (h : Tx w tb s p c b e) (hb : Below w.heap.size w w') : Tx w' tb s p c b e := h.of_block (hb.block _ h.lt)
theorem Tx.drewN {w : World} {tb : Nat} {s : ByteArray} {p c : Nat} {b e : Int} (h : Tx w tb s p c b e) (n : Nat) : Tx (w.drewN n) tb s p c b e := ⟨h.c0, h.c1, h.c2, h.c3, h.c4, h.f1, h.f2, h.f3, h.f4⟩
theorem Tx.alloc {w : World} {tb : Nat} {s : ByteArray} {p c : Nat} {b e : Int} (h : Tx w tb s p c b e) (o : Obj) : Tx (w.alloc o) tb s p c b e := h.below ((Below.refl _ _).alloc (Nat.le_refl _) o)
theorem Tx.set4 {w : World} {tb : Nat} {s : ByteArray} {p c g : Nat} {b e : Int} (h : Tx w tb s p c b e) (hg : ¬ tb = g) (x0 x1 x2 x3 : Value) :
    Tx ((((w.setCell ⟨g, 0, none⟩ x0).setCell ⟨g, 1, none⟩ x1).setCell ⟨g, 2, none⟩ x2).setCell ⟨g, 3, none⟩ x3) tb s p c b e := h.of_block (heap_set4 w hg x0 x1 x2 x3)
theorem Tx.setPlace {w : World} {tb : Nat} {s : ByteArray} {p c : Nat} {b e : Int} (h : Tx w tb s p c b e) (q : Nat) (z : Int) (hz : z = q) : Tx (w.setCell ⟨tb, 1, none⟩ (.int .i64 z)) tb s q c b e := by
  obtain ⟨g0, g1, g2, g3, g4, k1, k2, k3, k4⟩ := h
  subst hz
  constructor <;> go_simp
theorem Tx.setCount {w : World} {tb : Nat} {s : ByteArray} {p c : Nat} {b e : Int} (h : Tx w tb s p c b e) (q : Nat) (z : Int) (hz : z = q) : Tx (w.setCell ⟨tb, 2, none⟩ (.int .i64 z)) tb s p q b e := by
  obtain ⟨g0, g1, g2, g3, g4, k1, k2, k3, k4⟩ := h
  subst hz
  constructor <;> go_simp
theorem Tx.setErr {w : World} {tb : Nat} {s : ByteArray} {p c : Nat} {b e : Int} (h : Tx w tb s p c b e) (b' e' : Int) : Tx ((w.setCell ⟨tb, 4, none⟩ (.int .i64 e')).setCell ⟨tb, 3, none⟩ (.int .i64 b')) tb s p c b' e' := by
  obtain ⟨g0, g1, g2, g3, g4, k1, k2, k3, k4⟩ := h
  constructor <;> go_simp
set_option maxHeartbeats 400000 in
theorem ends_any (c : Int) (w : World) :
    Calls Tryd.prog 40 #[.int .u8 c] w fun e w' => e = .returned (.bool (endsI c)) ∧ w' = w := by
  go_enter Tryd.func40, Tryd.ntmps40
  go_wp2
  all_goals (go_ret; exact ⟨ret_bool (by simp [endsI, blankI, Bool.or_assoc, *]), rfl⟩)
set_option maxHeartbeats 400000 in
theorem wrong_any (tb : Nat) (s : ByteArray) (p c : Nat) (b : Int) (at_ x : Int) (w : World) (hT : Tx w tb s p c b 0) :
    Calls Tryd.prog 39 #[.pointer (some ⟨tb, 0, none⟩), .int .i64 at_, .int .i64 x] w fun e w' => e = .returned (.agg #[.int .i64 0, .int .i64 0, .string ⟨#[]⟩, .slice none 0 0]) ∧ Tx w' tb s p c at_ x ∧ Past tb w w' := by
  have HT := hid hT
  have hlt := hT.lt
  obtain ⟨c0, c1, c2, c3, c4, f1, f2, f3, f4⟩ := hT
  go_enter Tryd.func39, Tryd.ntmps39
  go_wp2_with fail
  refine bodyPost_ret (v := .agg #[.int .i64 0, .int .i64 0, .string ⟨#[]⟩, .slice none 0 0]) (by simp [results, Tryd.results39, go_sem]) rfl ⟨rfl, ?_, ?_⟩
  · exact (HT.out.setErr at_ x).alloc _
  · exact (Past.setCell (p := ⟨tb, 3, none⟩) (Past.setCell (p := ⟨tb, 4, none⟩) (Past.refl tb w) (Or.inl rfl) _) (Or.inl rfl) _).alloc _
theorem blank_eq (c : Int) : (c == 32 || c == 10 || c == 9) = blankI c := rfl
set_option maxRecDepth 100000 in
set_option maxHeartbeats 2000000 in
theorem tskip_any (tb : Nat) (s : ByteArray) (p c : Nat) (b e : Int) (w : World) (hT : Tx w tb s p c b e) (hp : p ≤ s.size) (hs : s.size ≤ 3000) :
    Calls Tryd.prog 25 #[.pointer (some ⟨tb, 0, none⟩)] w fun en w' => en = .returned (.tuple #[]) ∧ Tx w' tb s (skipTo s.data.toList p) c b e ∧ Past tb w w' := by
  go_enter Tryd.func25, Tryd.ntmps25
  go_wp2_with fail
  go_loopg [2] (s.size - p) (fun k x wr => ∃ q, q + k = s.size ∧ p ≤ q ∧ skipB false (s.data.toList.drop q) = skipB false (s.data.toList.drop p) ∧ Tx wr tb s q c b e ∧ Past tb w wr)
  case atStart => exact ⟨p, by omega, Nat.le_refl _, rfl, hT, Past.refl _ _⟩
  case round =>
    obtain ⟨q, hqk, hpq, hsk, hTr, hP⟩ := hrel
    have HS := hid hsk
    have HT := hid hTr
    clear hsk
    obtain ⟨c0, c1, c2, c3, c4, f1, f2, f3, f4⟩ := hTr
    by_cases hlt : q < s.size
    · have hD := hid (drop_at s q hlt)
      have hqi : (q : Int) < s.size := by omega
      have hq0 : (0 : Int) ≤ q := by omega
      cases h59 : ((s[q].toNat : Int) == 59)
      · have H59 := hid h59
        cases hb : blankI s[q].toNat
        · have HB := hid hb
          have hb3 : ((s[q].toNat : Int) == 32) = false ∧ ((s[q].toNat : Int) == 10) = false ∧ ((s[q].toNat : Int) == 9) = false := by
            unfold blankI at hb; simp at hb ⊢; omega
          obtain ⟨b1, b2, b3⟩ := hb3
          clear hb
          go_wp2_with fail
          go_quiet (fail)
          go_wp2_with fail
          go_quiet (fail)
          go_wp2_with fail
          refine bodyPost_ret (results_none rfl _ _ _) rfl ?_
          refine ⟨rfl, ?_, hP.drewN _⟩
          have e : q = skipTo s.data.toList p := skipTo_of HS.out (by rw [hD.out]; simp [skipB, HB.out]; intro h; have := H59.out; rw [h] at this; simp at this) (by simp; omega)
          rw [← e]
          exact HT.out.drewN _
        · have HB := hid hb
          have hcase : ((s[q].toNat : Int) == 32) = true ∨ (((s[q].toNat : Int) == 32) = false ∧ ((s[q].toNat : Int) == 10) = true) ∨ (((s[q].toNat : Int) == 32) = false ∧ ((s[q].toNat : Int) == 10) = false ∧ ((s[q].toNat : Int) == 9) = true) := by
            unfold blankI at hb
            cases h1 : ((s[q].toNat : Int) == 32) <;> cases h2 : ((s[q].toNat : Int) == 10) <;> cases h3 : ((s[q].toNat : Int) == 9) <;> simp_all
          clear hb
          rcases hcase with b1 | ⟨b1, b2⟩ | ⟨b1, b2, b3⟩
          all_goals
            go_wp2_with fail
            go_quiet (fail)
            go_wp2_with fail
            go_quiet (fail)
            go_wp2_with fail
            go_roundg (gk - 1)
            case measure => omega
            case rel =>
              refine ⟨q + 1, by omega, by omega, ?_, (HT.out.drewN _).setPlace (q + 1) _ (by omega), Past.setCell (p := ⟨tb, 1, none⟩) (hP.drewN _) (Or.inl rfl) _⟩
              rw [← HS.out, hD.out]
              simp [skipB, HB.out]
      · have H59 := hid h59
        obtain ⟨g1, g2, g3⟩ := line_step s q hlt (by simpa using h59)
        go_wp2_with fail
        go_quiet (fail)
        go_wp2_with fail
        go_quiet (fail)
        go_wp2_with fail
        go_loopg [45] (s.size - q) (fun k2 x w2 => ∃ r, r + k2 = s.size ∧ q ≤ r ∧ lineIdx (s.data.toList.drop q) = (r - q) + lineIdx (s.data.toList.drop r) ∧ Tx w2 tb s r c b e ∧ Past tb w w2)
        case atStart => exact ⟨q, by omega, Nat.le_refl _, by omega, HT.out.drewN _, hP.drewN _⟩
        case round =>
          obtain ⟨r, hrk, hqr, hli, hT2, hP2⟩ := hrel
          have HLI := hid hli
          have HT2 := hid hT2
          have HG1 := hid g1
          have HG2 := hid g2
          have HG3 := hid g3
          clear hli c0 c1 c2 c3 c4 f1 f2 f3 f4 g1 g2 g3
          obtain ⟨c0, c1, c2, c3, c4, f1, f2, f3, f4⟩ := hT2
          by_cases hlt2 : r < s.size
          · have hri : (r : Int) < s.size := by omega
            have hr0 : (0 : Int) ≤ r := by omega
            have HD2 := hid (drop_at s r hlt2)
            cases h10 : ((s[r].toNat : Int) == 10)
            · have h10' : ((s[r].toNat : Int) != 10) = true := by simp [bne, h10]
              have HN : Hid (¬ s[r].toNat = 10) := fun e => by rw [e] at h10; simp at h10
              clear h10
              go_wp2_with fail
              go_quiet (fail)
              go_wp2_with fail
              go_roundg (gk - 1)
              case measure => omega
              case rel =>
                refine ⟨r + 1, by omega, by omega, ?_, (HT2.out.drewN _).setPlace (r + 1) _ (by omega), Past.setCell (p := ⟨tb, 1, none⟩) (hP2.drewN _) (Or.inl rfl) _⟩
                rw [HLI.out, HD2.out]
                simp only [lineIdx]
                rw [if_neg HN.out]
                omega
            · have h10' : ((s[r].toNat : Int) != 10) = false := by simp [bne, h10]
              have HN : Hid (s[r].toNat = 10) := by have := eq_of_beq h10; exact (by omega : s[r].toNat = 10)
              clear h10
              go_wp2_with fail
              go_quiet (fail)
              go_wp2_with fail
              have e : lineIdx (s.data.toList.drop q) = r - q := by
                rw [HLI.out, HD2.out]; simp only [lineIdx]; rw [if_pos HN.out]; rfl
              go_roundg (s.size - r)
              case measure => have := HG1.out; omega
              case rel =>
                refine ⟨r, by omega, by omega, ?_, HT2.out.drewN _, hP2.drewN _⟩
                have h3 := HG3.out
                rw [e, show q + (r - q) = r from by omega] at h3
                exact h3.trans HS.out
          · have hri : (s.size : Int) ≤ r := by omega
            go_wp2_with fail
            go_quiet (fail)
            go_wp2_with fail
            have e : lineIdx (s.data.toList.drop q) = r - q := by
              rw [HLI.out, List.drop_of_length_le (by simp; omega)]; rfl
            go_roundg (s.size - r)
            case measure => have := HG1.out; omega
            case rel =>
              refine ⟨r, by omega, by omega, ?_, HT2.out.drewN _, hP2.drewN _⟩
              have h3 := HG3.out
              rw [e, show q + (r - q) = r from by omega] at h3
              exact h3.trans HS.out
    · have hqi : (s.size : Int) ≤ q := by omega
      go_wp2_with fail
      go_quiet (fail)
      go_wp2_with fail
      go_end0
      have e : q = skipTo s.data.toList p := skipTo_of HS.out (by rw [List.drop_of_length_le (by simp; omega)]; rfl) (by simp; omega)
      rw [← e]
      exact ⟨rfl, HT.out.drewN _, hP.drewN _⟩
end Go.Proofs.YtmgpppijildccaaDoor

/- The document's wordMay, refersTo, beginsOf. -/
import Derived.Test.YtfjfobpdlmdddaaHRef
import Derived.OwnWalk
import Derived.Laws.OwnMore
namespace Go.Proofs.Ytfjfobpdlmdddaa
set_option maxRecDepth 100000
open Go.RowKit
def wmB (k n : Int) (s : ByteArray) : Bool :=
  if k = 1 then inB n (-1099511627776) 1099511627776 && decide (s.size = 0)
  else if k = 2 then inB n 0 1 && decide (s.size = 0)
  else if k = 3 then decide (n = 0) && decide (s.size = 0)
  else if k = 4 then decide (n = 0) && inB s.size 1 16
  else if k = 5 then decide (s.size = 0)
  else false
set_option maxHeartbeats 1000000 in
theorem wordMay_any (k n : Int) (s : ByteArray) (w : World) :
    Calls Try.prog 45 #[.agg #[.int .i64 k, .int .i64 n, .string s]] w fun e w' => e = .returned (.bool (wmB k n s)) ∧ Below w.heap.size w w' := by
  have hb0 := hid ((Below.refl w.heap.size w).alloc (Nat.le_refl _) (.cells #[.int .i64 k, .int .i64 n, .string s] 37))
  go_enter Try.func45, Try.ntmps45
  go_wp2_with (go_at_call 42; refine (In_any _ _ _ _).mono ?_; rintro e w' ⟨rfl, rfl⟩)
  all_goals (go_ret; refine ⟨ret_bool ?_, ?_⟩)
  all_goals first
    | exact hb0.out
    | exact (Below.refl _ _).alloc (Nat.le_refl _) _
    | (have e := bnil s
       have z : s.toList.isEmpty = decide (s.size = 0) := by rw [← bempty]; cases s.toList <;> rfl
       clear hb0
       simp_all [wmB])
/-- Bools in a row: does something begin there? -/
def Beg (w : World) (gb n : Nat) (acc : List Th) : Prop := ∀ j, j < n → w.cell? ⟨gb, j, none⟩ = some (.bool (acc.any fun t => t.h == j)) ∧ w.frozen? ⟨gb, j, none⟩ = false
theorem Beg.below {w w' : World} {gb n B : Nat} {acc : List Th} (h : Beg w gb n acc) (hb : Below B w w') (hg : gb < B) : Beg w' gb n acc := fun j hj =>
  ⟨(hb.cell (p := ⟨gb, j, none⟩) hg).trans (h j hj).1, (hb.frozen (p := ⟨gb, j, none⟩) hg).trans (h j hj).2⟩
def refB (n : Nat) (acc : List Th) (x : Int) : Bool := decide (0 ≤ x) && decide (x < n) && acc.any fun t => t.h == x.toNat
set_option maxHeartbeats 1000000 in
theorem refersTo_any (w : World) (gb len : Nat) (acc : List Th) (x : Int) (h : Beg w gb len acc) (hl : len ≤ 60000) :
    Calls Try.prog 44 #[.slice (some ⟨gb, 0, none⟩) len len, .int .i64 x] w fun e w' => e = .returned (.bool (refB len acc x)) ∧ w' = w := by
  have hin : inB x 0 ((len : Int) - 1) = (decide (0 ≤ x) && decide (x < len)) := by unfold inB; rw [Bool.eq_iff_iff]; simp only [Bool.and_eq_true, decide_eq_true_eq]; omega
  by_cases hx : 0 ≤ x ∧ x < len
  · obtain ⟨m, rfl⟩ := Int.eq_ofNat_of_zero_le hx.1
    have hm : m < len := by omega
    have hm2 : (m : Int) < len := by omega
    obtain ⟨c, _⟩ := h m hm
    have HR := hid (show refB len acc (m : Int) = acc.any fun t => t.h == m by unfold refB; simp [hm])
    generalize (acc.any fun t => t.h == m) = bo at c HR
    have HI := hid (In_any (m : Int) 0 ((len : Int) - 1) w)
    rw [hin, show (decide (0 ≤ (m : Int)) && decide ((m : Int) < len)) = true by simp [hm]] at HI
    clear hin hx h
    go_enter Try.func44, Try.ntmps44
    go_wp2_with (go_at_call 42; refine HI.out.mono ?_; rintro e w' ⟨rfl, rfl⟩)
    go_ret
    exact ⟨ret_bool HR.out.symm, rfl⟩
  · have hf : (decide (0 ≤ x) && decide (x < len)) = false := by rw [Bool.eq_false_iff]; intro e; simp only [Bool.and_eq_true, decide_eq_true_eq] at e; exact hx e
    have HR := hid (show refB len acc x = false by unfold refB; rw [hf]; rfl)
    have HI := hid (In_any x 0 ((len : Int) - 1) w)
    rw [hin, hf] at HI
    clear hin hx h hf
    go_enter Try.func44, Try.ntmps44
    go_wp2_with (go_at_call 42; refine HI.out.mono ?_; rintro e w' ⟨rfl, rfl⟩)
    go_ret
    exact ⟨ret_bool HR.out.symm, rfl⟩
inductive ChainR (l : List Wd) : List Th → Nat → Prop
  | nil : ChainR l [] 0
  | snoc {acc : List Th} {a f e : Nat} : ChainR l acc a → a < l.length → tRef l a = some (f, e) → ChainR l (acc ++ [⟨a, f, e⟩]) e
theorem tRef_le {l : List Wd} {a f e : Nat} (h : tRef l a = some (f, e)) : a < f ∧ f ≤ e ∧ e ≤ l.length := by
  unfold tRef at h
  split at h
  · cases h
  · repeat' split at h
    all_goals first
      | cases h
      | (have := fitT_le h; simp at this; omega)
theorem infoB : (Try.prog.info? 4).map (fun i => (i.zero, i.size, i.bytes)) = some (some (.bool false), 1, 1) := by kernel_rfl
theorem ownsRow_lt' {w : World} {B k : Nat} {ty : TypeId} {g n cap : Nat} {cells : List Value} (h : w.ownsRow B ty k (.slice (some ⟨g, 0, none⟩) n cap) n cells) : B ≤ g ∧ g < w.heap.size := ownsRow_lt h rfl
theorem beg_made {w1 : World} {base gb n : Nat} (h : w1.ownsRow base 4 1 (.slice (some ⟨gb, 0, none⟩) n n) n (madeCells #[.bool false] (n * 1)).toList) : Beg w1 gb n [] := by
  rcases h.2 with ⟨h', _⟩ | ⟨g, cap, cur, hv, _, hc, _, _, hcs, hcut⟩
  · cases h'
  · injection hv with e1 e2 e3
    injection e1 with e1
    injection e1 with e1
    subst e1 e3
    rw [toList_madeCells_one] at hcut
    intro j hj
    have hj2 : cur[j]? = some (.bool false) := by
      have h1 : (cur.toList.take (n * 1))[j]? = some (.bool false) := by rw [hcut]; simp [hj]
      rw [List.getElem?_take_of_lt (by omega)] at h1
      simpa using h1
    refine ⟨?_, ?_⟩
    · simp only [World.cell?, hc]; simpa using hj2
    · simp [World.frozen?, hc]
theorem Beg.set {w : World} {gb n k f e : Nat} {acc : List Th} (h : Beg w gb n acc) (hk : k < n) : Beg (w.setCell ⟨gb, k, none⟩ (.bool true)) gb n (acc ++ [⟨k, f, e⟩]) := by
  intro j hj
  refine ⟨?_, by rw [World.frozen?_setCell]; exact (h j hj).2⟩
  by_cases e' : j = k
  · subst e'
    rw [World.cell?_setCell_same _ _ _ (h j hj).1]; simp
  · rw [World.cell?_setCell_other _ _ _ _ (by intro x; injection x with _ x; exact e' x.symm), (h j hj).1]
    simp [Ne.symm e']
theorem ChainR.le {l : List Wd} {acc : List Th} {a : Nat} (h : ChainR l acc a) : a ≤ l.length := by
  cases h with
  | nil => simp
  | snoc h1 h2 h3 => exact (tRef_le h3).2.2
set_option maxHeartbeats 2000000 in
theorem beginsOf_any (w : World) (B : Nat) (a : Option Addr) (len cap : Nat) (l : List Wd) (hW : Wds w B a l) (hB : B ≤ w.heap.size) (hlen : len = l.length) (hl : len ≤ 60000) :
    Calls Try.prog 43 #[.slice a len cap] w fun e w' => Below w.heap.size w w' ∧ ((e = .returned (.tuple #[.slice (some ⟨w.heap.size, 0, none⟩) len len, .bool true]) ∧ ∃ acc, ChainR l acc l.length ∧ Beg w' w.heap.size len acc ∧ w.heap.size < w'.heap.size) ∨ (e = .returned (.tuple #[.slice none 0 0, .bool false]) ∧ ∃ acc i, ChainR l acc i ∧ i < l.length ∧ tRef l i = none)) := by
  have hL := hid hlen
  clear hlen
  obtain ⟨i0, hi, iz0, iz1, iz2⟩ := info_parts infoB
  have HI := hid hi
  have HZ0 := hid iz0
  have HZ1 := hid iz1
  have HZ2 := hid iz2
  clear hi iz0 iz1 iz2
  go_enter Try.func43, Try.ntmps43
  go_wp2_with (at_make; refine wpList_make_full _ rfl _ _ 85 rfl w.heap.size 4 i0 (.bool false) 1 Try.underlying85 HI.out HZ0.out HZ1.out _ _ _ _ len rfl rfl rfl rfl (by rw [HZ2.out]; omega) (by unfold maxLen; omega) (Nat.le_refl _) ?_; intro w1 hown hgrow)
  have hb1 : Below w.heap.size w w1 := (Below.refl _ _).grown hgrow (Nat.le_refl _) (fun k e => by cases e)
  have HBeg := hid (beg_made hown)
  have hlt1 : w.heap.size < w1.heap.size := (ownsRow_lt' hown).2
  have HB1 := hid hb1
  clear hown hgrow hb1
  generalize hgb : w.heap.size = gb at *
  go_loopw [5] (fun i wr => ∃ (k : Nat) (acc : List Th), k ≤ len ∧ i = .int .i64 k ∧ ChainR l acc k ∧ Beg wr gb len acc ∧ Below gb w wr ∧ gb < wr.heap.size) (fun i _ => len - (intOf i).toNat)
  case atStart => exact ⟨0, [], Nat.zero_le _, rfl, ChainR.nil, HBeg.out, HB1.out, hlt1⟩
  case round =>
    obtain ⟨k, acc, hk, rfl, hch, hbeg, hbr, hglt⟩ := hrel
    have HCh := hid hch
    have HBe := hid hbeg
    have HBr := hid hbr
    clear hch hbeg
    by_cases hlt : k < len
    · have hlt2 : (k : Int) < len := by omega
      go_wp2_with fail
      have hcall := thing_any wr B a l len cap k hL.out hl hlt (by omega) (hW.below (hbr.mono hB))
      cases htA : tRef l k with
      | none =>
        rw [htA] at hcall
        go_fit hcall
        clear hcall
        rintro e w2 ⟨rfl, hb2⟩
        dsimp only [thV]
        go_wp2_with fail
        refine bodyPost_ret (v := .tuple #[.slice none 0 0, .bool false]) (by simp [results, Try.results43, go_sem]) rfl ⟨?_, Or.inr ⟨rfl, acc, k, HCh.out, by rw [← hL.out]; exact hlt, htA⟩⟩
        rw [hgb]
        exact HBr.out.trans (hb2.mono (by omega))
      | some p =>
        obtain ⟨f, e⟩ := p
        rw [htA] at hcall
        have hle := tRef_le htA
        rw [← hL.out] at hle
        go_fit hcall
        clear hcall
        rintro e' w2 ⟨rfl, hb2⟩
        dsimp only [thV]
        have hbe2 := HBe.out.below hb2 hglt
        obtain ⟨d0, df⟩ := hbe2 k hlt
        have HBe2 := hid hbe2
        have hz2 := hb2.size
        obtain ⟨m, hm⟩ : ∃ m : Nat, e = k + m := ⟨e - k, by omega⟩
        have hm1 : (e : Int) - k = m := by omega
        have hm0 : ¬ (m : Int) = 0 := by omega
        have hm2 : (m == 0) = false := by simp; omega
        have hke : (k : Int) + m = e := by omega
        have HM := hid hm
        rw [hm1]
        clear hm hbe2 hm1
        go_wp2_with fail
        go_roundw
        case rel => exact ⟨e, acc ++ [⟨k, f, e⟩], hle.2.2, rfl, ChainR.snoc HCh.out (by rw [← hL.out]; exact hlt) htA, HBe2.out.set hlt, (HBr.out.trans (hb2.mono (by omega))).setCell (p := ⟨gb, k, none⟩) (Nat.le_refl _) _, by simp; omega⟩
        case measure => simp [intOf]; omega
    · have hlt2 : ¬ (k : Int) < len := by omega
      have hkl : k = l.length := by rw [← hL.out]; omega
      have HF := hid (show ChainR l acc l.length by have h := HCh.out; rw [hkl] at h; exact h)
      clear hkl
      go_wp2_with fail
      refine bodyPost_ret (v := .tuple #[.slice (some ⟨gb, 0, none⟩) len len, .bool true]) (by simp [results, Try.results43, go_sem]) rfl ⟨HBr.out, Or.inl ⟨rfl, acc, HF.out, HBe.out, hglt⟩⟩
end Go.Proofs.Ytfjfobpdlmdddaa

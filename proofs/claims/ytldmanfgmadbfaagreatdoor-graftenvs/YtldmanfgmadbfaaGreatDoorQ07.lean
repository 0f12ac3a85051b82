/- What is moved, and all values: the code's looks and the document's are one. · One value: heap's CheckValue. · The document's ValueMay. · heap's Check. · The document's isWord, primArgs, freeName: P2.2. · A record that may be: unit's checkShape and the document's ShapeFault: P2.3. · Records in a row; the place of one with a name: slices.IndexFunc with unit's closure, and the document's shapeAt. -/
import Derived.Test.YtldmanfgmadbfaaGreatDoorQ06
import Derived.Test.YtldmanfgmadbfaaGreatDoorQ02
import Derived.Deep.Light
import Derived.Deep.QuietTactic
import Derived.BigQuiet
namespace Go.Proofs.YtldmanfgmadbfaaGreatDoor.HH
set_option maxRecDepth 100000
theorem ref_has {l : List Wd} {acc : List Th} {a : Nat} (h : Chain l acc a) (x : Int) : refB l.length acc x = hasI (plOf acc) x := by
  rw [Bool.eq_iff_iff, h.has x]
  unfold refB
  simp only [Bool.and_eq_true, decide_eq_true_eq, List.any_eq_true, beq_iff_eq]
  constructor
  · rintro ⟨⟨h0, h1⟩, t, ht, e⟩
    obtain ⟨i, hi, rfl⟩ := List.getElem_of_mem ht
    exact ⟨i, hi, by omega⟩
  · rintro ⟨i, hi, e⟩
    have := (h.inL i hi).1
    exact ⟨⟨by omega, by omega⟩, acc[i], List.getElem_mem hi, by omega⟩
theorem val_ok {l : List Wd} {acc : List Th} {a : Nat} (h : Chain l acc a) (k n : Int) (s : ByteArray) : valB (plOf acc) k n s = (wmB k n s && (decide (¬ k = 5) || refB l.length acc n)) := by
  rw [ref_has h]
  unfold valB wmB
  by_cases h1 : k = 1
  · subst h1; simp [inB]
  · by_cases h2 : k = 2
    · subst h2
      simp only [h1, if_false, if_true, plainB, inB]
      rw [Bool.eq_iff_iff]; simp only [Bool.and_eq_true, Bool.or_eq_true, decide_eq_true_eq]
      constructor
      · rintro ⟨⟨a1, a2⟩, a3⟩; exact ⟨⟨⟨a1, by omega⟩, a3⟩, Or.inl (by omega)⟩
      · rintro ⟨⟨⟨a1, a2⟩, a3⟩, _⟩; exact ⟨⟨a1, by omega⟩, a3⟩
    · by_cases h3 : k = 3
      · subst h3
        simp only [h1, h2, if_false, if_true, plainB]
        rw [Bool.eq_iff_iff]; simp only [Bool.and_eq_true, Bool.or_eq_true, decide_eq_true_eq]
        constructor
        · rintro ⟨⟨a1, a2⟩, a3⟩; exact ⟨⟨by omega, a3⟩, Or.inl (by omega)⟩
        · rintro ⟨⟨a1, a3⟩, _⟩; exact ⟨⟨by omega, by omega⟩, a3⟩
      · by_cases h4 : k = 4
        · subst h4
          simp only [h1, h2, h3, if_false, if_true, inB]
          rw [Bool.eq_iff_iff]; simp only [Bool.and_eq_true, Bool.or_eq_true, decide_eq_true_eq]
          constructor
          · rintro ⟨⟨a1, a2⟩, a3⟩; exact ⟨⟨a1, by omega, by omega⟩, Or.inl (by omega)⟩
          · rintro ⟨⟨a1, a2, a3⟩, _⟩; exact ⟨⟨a1, by omega⟩, by omega⟩
        · by_cases h5 : k = 5
          · subst h5; simp [Bool.and_comm]
          · simp [h1, h2, h3, h4, h5]
/-- What was moved, from a thing on. -/
structure MvInv (l : List Wd) (ps : List (Int × Int)) (S : List Th) (ms : List (Int × Int)) : Prop where
  keys : ∀ x, hasI ms x = true ↔ ∃ t, t ∈ S ∧ kindAt l t.h = 10 ∧ (t.h : Int) = x
  recs : ∀ x, hasI ms x = true → recB l ps (valI ms x) = true
theorem mv_spec {l : List Wd} {acc : List Th} (hc : Chain l acc l.length) : ∀ (S pre : List Th), acc = pre ++ S →
    (∃ ms, mvAll l (plOf acc) S.reverse [] = some ms ∧ MvInv l (plOf acc) S ms ∧ ∀ t, t ∈ S → kindAt l t.h = 10 → okM l.length l acc t.h (nInt l t.h) = true) ∨
    (mvAll l (plOf acc) S.reverse [] = none ∧ ∃ t, t ∈ S ∧ kindAt l t.h = 10 ∧ okM l.length l acc t.h (nInt l t.h) = false)
  | [], pre, _ => Or.inl ⟨[], rfl, ⟨fun x => by simp [hasI], fun x h => by simp [hasI] at h⟩, fun t ht => by cases ht⟩
  | t :: S, pre, he => by
    have hinc := hc.ref.inc.1
    rw [he] at hinc
    have hS : ∀ y, y ∈ S → t.h < y.h := fun y hy => (List.pairwise_cons.1 (List.pairwise_append.1 hinc).2.1).1 y hy
    have hpre : ∀ y, y ∈ pre → y.h < t.h := fun y hy => (List.pairwise_append.1 hinc).2.2 y hy t (by simp)
    rw [List.reverse_cons, mvAll_snoc]
    rcases mv_spec hc S (pre ++ [t]) (by rw [he]; simp) with ⟨ms, h1, h2, h3⟩ | ⟨h1, t', h2, h3, h4⟩
    · rw [h1]
      simp only [Option.bind_some]
      by_cases hk : kindAt l t.h = 10
      · -- a Moved: does it lead to a Record, or to a Moved behind it?
        have key : recB l (plOf acc) (toOf l ms t) = okM l.length l acc t.h (nInt l t.h) := by
          unfold toOf okM
          generalize nInt l t.h = x
          rw [ref_has hc]
          by_cases hm : hasI ms x = true
          · rw [if_pos hm, h2.recs x hm]
            obtain ⟨y, hy, hk2, rfl⟩ := (h2.keys x).1 hm
            have hb : hasI (plOf acc) (y.h : Int) = true := by
              obtain ⟨i, hi, e⟩ := List.getElem_of_mem (show y ∈ acc by rw [he]; simp [hy])
              exact (hc.has _).2 ⟨i, hi, by rw [e]⟩
            have := hS y hy
            rw [hb, hk2]; simp; omega
          · rw [if_neg hm]
            unfold recB
            by_cases hb : hasI (plOf acc) x = true
            · rw [hb]
              have hno : ¬ (kindAt l x = 10 ∧ (t.h : Int) < x) := fun ⟨k1, k2⟩ => by
                obtain ⟨i, hi, e⟩ := (hc.has x).1 hb
                have hmem : acc[i] ∈ pre ++ t :: S := by rw [← he]; exact List.getElem_mem hi
                rcases List.mem_append.1 hmem with h | h
                · have := hpre _ h; omega
                · rcases List.mem_cons.1 h with h | h
                  · rw [h] at e; omega
                  · exact hm ((h2.keys x).2 ⟨_, h, by rw [e]; exact k1, e⟩)
              by_cases h9 : kindAt l x = 9
              · simp [h9]
              · simp only [h9, decide_false, Bool.false_or, Bool.true_and]
                rw [eq_comm, Bool.eq_false_iff]; intro h; simp only [Bool.and_eq_true, decide_eq_true_eq] at h; exact hno h
            · simp [hb]
        unfold mvStep
        rw [if_pos hk]
        cases hr : recB l (plOf acc) (toOf l ms t)
        · refine Or.inr ⟨by simp, t, by simp, hk, by rw [← key, hr]⟩
        · refine Or.inl ⟨((t.h : Int), toOf l ms t) :: ms, by simp, ⟨fun x => ?_, fun x hx => ?_⟩, fun y hy hk' => ?_⟩
          · unfold hasI
            rw [Bool.or_eq_true, decide_eq_true_eq, h2.keys x]
            constructor
            · rintro (h | ⟨y, hy, h⟩)
              · exact ⟨t, by simp, hk, h⟩
              · exact ⟨y, by simp [hy], h⟩
            · rintro ⟨y, hy, hk', e⟩
              rcases List.mem_cons.1 hy with h | h
              · subst h; exact Or.inl e
              · exact Or.inr ⟨y, h, hk', e⟩
          · unfold valI
            by_cases e : (t.h : Int) = x
            · rw [if_pos e]; exact hr
            · rw [if_neg e]; unfold hasI at hx; exact h2.recs x (by simpa [e] using hx)
          · rcases List.mem_cons.1 hy with h | h
            · subst h; rw [← key, hr]
            · exact h3 y h hk'
      · unfold mvStep
        rw [if_neg hk]
        refine Or.inl ⟨ms, rfl, ⟨fun x => ?_, h2.recs⟩, fun y hy hk' => ?_⟩
        · rw [h2.keys x]
          constructor
          · rintro ⟨y, hy, h⟩; exact ⟨y, by simp [hy], h⟩
          · rintro ⟨y, hy, hk', e⟩
            rcases List.mem_cons.1 hy with h | h
            · subst h; exact absurd hk' hk
            · exact ⟨y, h, hk', e⟩
        · rcases List.mem_cons.1 hy with h | h
          · subst h; exact absurd hk' hk
          · exact h3 y h hk'
    · rw [h1]
      exact Or.inr ⟨rfl, t', by simp [h2], h3, h4⟩
theorem th_ok {l : List Wd} {acc : List Th} {a : Nat} (h : Chain l acc a) (t : Th) : thB l (plOf acc) t = (decide (kindAt l t.h = 10) || (sub l t.f t.e).all (okV l.length acc)) := by
  unfold thB allB
  have : (fun x : Wd => valB (plOf acc) x.k x.n x.s) = okV l.length acc := by funext x; rw [val_ok h]; rfl
  rw [this]
/-- The code says yes just where the document does. -/
theorem ok_not_bad {lim : Int} {l : List Wd} {acc : List Th} {ms : List (Int × Int)} (h : OkC lim l acc ms) (hb : BadR lim l) : False := by
  rcases hb with hb | ⟨acc', i, h1, h2, h3⟩ | ⟨acc', h1, t, h2, h3⟩
  · exact hb ⟨h.lo, h.hi, h.room⟩
  · have := (h.chain.ref.same h1 h.chain.ref.full (h1.stuck h3)).2
    omega
  · obtain ⟨rfl, _⟩ := h.chain.ref.same h1 h.chain.ref.full h1.full
    rcases mv_spec h.chain acc [] rfl with ⟨ms', e1, e2, e3⟩ | ⟨e1, _⟩
    · unfold okT at h3
      by_cases hk : kindAt l t.h = 10
      · rw [if_pos hk, e3 t h2 hk] at h3; cases h3
      · rw [if_neg hk] at h3
        have := List.all_eq_true.1 h.vals t h2
        rw [th_ok h.chain, h3] at this
        simp [hk] at this
    · rw [h.moved] at e1; cases e1
theorem bad_not_ok {lim : Int} {l : List Wd} (h : BadC lim l) (hr : OkR lim l) : False := by
  obtain ⟨r1, r2, r3, accR, hR, hall⟩ := hr
  have hok : ∀ acc, Chain l acc l.length → acc = accR := fun acc hc => (hc.ref.same hR hc.ref.full hR.full).1
  rcases h with h | ⟨acc, i, h1, h2, h3⟩ | ⟨acc, h1, h2⟩
  · exact h ⟨r1, r2, r3⟩
  · cases ht : tRef l i with
    | none =>
      have := (h1.ref.same hR (h1.ref.stuck ht) hR.full).2
      omega
    | some p =>
      obtain ⟨f, e⟩ := p
      have hp := (ChainR.snoc h1.ref h2 ht).pre hR
      have hm : (⟨i, f, e⟩ : Th) ∈ accR := hp.subset (by simp)
      have := hall _ hm
      have : tAt l i = some (f, e) := tAt_of ht (fun hk => by
        unfold okT at this
        dsimp only at this
        rw [if_pos hk] at this
        unfold okM refB at this
        simp only [Bool.and_eq_true, decide_eq_true_eq] at this
        omega)
      rw [h3] at this; cases this
  · obtain rfl := hok acc h1
    rcases h2 with h2 | h2
    · rcases mv_spec h1 acc [] rfl with ⟨ms, e1, _⟩ | ⟨_, t, e1, e2, e3⟩
      · rw [h2] at e1; cases e1
      · have := hall t e1
        unfold okT at this
        rw [if_pos e2, e3] at this; cases this
    · obtain ⟨t, ht, h3⟩ := List.all_eq_false.1 h2
      rw [th_ok h1] at h3
      have := hall t ht
      unfold okT at this
      by_cases hk : kindAt l t.h = 10
      · simp [hk] at h3
      · rw [if_neg hk] at this; rw [this] at h3; simp at h3
end Go.Proofs.YtldmanfgmadbfaaGreatDoor.HH
namespace Go.Proofs.YtldmanfgmadbfaaGreatDoor.HH
set_option maxRecDepth 100000
open Go.RowKit Go.Maps
theorem wds_one (w : World) (k n : Int) (s : ByteArray) (t : TypeId) : Wds (w.alloc (.cells #[.int .i64 k, .int .i64 n, .string s] t)) (w.heap.size + 1) (some ⟨w.heap.size, 0, none⟩) [⟨k, n, s⟩] := by
  intro i hi
  have : i = 0 := by simp at hi; omega
  subst this
  refine ⟨w.heap.size, 0, rfl, by omega, ?_, ?_, ?_⟩ <;> (simp only [Nat.zero_mul, Nat.zero_add, List.getElem_cons_zero]; go_simp)
/-- What CheckValue tells. -/
def CvI (lim : Int) (l : List Wd) (k n : Int) (s : ByteArray) (r : Int) : Prop :=
  (r = 0 ∧ ∃ acc ms, OkC lim l acc ms ∧ valB (plOf acc) k n s = true) ∨ (r = 3 ∧ ∃ acc ms, OkC lim l acc ms ∧ valB (plOf acc) k n s = false) ∨ (r = 9 ∧ BadC lim l)
theorem allB_one (ps : List (Int × Int)) (k n : Int) (s : ByteArray) : allB ps [⟨k, n, s⟩] = valB ps k n s := by simp [allB]
theorem below_3 (w : World) (o o' o'' : Obj) : Below w.heap.size w (((w.alloc o).alloc o').alloc o'') := (below_2 w o o').alloc (by simp; omega) _
set_option maxHeartbeats 2000000 in
theorem CheckValue_any (w : World) (B : Nat) (a : Option Addr) (len cap : Nat) (l : List Wd) (lim : Int) (k n : Int) (s : ByteArray) (hW : Wds w B a l) (hB : B ≤ w.heap.size) (hlen : len = l.length) (hcap : len ≤ cap) (hl : len ≤ 9223372036854775807) (hwf : wfL l) (hn : wfI n) (hs : s.size ≤ 9223372036854775807) :
    Calls Tryz.prog 68 #[.agg #[.slice a len cap, .int .i64 lim], .agg #[.int .i64 k, .int .i64 n, .string s]] w fun e w' => ∃ r, e = .returned (.int .i64 r) ∧ CvI lim l k n s r ∧ Below w.heap.size w w' := by
  have HL := hid hlen
  clear hlen
  obtain ⟨w2, hw2⟩ : ∃ w2, w2 = (w.alloc (.cells #[.slice a len cap, .int .i64 lim] 27)).alloc (.cells #[.int .i64 k, .int .i64 n, .string s] 51) := ⟨_, rfl⟩
  have hb2 : Below w.heap.size w w2 := by rw [hw2]; exact below_2 _ _ _
  have hz2 : w2.heap.size = w.heap.size + 2 := by rw [hw2]; simp
  have hone := wds_one w2 k n s 51
  obtain ⟨w3, hw3⟩ : ∃ w3, w3 = w2.alloc (.cells #[.int .i64 k, .int .i64 n, .string s] 51) := ⟨_, rfl⟩
  have hb3 : Below w2.heap.size w2 w3 := by rw [hw3]; exact (Below.refl _ _).alloc (Nat.le_refl _) _
  have hz3 : w3.heap.size = w.heap.size + 3 := by rw [hw3]; simp [hz2]
  rw [← hw3, hz2] at hone
  have hB3 := hid (hb2.trans (hb3.mono (by omega)))
  have hcall := chartFor_any w3 (w.heap.size + 3) a len cap l lim ((hW.below (hB3.out.mono hB)).mono (by omega)) (by omega) HL.out hcap hl hwf (some ⟨w.heap.size + 2, 0, none⟩) 1 1 [⟨k, n, s⟩] hone rfl (by omega) (fun i hi => by
    have : i = 0 := by simp at hi; omega
    subst this; exact ⟨hn, hs⟩)
  have HC := hid hcall
  have H2 := hid hw2
  have H3 := hid hw3
  clear hcall hone hw2 hw3 hb2 hb3 hz2
  go_enter Tryz.func68, Tryz.ntmps68
  go_wp2_with fail
  rw [← H2.out, ← H3.out]
  have hcall := HC.out
  go_fit hcall
  clear hcall
  rintro e w4 ⟨hb4, ⟨v, acc, pb, mb, ms, rfl, hok, hall, hV⟩ | ⟨rfl, acc, ms, hok, hall⟩ | ⟨rfl, hbad⟩⟩
  · obtain ⟨av, capv, hv, _, _⟩ := hV.row.cells
    subst hv
    have HX := hid (show CvI lim l k n s 0 from Or.inl ⟨rfl, acc, ms, hok, by rw [← allB_one]; exact hall⟩)
    have hB4 := hid (hB3.out.trans (hb4.mono (by omega)))
    go_wp2_with fail
    go_ret
    exact ⟨0, rfl, HX.out, hB4.out.alloc hB4.out.size _⟩
  · have HX := hid (show CvI lim l k n s 3 from Or.inr (Or.inl ⟨rfl, acc, ms, hok, by rw [← allB_one]; exact hall⟩))
    have hB4 := hid (hB3.out.trans (hb4.mono (by omega)))
    go_wp2_with fail
    go_ret
    exact ⟨3, rfl, HX.out, hB4.out.alloc hB4.out.size _⟩
  · have HX := hid (show CvI lim l k n s 9 from Or.inr (Or.inr ⟨rfl, hbad⟩))
    have hB4 := hid (hB3.out.trans (hb4.mono (by omega)))
    go_wp2_with fail
    go_ret
    exact ⟨9, rfl, HX.out, hB4.out.alloc hB4.out.size _⟩
end Go.Proofs.YtldmanfgmadbfaaGreatDoor.HH
namespace Go.Proofs.YtldmanfgmadbfaaGreatDoor.HH
set_option maxRecDepth 100000
open Go.RowKit Go.Maps
set_option maxHeartbeats 2000000 in
theorem ValueMay_any (w : World) (B : Nat) (a : Option Addr) (len cap : Nat) (l : List Wd) (lim : Int) (k n : Int) (s : ByteArray) (hW : Wds w B a l) (hB : B ≤ w.heap.size) (hlen : len = l.length) (hl : len ≤ 60000) (accR : List Th) (hR : ChainR l accR l.length) :
    Calls Tryz.prog 15 #[.agg #[.slice a len cap, .int .i64 lim], .agg #[.int .i64 k, .int .i64 n, .string s]] w fun e w' => e = .returned (.bool (wmB k n s && (decide (¬ k = 5) || refB len accR n))) ∧ Below w.heap.size w w' := by
  have HL := hid hlen
  clear hlen
  obtain ⟨w2, hw2⟩ : ∃ w2, w2 = (w.alloc (.cells #[.slice a len cap, .int .i64 lim] 27)).alloc (.cells #[.int .i64 k, .int .i64 n, .string s] 51) := ⟨_, rfl⟩
  have hb2 : Below w.heap.size w w2 := by rw [hw2]; exact below_2 _ _ _
  have hz2 : w2.heap.size = w.heap.size + 2 := by rw [hw2]; simp
  have t0 : w2.cell? ⟨w.heap.size + 1, 0, none⟩ = some (.int .i64 k) ∧ w2.cell? ⟨w.heap.size + 1, 1, none⟩ = some (.int .i64 n) ∧ w2.cell? ⟨w.heap.size + 1, 2, none⟩ = some (.string s) := by
    rw [hw2]; refine ⟨?_, ?_, ?_⟩ <;> go_simp
  have hcall := beginsOf_any w2 B a len cap l (hW.below (hb2.mono hB)) (by omega) HL.out hl
  have HC := hid hcall
  have H2 := hid hw2
  have HB2 := hid hb2
  clear hcall hw2 hb2
  go_enter Tryz.func15, Tryz.ntmps15
  go_wp2_with fail
  rw [← H2.out]
  have hcall := HC.out
  go_fit hcall
  clear hcall
  rintro e w3 ⟨hb3, ⟨rfl, acc, hch, hbeg, hgl⟩ | ⟨rfl, acc, i, hch, hi, hno⟩⟩
  · obtain ⟨rfl, _⟩ := hch.same hR hch.full hR.full
    have hB3 := hid (HB2.out.trans (hb3.mono (by omega)))
    obtain ⟨y0, y1, y2⟩ := t0
    have x0 := (hb3.cell (p := ⟨w.heap.size + 1, 0, none⟩) (by dsimp only; omega)).trans y0
    have x1 := (hb3.cell (p := ⟨w.heap.size + 1, 1, none⟩) (by dsimp only; omega)).trans y1
    have x2 := (hb3.cell (p := ⟨w.heap.size + 1, 2, none⟩) (by dsimp only; omega)).trans y2
    rw [hz2] at hbeg hgl
    have HBeg := hid hbeg
    clear hb3 hbeg y0 y1 y2 HC
    go_wp2_with fail
    have hcall := wordMay_any k n s w3
    go_fit hcall
    clear hcall
    rintro e w4 ⟨rfl, hb4⟩
    have z0 := (hb4.cell (p := ⟨w.heap.size + 1, 0, none⟩) (by dsimp only; omega)).trans x0
    have z1 := (hb4.cell (p := ⟨w.heap.size + 1, 1, none⟩) (by dsimp only; omega)).trans x1
    have HRt := hid (refersTo_any w4 (w.heap.size + 2) len acc n (HBeg.out.below hb4 (by omega)) hl)
    have hB4 := hid (hB3.out.trans (hb4.mono (by omega)))
    clear hb4 x0 x1 x2
    by_cases h5 : k = 5
    · subst h5
      cases hwb : wmB 5 n s
      · go_wp2_with fail
        go_ret
        exact ⟨ret_bool (by simp), hB4.out⟩
      · go_wp2_with (go_at_call 33; refine HRt.out.mono ?_; rintro e w' ⟨rfl, rfl⟩)
        go_ret
        exact ⟨ret_bool (by simp), hB4.out⟩
    · have h5b : (k != 5) = true := by simp [h5]
      cases hwb : wmB k n s
      · go_wp2_with fail
        go_ret
        exact ⟨ret_bool (by simp [hwb]), hB4.out⟩
      · go_wp2_with fail
        go_ret
        exact ⟨ret_bool (by simp [hwb, h5]), hB4.out⟩
  · have := (hch.same hR (hch.stuck hno) hR.full).2
    omega
end Go.Proofs.YtldmanfgmadbfaaGreatDoor.HH
namespace Go.Proofs.YtldmanfgmadbfaaGreatDoor.HH
set_option maxRecDepth 100000
open Go.RowKit Go.Maps
set_option maxHeartbeats 1000000 in
theorem Check_any (w : World) (B : Nat) (a : Option Addr) (len cap : Nat) (l : List Wd) (lim : Int) (hW : Wds w B a l) (hB : B ≤ w.heap.size) (hlen : len = l.length) (hcap : len ≤ cap) (hl : len ≤ 9223372036854775807) (hwf : wfL l) :
    Calls Tryz.prog 23 #[.agg #[.slice a len cap, .int .i64 lim]] w fun e w' => ∃ r, e = .returned (.int .i64 r) ∧ ((r = 0 ∧ ∃ acc ms, OkC lim l acc ms) ∨ (r = 9 ∧ BadC lim l)) ∧ Below w.heap.size w w' := by
  have HL := hid hlen
  clear hlen
  obtain ⟨w1, hw1⟩ : ∃ w1, w1 = w.alloc (.cells #[.slice a len cap, .int .i64 lim] 27) := ⟨_, rfl⟩
  have hb1 : Below w.heap.size w w1 := by rw [hw1]; exact (Below.refl _ _).alloc (Nat.le_refl _) _
  have hz1 : w1.heap.size = w.heap.size + 1 := by rw [hw1]; simp
  have HC := hid (newChart_any w1 B a len cap l lim (hW.below (hb1.mono hB)) (by omega) HL.out hcap hl hwf)
  have HB1 := hid hb1
  have H1 := hid hw1
  clear hw1 hb1
  go_enter Tryz.func23, Tryz.ntmps23
  go_wp2_with fail
  rw [← H1.out]
  have hcall := HC.out
  go_fit hcall
  clear hcall
  rintro e w3 ⟨hb3, ⟨v, acc, pb, mb, ms, rfl, hok, hV⟩ | ⟨rfl, hbad⟩⟩
  · have hB3 := hid (HB1.out.trans (hb3.mono (by omega)))
    obtain ⟨av, capv, hv, _, _⟩ := hV.row.cells
    subst hv
    go_wp2_with fail
    go_ret
    exact ⟨0, rfl, Or.inl ⟨rfl, acc, ms, hok⟩, hB3.out.alloc hB3.out.size _⟩
  · have hB3 := hid (HB1.out.trans (hb3.mono (by omega)))
    go_wp2_with fail
    go_ret
    exact ⟨9, rfl, Or.inr ⟨rfl, hbad⟩, hB3.out.alloc hB3.out.size _⟩
end Go.Proofs.YtldmanfgmadbfaaGreatDoor.HH
namespace Go.Proofs.YtldmanfgmadbfaaGreatDoor.UU
set_option maxRecDepth 100000
open Go.RowKit Go.WideMaps Go.Maps
theorem valOf_zero (s : List UInt8) : ∀ l : List (List UInt8 × Int), (∀ p ∈ l, ¬ p.2 = 0) → (valOf l s = 0 ↔ ¬ s ∈ l.map Prod.fst)
  | [], _ => by simp [valOf]
  | p :: r, h => by
    have ih := valOf_zero s r (fun q hq => h q (List.mem_cons_of_mem _ hq))
    have h0 := h p (List.mem_cons_self ..)
    unfold valOf
    by_cases e : p.1 = s
    · rw [if_pos e]; simp [h0, e]
    · rw [if_neg e, ih]; simp [Ne.symm e]
def wordsL : List ByteArray := (keyws.map fun p => ByteArray.mk p.1.toArray).reverse
theorem words_in (s : ByteArray) : hasS (wordsL.take 10) s = !(valOf keyws s.data.toList == 0) := by
  rw [show wordsL.take 10 = wordsL from rfl, Bool.eq_iff_iff, Lib.containsS_iff]
  have h := valOf_zero s.data.toList keyws (by decide)
  have e : s ∈ wordsL ↔ s.data.toList ∈ keyws.map Prod.fst := by
    unfold wordsL
    rw [List.mem_reverse, List.mem_map, List.mem_map]
    constructor
    · rintro ⟨p, hp, rfl⟩; exact ⟨p, hp, rfl⟩
    · rintro ⟨p, hp, he⟩; exact ⟨p, hp, by rw [he]⟩
  rw [e]
  by_cases hv : valOf keyws s.data.toList = 0
  · have := h.1 hv
    simp only [this, false_iff]; simp [hv]
  · have : s.data.toList ∈ keyws.map Prod.fst := Classical.not_not.1 (fun x => hv (h.2 x))
    simp only [this, true_iff]; simp [hv]
def primI (l : List UInt8) : Int := if valOf prims l = 0 then -1 else valOf prims l
theorem prim_hit {s : ByteArray} {X : List UInt8} {c : Int} (h : (s.toList == X) = true) (e : c = primI X) : c = primI s.data.toList := by
  rw [ByteArray.toList_eq] at h
  rw [beq_iff_eq.1 h]; exact e
theorem prim_miss {s : ByteArray} (h : ∀ X ∈ prims.map Prod.fst, (s.toList == X) = false) : -1 = primI s.data.toList := by
  have e := (valOf_zero s.data.toList prims (by decide)).2 (fun hm => by
    have h2 := h _ hm
    rw [ByteArray.toList_eq] at h2
    simp at h2)
  unfold primI; rw [if_pos e]
set_option maxHeartbeats 1000000 in
theorem primArgs_any (s : ByteArray) (w : World) :
    Calls Tryz.prog 38 #[.string s] w fun e w' => e = .returned (.int .i64 (primI s.data.toList)) ∧ ∃ n, w' = w.drewN n := by
  go_enter Tryz.func38, Tryz.ntmps38
  go_wp2
  all_goals (go_ret; refine ⟨ret_int ?_, 0, rfl⟩)
  all_goals first
    | (exact prim_hit (by assumption) (by decide))
    | (refine prim_miss ?_; simp only [prims, List.map_cons, List.map_nil, List.forall_mem_cons, List.not_mem_nil, false_implies, implies_true, and_true]; refine ⟨?_, ?_, ?_, ?_, ?_, ?_, ?_, ?_, ?_, ?_, ?_, ?_, ?_, ?_, ?_⟩ <;> assumption)
    | (exfalso; simp_all; done)
theorem strs_new (w : World) (ss : List ByteArray) (t : TypeId) (h : ∀ s ∈ ss, s.size ≤ maxLen) : Strs (w.alloc (.cells (ss.map Value.string).toArray t)) (w.heap.size + 1) (some ⟨w.heap.size, 0, none⟩) ss := by
  intro i hi
  refine ⟨h _ (List.getElem_mem hi), _, _, rfl, by omega, ?_⟩
  rw [World.cell?_alloc_at _ _ _ _ rfl]
  simp [hi]
theorem words_short : ∀ s ∈ wordsL, s.size ≤ maxLen := by
  have : ∀ s ∈ wordsL, s.size ≤ 10 := by decide
  intro s hs
  have := this s hs
  unfold maxLen; omega
set_option maxHeartbeats 1000000 in
theorem isWord_any (s : ByteArray) (w : World) :
    Calls Tryz.prog 37 #[.string s] w fun e w' => e = .returned (.bool (!(valOf keyws s.data.toList == 0))) ∧ Below w.heap.size w w' := by
  have hS := hid (strs_new w wordsL 9 words_short)
  go_enter Tryz.func37, Tryz.ntmps37
  go_wp2_with fail
  have hcall := isIn_any _ _ _ wordsL 10 10 s hS.out (by decide) (by omega)
  rw [words_in] at hcall
  go_fit hcall
  clear hcall
  rintro e w2 ⟨rfl, rfl⟩
  go_wp2_with fail
  go_ret
  exact ⟨rfl, (Below.refl _ _).alloc (Nat.le_refl _) _⟩
theorem bdrew {B : Nat} {a w : World} (h : Below B a w) (n : Nat) : Below B a (w.drewN n) := ⟨h.os, h.tape, h.output, h.size, h.block⟩
theorem free_eq (s : ByteArray) : freeB s.data.toList = (nameB s.data.toList && (!(!(valOf keyws s.data.toList == 0)) && decide (primI s.data.toList < 0))) := by
  unfold freeB primI
  have h : ∀ p ∈ prims, 0 ≤ p.2 := by decide
  have hv : 0 ≤ valOf prims s.data.toList := by
    have : ∀ l : List (List UInt8 × Int), (∀ p ∈ l, 0 ≤ p.2) → 0 ≤ valOf l s.data.toList := by
      intro l
      induction l with
      | nil => intro _; exact Int.le_refl _
      | cons p r ih =>
        intro h
        unfold valOf
        split
        · exact h p (List.mem_cons_self ..)
        · exact ih (fun q hq => h q (List.mem_cons_of_mem _ hq))
    exact this _ h
  by_cases e : valOf prims s.data.toList = 0
  · simp [e]
  · rw [if_neg e]
    have : ¬ valOf prims s.data.toList < 0 := by omega
    simp [e, this]
set_option maxHeartbeats 1000000 in
theorem freeName_any (s : ByteArray) (w : World) (hs : s.size ≤ 9223372036854775807) :
    Calls Tryz.prog 13 #[.string s] w fun e w' => e = .returned (.bool (freeB s.data.toList)) ∧ Below w.heap.size w w' := by
  have hf := hid (free_eq s)
  go_enter Tryz.func13, Tryz.ntmps13
  go_wp2_with (first
    | (go_at_call 36; refine (NameMay_any _ _ hs).mono ?_; rintro e w1 ⟨rfl, nd, rfl⟩)
    | (go_at_call 37; refine (isWord_any _ _).mono ?_; rintro e w2 ⟨rfl, hb⟩)
    | (go_at_call 38; refine (primArgs_any _ _).mono ?_; rintro e w3 ⟨rfl, nd2, rfl⟩))
  all_goals (go_ret; refine ⟨ret_bool ?_, ?_⟩)
  all_goals first
    | (rw [hf.out]; simp [*]; done)
    | exact bdrew ((bdrew (Below.refl _ _) nd).trans hb) _
    | exact (bdrew (Below.refl _ _) nd).trans hb
    | exact bdrew (Below.refl _ _) nd
end Go.Proofs.YtldmanfgmadbfaaGreatDoor.UU
namespace Go.Proofs.YtldmanfgmadbfaaGreatDoor.UU
set_option maxRecDepth 100000
open Go.RowKit Go.WideMaps Go.Maps
def fieldI (ss : List ByteArray) (i : Nat) : Int := match ss[i]? with
  | some s => if nameB s.data.toList = false then 4 else if hasS (ss.take i) s = true then 7 else 0
  | none => 0
def shapeI (n : ByteArray) (ss : List ByteArray) : Int := if freeB n.data.toList = false then 4 else if 6 < ss.length then 1 else firstI (fieldI ss) 0 ss.length
theorem fieldI_at (ss : List ByteArray) (i : Nat) (h : i < ss.length) : fieldI ss i = if nameB ss[i].data.toList = false then 4 else if hasS (ss.take i) ss[i] = true then 7 else 0 := by
  unfold fieldI; rw [List.getElem?_eq_getElem h]
theorem shapeI_free {n : ByteArray} {ss : List ByteArray} (h : freeB n.data.toList = false) : shapeI n ss = 4 := by unfold shapeI; rw [if_pos h]
theorem shapeI_many {n : ByteArray} {ss : List ByteArray} (h : freeB n.data.toList = true) (h2 : 6 < ss.length) : shapeI n ss = 1 := by unfold shapeI; rw [if_neg (by simp [h]), if_pos h2]
theorem shapeI_loop {n : ByteArray} {ss : List ByteArray} (h : freeB n.data.toList = true) (h2 : ¬ 6 < ss.length) : shapeI n ss = firstI (fieldI ss) 0 ss.length := by unfold shapeI; rw [if_neg (by simp [h]), if_neg h2]
theorem boxes22 {w w1 : World} {v0 v1 u0 u1 : Value} {t t' : TypeId} (hb : Below (w.heap.size + 2) ((w.alloc (.cells #[v0, v1] t)).alloc (.cells #[u0, u1] t')) w1) :
    w1.cell? ⟨w.heap.size, 0, none⟩ = some v0 ∧ w1.cell? ⟨w.heap.size, 1, none⟩ = some v1 ∧ w1.cell? ⟨w.heap.size + 1, 0, none⟩ = some u0 ∧ w1.cell? ⟨w.heap.size + 1, 1, none⟩ = some u1 := by
  refine ⟨?_, ?_, ?_, ?_⟩
  · rw [hb.cell (p := ⟨w.heap.size, 0, none⟩) (show w.heap.size < w.heap.size + 2 by omega)]; go_simp
  · rw [hb.cell (p := ⟨w.heap.size, 1, none⟩) (show w.heap.size < w.heap.size + 2 by omega)]; go_simp
  · rw [hb.cell (p := ⟨w.heap.size + 1, 0, none⟩) (show w.heap.size + 1 < w.heap.size + 2 by omega)]; go_simp
  · rw [hb.cell (p := ⟨w.heap.size + 1, 1, none⟩) (show w.heap.size + 1 < w.heap.size + 2 by omega)]; go_simp
theorem box22 {w w1 : World} {u0 u1 : Value} {t : TypeId} (hb : Below (w.heap.size + 1) (w.alloc (.cells #[u0, u1] t)) w1) :
    w1.cell? ⟨w.heap.size, 0, none⟩ = some u0 ∧ w1.cell? ⟨w.heap.size, 1, none⟩ = some u1 := by
  refine ⟨?_, ?_⟩
  · rw [hb.cell (p := ⟨w.heap.size, 0, none⟩) (show w.heap.size < w.heap.size + 1 by omega)]; go_simp
  · rw [hb.cell (p := ⟨w.heap.size, 1, none⟩) (show w.heap.size < w.heap.size + 1 by omega)]; go_simp
theorem below2 (w : World) (o o' : Obj) : Below w.heap.size w ((w.alloc o).alloc o') := ((Below.refl _ _).alloc (Nat.le_refl _) _).alloc (by simp) _
set_option maxHeartbeats 2000000 in
theorem checkShape_any (W : World) (B : Nat) (k p : Nat) (n : ByteArray) (a : Option Addr) (ss : List ByteArray) (len cap : Nat) (w : World) (hn : n.size ≤ maxLen) (hlen : len = ss.length) (hl : len ≤ 9223372036854775807) (hcap : len ≤ cap)
    (hWo : Words w k p) (hB : Below B W w) (hBw : B ≤ w.heap.size) (hS : Strs W B a ss) :
    Calls Tryz.prog 85 #[.agg #[.map (some k), .map (some p)], .agg #[.string n, .slice a len cap]] w fun e w' => e = .returned (.int .i64 (shapeI n ss)) ∧ Below w.heap.size w w' := by
  have hb0 := hid (below2 w (.cells #[.map (some k), .map (some p)] 142) (.cells #[.string n, .slice a len cap] 65))
  have hWo2 := hid (hWo.below hb0.out)
  have hL := hid hlen
  clear hlen
  cases hf : freeB n.data.toList
  · have HE := hid (shapeI_free (ss := ss) hf)
    go_enter Tryz.func85, Tryz.ntmps85
    go_wp2_with fail
    have hcall := isFree_any k p n _ hn hWo2.out
    go_fit hcall
    rintro e w1 ⟨rfl, hb⟩
    go_wp2_with fail
    go_ret
    exact ⟨ret_int HE.out.symm, hb0.out.trans (hb.mono (by simp; omega))⟩
  · go_enter Tryz.func85, Tryz.ntmps85
    go_wp2_with fail
    have hcall := isFree_any k p n _ hn hWo2.out
    go_fit hcall
    rintro e w1 ⟨rfl, hb⟩
    have hb1 : Below (w.heap.size + 2) ((w.alloc (.cells #[.map (some k), .map (some p)] 142)).alloc (.cells #[.string n, .slice a len cap] 65)) w1 := hb.mono (by simp)
    obtain ⟨g0, g1, g2, g3⟩ := boxes22 hb1
    clear hb hcall
    by_cases hm : 6 < len
    · have HE := hid (shapeI_many (ss := ss) hf (by rw [← hL.out]; exact hm))
      have hm2 : (6 : Int) < len := by omega
      go_wp2_with fail
      go_ret
      exact ⟨ret_int HE.out.symm, hb0.out.trans (hb1.mono (by omega))⟩
    · have HE := hid (shapeI_loop (ss := ss) hf (by rw [← hL.out]; exact hm))
      have hm2 : ¬ (6 : Int) < len := by omega
      go_wp2_with fail
      go_loopw [19] (fun i wr => ∃ j : Nat, j ≤ len ∧ i = .int .i64 j ∧ firstI (fieldI ss) 0 ss.length = firstI (fieldI ss) j (ss.length - j) ∧ Below (w.heap.size + 2) ((w.alloc (.cells #[.map (some k), .map (some p)] 142)).alloc (.cells #[.string n, .slice a len cap] 65)) wr) (fun i _ => len - (intOf i).toNat)
      case atStart => exact ⟨0, Nat.zero_le _, rfl, rfl, hb1⟩
      case round =>
        obtain ⟨j, hj, rfl, hfi, hbr⟩ := hrel
        have HF := hid hfi
        have hBr := hid ((hB.trans (hb0.out.mono hBw)).trans (hbr.mono (by omega)))
        have hsz := hbr.size
        simp at hsz
        clear hfi g0 g1 g2 g3 hb1
        by_cases hlt : j < len
        · have hj2 : j < ss.length := by rw [← hL.out]; exact hlt
          obtain ⟨hss, b, o, rfl, hbB, hc⟩ := (hS.below hBr.out) j hj2
          have HX := hid (fieldI_at ss j hj2)
          have HS := hid (firstI_step (fieldI ss) ss.length j hj2)
          have HT := hid (firstI_stop (fieldI ss) ss.length j hj2)
          have hss2 : ss[j].size ≤ 9223372036854775807 := by unfold maxLen at hss; omega
          generalize hy : ss[j] = y at HX hc hss hss2
          have HY := hid hy
          clear hy
          cases hnm : nameB y.data.toList
          · have e4 := HX.out
            rw [if_pos hnm] at e4
            have HTT := hid (HT.out (by rw [e4]; decide))
            go_wp2_with fail
            have hcall := uisName_any y wr hss2
            rw [hnm] at hcall
            go_fit hcall
            rintro e w2 ⟨rfl, hb2⟩
            go_wp2_with fail
            go_ret
            exact ⟨ret_int (by rw [HE.out, HF.out, HTT.out, e4]), hb0.out.trans ((hbr.mono (by omega)).trans (hb2.mono (by omega)))⟩
          · go_wp2_with fail
            have hcall := uisName_any y wr hss2
            rw [hnm] at hcall
            go_fit hcall
            rintro e w2 ⟨rfl, hb2⟩
            clear hcall
            have hbr2 := hbr.trans (hb2.mono (by omega))
            obtain ⟨g0, g1, g2, g3⟩ := boxes22 hbr2
            have hS2 := hid ((hS.below hBr.out).below (hb2.mono (by omega)))
            clear hbr hb2 hBr
            cases hcn : hasS (ss.take j) y
            · have e0 := HX.out
              rw [if_neg (by simp [hnm]), if_neg (by simp [hcn])] at e0
              have HSS := hid (HS.out e0)
              clear e0 HX HS HT
              go_wp2_with fail
              have hcall := contains_any w2 B _ ss j cap y hS2.out (by omega) (by omega)
              rw [hcn] at hcall
              go_fit hcall
              rintro e w3 ⟨rfl, rfl⟩
              go_wp2_with fail
              go_roundw
              case rel => exact ⟨j + 1, by omega, by go_num, HF.out.trans HSS.out, hbr2⟩
              case measure => simp [intOf]; omega
            · have e7 := HX.out
              rw [if_neg (by simp [hnm]), if_pos hcn] at e7
              have HTT := hid (HT.out (by rw [e7]; decide))
              clear HX HS HT
              go_wp2_with fail
              have hcall := contains_any w2 B _ ss j cap y hS2.out (by omega) (by omega)
              rw [hcn] at hcall
              go_fit hcall
              rintro e w3 ⟨rfl, rfl⟩
              go_wp2_with fail
              go_ret
              exact ⟨ret_int (by rw [HE.out, HF.out, HTT.out, e7]), hb0.out.trans (hbr2.mono (by omega))⟩
        · have HTT := hid (firstI_end (fieldI ss) ss.length j (by rw [← hL.out]; exact hlt))
          go_wp2_with fail
          go_ret
          exact ⟨ret_int (by rw [HE.out, HF.out, HTT.out]), hb0.out.trans (hbr.mono (by omega))⟩
end Go.Proofs.YtldmanfgmadbfaaGreatDoor.UU
namespace Go.Proofs.YtldmanfgmadbfaaGreatDoor.UU
set_option maxRecDepth 100000
open Go.RowKit Go.WideMaps Go.Maps
structure Sh where
  name : ByteArray
  adr : Option Addr
  fs : List ByteArray
  cap : Nat
/-- Records in a row, from an address on, in blocks below B. -/
def Shs (w : World) (B : Nat) (a : Option Addr) (l : List Sh) : Prop :=
  ∀ i (h : i < l.length), ∃ b o, a = some ⟨b, o, none⟩ ∧ b < B ∧ w.cell? ⟨b, o + i * 2, none⟩ = some (.string l[i].name) ∧ w.cell? ⟨b, o + i * 2 + 1, none⟩ = some (.slice l[i].adr l[i].fs.length l[i].cap) ∧
    l[i].name.size ≤ maxLen ∧ l[i].fs.length ≤ l[i].cap ∧ l[i].fs.length ≤ maxLen ∧ Strs w B l[i].adr l[i].fs
theorem Shs.below {w w' : World} {B : Nat} {a : Option Addr} {l : List Sh} (h : Shs w B a l) (hb : Below B w w') : Shs w' B a l := by
  intro i hi
  obtain ⟨b, o, h1, h2, h3, h4, h5, h6, h7, h8⟩ := h i hi
  exact ⟨b, o, h1, h2, (hb.cell (p := ⟨b, _, none⟩) h2).trans h3, (hb.cell (p := ⟨b, _, none⟩) h2).trans h4, h5, h6, h7, h8.below hb⟩
theorem Shs.mono {w : World} {B B' : Nat} {a : Option Addr} {l : List Sh} (h : Shs w B a l) (hb : B ≤ B') : Shs w B' a l := by
  intro i hi
  obtain ⟨b, o, h1, h2, h3, h4, h5, h6, h7, h8⟩ := h i hi
  exact ⟨b, o, h1, Nat.lt_of_lt_of_le h2 hb, h3, h4, h5, h6, h7, h8.mono hb⟩
def namesOf (l : List Sh) : List ByteArray := l.map Sh.name
/-- The place of the first of n records that has the name x; -1: none. -/
def posI (l : List Sh) (n : Nat) (x : ByteArray) : Int := Lib.idxOfS ((namesOf l).take n) x
theorem namesOf_get (l : List Sh) (i : Nat) (h : i < (namesOf l).length) : (namesOf l)[i] = (l[i]'(by simpa [namesOf] using h)).name := by simp [namesOf]
theorem nameAt (l : List Sh) (i : Nat) (h : i < l.length) : (namesOf l).getD i ByteArray.empty = l[i].name := by
  unfold namesOf; rw [List.getD_eq_getElem?_getD, List.getElem?_map, List.getElem?_eq_getElem h]; rfl
theorem pos_hit (l : List Sh) (n k : Nat) (x : ByteArray) (hk : k < n) (hn : n ≤ l.length) (he : l[k].name = x) (hno : hasS ((namesOf l).take k) x = false) : posI l n x = k := by
  refine Lib.idxOfS_hit _ n k x hk (by unfold namesOf; simpa using hn) ((nameAt l k (by omega)).trans he) (fun j hj e => ?_)
  have hlen : j < (namesOf l).length := by unfold namesOf; simp; omega
  have := has_yes (namesOf l) x k j hlen hj (by rw [← e, List.getD_eq_getElem?_getD, List.getElem?_eq_getElem hlen]; rfl)
  rw [this] at hno; cases hno
theorem pos_miss (l : List Sh) (n : Nat) (x : ByteArray) (hn : n ≤ l.length) (hno : hasS ((namesOf l).take n) x = false) : posI l n x = -1 := by
  refine Lib.idxOfS_miss _ n x (fun j hj e => ?_)
  have hlen : j < (namesOf l).length := by unfold namesOf; simp; omega
  have := has_yes (namesOf l) x n j hlen hj (by rw [← e, List.getD_eq_getElem?_getD, List.getElem?_eq_getElem hlen]; rfl)
  rw [this] at hno; cases hno
theorem has_no' (l : List Sh) (x : ByteArray) (k : Nat) (hk : k < l.length) (h : hasS ((namesOf l).take k) x = false) (hne : ¬ l[k].name = x) : hasS ((namesOf l).take (k + 1)) x = false := by
  have hlen : k < (namesOf l).length := by unfold namesOf; simpa using hk
  refine has_no (namesOf l) x k hlen h (fun e => hne ?_)
  rw [← e, namesOf_get]
set_option maxHeartbeats 400000 in
theorem pred_any (n x : ByteArray) (a : Option Addr) (len cap q : Nat) (w : World) (hq : q < w.heap.size) (hc : w.cell? ⟨q, 0, none⟩ = some (.string x)) :
    Calls Tryz.prog 104 #[.agg #[.string n, .slice a len cap], .pointer (some ⟨q, 0, none⟩)] w fun e w' => e = .returned (.bool (n.toList == x.toList)) ∧ Below w.heap.size w w' := by
  have hne : ¬ q = w.heap.size := by omega
  go_enter Tryz.func104, Tryz.ntmps104
  go_wp2
  go_ret
  exact ⟨rfl, (Below.refl _ _).alloc (Nat.le_refl _) _⟩
set_option maxHeartbeats 1000000 in
theorem indexFunc_any (B : Nat) (a : Option Addr) (l : List Sh) (n cap q : Nat) (x : ByteArray) (w : World) (hS : Shs w B a l) (hB : B ≤ w.heap.size) (hn : n ≤ l.length) (hm : n ≤ 9223372036854775807)
    (hq : q < w.heap.size) (hc : w.cell? ⟨q, 0, none⟩ = some (.string x)) :
    Calls Tryz.prog 103 #[.slice a n cap, .func (.func 104) #[] #[.pointer (some ⟨q, 0, none⟩)]] w fun e w' => e = .returned (.int .i64 (posI l n x)) ∧ Below w.heap.size w w' := by
  go_enter Tryz.func103, Tryz.ntmps103
  go_wp2_with fail
  go_loopw [8] (fun i wr => ∃ k : Nat, k ≤ n ∧ i = .int .i64 k ∧ hasS ((namesOf l).take k) x = false ∧ Below w.heap.size w wr) (fun i _ => n - (intOf i).toNat)
  case atStart => exact ⟨0, Nat.zero_le _, rfl, rfl, Below.refl _ _⟩
  case round =>
    obtain ⟨k, hk, rfl, hno, hbr⟩ := hrel
    have HN := hid hno
    clear hno
    have hsz := hbr.size
    by_cases hlt : k < n
    · obtain ⟨b, o, rfl, hbB, c0, c1, _, _, _, _⟩ := (hS.below (hbr.mono hB)) k (by omega)
      have hcr := hid ((hbr.cell (p := ⟨q, 0, none⟩) hq).trans hc)
      have hYe := hid (pos_hit l n k x hlt hn)
      have hNo := hid (has_no' l x k (by omega) HN.out)
      generalize l[k].name = y at c0 hYe hNo
      generalize l[k].adr = ya at c1
      generalize l[k].fs.length = yl at c1
      generalize l[k].cap = yc at c1
      go_wp2_with fail
      have hcall := pred_any y x ya yl yc q wr (by omega) hcr.out
      go_fit hcall
      clear hcall
      rintro e w2 ⟨rfl, hb2⟩
      by_cases he : y = x
      · have HR := hid (hYe.out he HN.out)
        have hq2 : (y.toList == x.toList) = true := by rw [bytes_eq]; simpa using he
        clear he
        rw [hq2]
        go_wp2_with fail
        go_ret
        exact ⟨ret_int HR.out.symm, hbr.trans (hb2.mono (by omega))⟩
      · have HR := hid (hNo.out he)
        have hq2 : (y.toList == x.toList) = false := by rw [bytes_eq]; simpa using he
        clear he
        rw [hq2]
        go_wp2_with fail
        go_roundw
        case rel => exact ⟨k + 1, by omega, by go_num, HR.out, hbr.trans (hb2.mono (by omega))⟩
        case measure => simp [intOf]; omega
    · obtain rfl : k = n := by omega
      have HR := hid (pos_miss l k x hn HN.out)
      go_wp2_with fail
      go_ret
      exact ⟨ret_int HR.out.symm, hbr⟩
theorem pos_cases (l : List Sh) (n : Nat) (x : ByteArray) (hn : n ≤ l.length) : posI l n x = -1 ∨ ∃ k : Nat, k < n ∧ posI l n x = k := by
  cases hno : hasS ((namesOf l).take n) x
  · exact Or.inl (pos_miss l n x hn hno)
  · right
    have hm := (Lib.containsS_iff _ _).1 hno
    have hex : ∃ k, k < n ∧ ∃ h : k < l.length, l[k].name = x := by
      obtain ⟨k, hk, e⟩ := List.mem_take_iff_getElem.1 hm
      exact ⟨k, by omega, by unfold namesOf at hk; simp at hk; omega, (namesOf_get l k (by omega)).symm.trans e⟩
    have hlo : ∀ m, (∃ k, k < m ∧ ∃ h : k < l.length, l[k].name = x) → m ≤ n → ∃ k, k < n ∧ (∃ h : k < l.length, l[k].name = x) ∧ hasS ((namesOf l).take k) x = false := by
      intro m
      induction m with
      | zero => rintro ⟨k, hk, _⟩; omega
      | succ m ih =>
        rintro ⟨k, hk, he⟩ hmn
        by_cases hlow : ∃ k, k < m ∧ ∃ h : k < l.length, l[k].name = x
        · exact ih hlow (by omega)
        · obtain rfl : k = m := by
            rcases Nat.lt_or_ge k m with h | h
            · exact absurd ⟨k, h, he⟩ hlow
            · omega
          refine ⟨k, by omega, he, ?_⟩
          cases hq : hasS ((namesOf l).take k) x
          · rfl
          · have hm2 := (Lib.containsS_iff _ _).1 hq
            obtain ⟨j, hj, e⟩ := List.mem_take_iff_getElem.1 hm2
            exact absurd ⟨j, by omega, by unfold namesOf at hj; simp at hj; omega, (namesOf_get l j (by omega)).symm.trans e⟩ hlow
    obtain ⟨k, hk, ⟨h, he⟩, hq⟩ := hlo n hex (Nat.le_refl _)
    exact ⟨k, hk, pos_hit l n k x hk hn he hq⟩
def emptySh : Value := .agg #[.string ⟨#[]⟩, .slice none 0 0]
/-- What is found. -/
def foundV (l : List Sh) (p : Int) : Value :=
  match l[p.toNat]? with
  | some s => if p < 0 then emptySh else .agg #[.string s.name, .slice s.adr s.fs.length s.cap]
  | none => emptySh
set_option maxHeartbeats 1000000 in
theorem find_any (B : Nat) (a : Option Addr) (l : List Sh) (n cap q : Nat) (x : ByteArray) (w : World) (hS : Shs w B a l) (hB : B ≤ w.heap.size) (hn : n ≤ l.length) (hm : n ≤ 9223372036854775807)
    (hq : q < w.heap.size) (hc : w.cell? ⟨q, 0, none⟩ = some (.slice a n cap)) :
    Calls Tryz.prog 102 #[.string x, .pointer (some ⟨q, 0, none⟩)] w fun e w' => e = .returned (.tuple #[foundV l (posI l n x), .bool (decide (0 ≤ posI l n x))]) ∧ Below w.heap.size w w' := by
  have hmf : ∀ (fn : Fn) (first cap : Array Value) (w : World), (Instr.makeFunc fn first cap).run Tryz.prog w = .ok (.func fn first cap) w := fun _ _ _ _ => rfl
  go_enter Tryz.func102, Tryz.ntmps102
  have hb0 := hid (below2 w (.cells #[.string x] 9) (.cells #[.string ⟨#[]⟩, .slice none 0 0] 65))
  have hbn := hid (hb0.out.mono hB)
  have hcn : Hid (((w.alloc (.cells #[.string x] 9)).alloc (.cells #[.string ⟨#[]⟩, .slice none 0 0] 65)).cell? ⟨w.heap.size, 0, none⟩ = some (.string x)) := by apply hid; go_simp
  go_wp2_with fail
  have hcall := indexFunc_any B a l n cap w.heap.size x _ (hS.below hbn.out) (by simp; omega) hn hm (by simp; omega) hcn.out
  go_fit hcall
  clear hcall
  rintro e w1 ⟨rfl, hb⟩
  have hb1 : Below (w.heap.size + 2) ((w.alloc (.cells #[.string x] 9)).alloc (.cells #[.string ⟨#[]⟩, .slice none 0 0] 65)) w1 := hb.mono (by simp)
  clear hb
  have hbw := hid (hb0.out.trans (hb1.mono (by omega)))
  have g0 : w1.cell? ⟨w.heap.size + 1, 0, none⟩ = some (.string ⟨#[]⟩) := by rw [hb1.cell (p := ⟨w.heap.size + 1, 0, none⟩) (show w.heap.size + 1 < w.heap.size + 2 by omega)]; go_simp
  have g1 : w1.cell? ⟨w.heap.size + 1, 1, none⟩ = some (.slice none 0 0) := by rw [hb1.cell (p := ⟨w.heap.size + 1, 1, none⟩) (show w.heap.size + 1 < w.heap.size + 2 by omega)]; go_simp
  have f0 : w1.frozen? ⟨w.heap.size + 1, 0, none⟩ = false := by rw [hb1.frozen (p := ⟨w.heap.size + 1, 0, none⟩) (show w.heap.size + 1 < w.heap.size + 2 by omega)]; go_simp
  have f1 : w1.frozen? ⟨w.heap.size + 1, 1, none⟩ = false := by rw [hb1.frozen (p := ⟨w.heap.size + 1, 1, none⟩) (show w.heap.size + 1 < w.heap.size + 2 by omega)]; go_simp
  rcases pos_cases l n x hn with hp | ⟨k, hk, hp⟩
  · have HV : Hid (foundV l (posI l n x) = emptySh ∧ decide (0 ≤ posI l n x) = false) := by
      apply hid; rw [hp]; refine ⟨?_, rfl⟩; unfold foundV; cases l[(-1 : Int).toNat]? <;> rfl
    rw [hp]
    clear hp
    go_wp2_with fail
    refine bodyPost_ret (v := .tuple #[emptySh, .bool false]) (by simp [results, Tryz.results102, go_sem, emptySh, g0, g1]) rfl ?_
    exact ⟨by rw [HV.out.1, HV.out.2], (hbw.out.setCell (p := ⟨w.heap.size + 1, 0, none⟩) (by simp) _).setCell (p := ⟨w.heap.size + 1, 1, none⟩) (by simp) _⟩
  · have hc1 := (hbw.out.cell (p := ⟨q, 0, none⟩) hq).trans hc
    have hkl : k < l.length := Nat.lt_of_lt_of_le hk hn
    obtain ⟨b, o, rfl, hbB, c0, c1, _, _, _, _⟩ := (hS.below (hbw.out.mono hB)) k hkl
    have HV : Hid (foundV l (posI l n x) = .agg #[.string (l[k]'hkl).name, .slice (l[k]'hkl).adr (l[k]'hkl).fs.length (l[k]'hkl).cap] ∧ decide (0 ≤ posI l n x) = true) := by
      apply hid; rw [hp]; refine ⟨?_, by simp⟩; unfold foundV; rw [Int.toNat_natCast, List.getElem?_eq_getElem hkl]
      simp only []
      rw [if_neg (by omega)]
    rw [hp]
    clear hp
    generalize (l[k]'hkl).name = y at c0 HV
    generalize (l[k]'hkl).adr = ya at c1 HV
    generalize (l[k]'hkl).fs.length = yl at c1 HV
    generalize (l[k]'hkl).cap = yc at c1 HV
    have hneq : ¬ q = w.heap.size + 1 := by omega
    have hneb : ¬ b = w.heap.size + 1 := by omega
    have hk2 : (k : Int) < n := by omega
    go_wp2_with fail
    refine bodyPost_ret (v := .tuple #[.agg #[.string y, .slice ya yl yc], .bool true]) (by simp [results, Tryz.results102, go_sem, g0, g1]) rfl ?_
    exact ⟨by rw [HV.out.1, HV.out.2], (hbw.out.setCell (p := ⟨w.heap.size + 1, 0, none⟩) (by simp) _).setCell (p := ⟨w.heap.size + 1, 1, none⟩) (by simp) _⟩
set_option maxHeartbeats 1000000 in
theorem finder_any (a : Option Addr) (n cap : Nat) (w : World) :
    Calls Tryz.prog 99 #[.slice a n cap] w fun e w' => e = .returned (.func (.func 102) #[] #[.pointer (some ⟨w.heap.size, 0, none⟩)]) ∧ w' = w.alloc (.cells #[.slice a n cap] 34) := by
  have hmf : ∀ (fn : Fn) (first cap : Array Value) (w : World), (Instr.makeFunc fn first cap).run Tryz.prog w = .ok (.func fn first cap) w := fun _ _ _ _ => rfl
  go_enter Tryz.func99, Tryz.ntmps99
  go_wp2
  go_ret
  exact ⟨rfl, rfl⟩
end Go.Proofs.YtldmanfgmadbfaaGreatDoor.UU

/- The chart of a heap is drawn: heap's newChart. -/
import Derived.Test.YtfjfobpdlmdddaaHMoved
namespace Go.Proofs.Ytfjfobpdlmdddaa
set_option maxRecDepth 100000
open Go.RowKit Go.Maps
/-- The chart as a value: its words, its things, its two maps, in memory from block B on. -/
structure ChartV (w : World) (B : Nat) (a : Option Addr) (l : List Wd) (v : Value) (acc : List Th) (pb mb : Nat) (ms : List (Int × Int)) : Prop where
  wds : Wds w B a l
  row : ThL w B v acc
  pl : OwnsI w pb (plOf acc)
  mv : OwnsI w mb ms
  hpb : B ≤ pb
  hmb : B ≤ mb
  n3 : ¬ pb = mb
  n4 : ∀ g, v.ownBlock = some g → ¬ g = pb ∧ ¬ g = mb
theorem Chart.toV {w : World} {B cb : Nat} {a : Option Addr} {len cap : Nat} {l : List Wd} {v : Value} {acc : List Th} {pb mb : Nat} {ms : List (Int × Int)} (h : Chart w B cb a len cap l v acc pb mb ms) : ChartV w B a l v acc pb mb ms :=
  ⟨h.wds, h.row, h.pl, h.mv, h.hpb, h.hmb, h.n3, fun g hg => (h.n4 g hg).2⟩
theorem ChartV.below {w w' : World} {B : Nat} {a : Option Addr} {l : List Wd} {v : Value} {acc : List Th} {pb mb : Nat} {ms : List (Int × Int)} (h : ChartV w B a l v acc pb mb ms) (hb : Below w.heap.size w w') : ChartV w' B a l v acc pb mb ms :=
  ⟨h.wds.below (hb.mono (by have := h.hpb; have := h.pl.lt; omega)), h.row.keep (fun b hv => hb.block b (h.row.own_lt hv).2), h.pl.keep (hb.block _ h.pl.lt), h.mv.keep (hb.block _ h.mv.lt), h.hpb, h.hmb, h.n3, h.n4⟩
theorem ChartV.mono {w : World} {B B' : Nat} {a : Option Addr} {l : List Wd} {v : Value} {acc : List Th} {pb mb : Nat} {ms : List (Int × Int)} (h : ChartV w B a l v acc pb mb ms) (hB : B' ≤ B) (hw : Wds w B' a l) : ChartV w B' a l v acc pb mb ms := by
  refine ⟨hw, ?_, h.pl, h.mv, by have := h.hpb; omega, by have := h.hmb; omega, h.n3, h.n4⟩
  obtain ⟨cells, ho, hi⟩ := h.row
  refine ⟨cells, ⟨ho.1, ?_⟩, hi⟩
  rcases ho.2 with ho | ⟨g, cap, cur, hv, hb, hr⟩
  · exact Or.inl ho
  · exact Or.inr ⟨g, cap, cur, hv, by omega, hr⟩
/-- In a variable of one's own. -/
theorem ChartV.box {w : World} {B : Nat} {a : Option Addr} {len cap : Nat} {l : List Wd} {v : Value} {acc : List Th} {pb mb : Nat} {ms : List (Int × Int)} (h : ChartV w B a l v acc pb mb ms) (t : TypeId) : Chart (w.alloc (.cells #[.slice a len cap, v, .map (some pb), .map (some mb)] t)) B w.heap.size a len cap l v acc pb mb ms := by
  have h1 := h.pl.lt
  have h2 := h.mv.lt
  have h3 := h.hpb
  have hv := h.below ((Below.refl _ _).alloc (Nat.le_refl _) (.cells #[.slice a len cap, v, .map (some pb), .map (some mb)] t))
  refine ⟨hv.wds, ?_, ?_, ?_, ?_, ?_, hv.row, hv.pl, hv.mv, by omega, h.hpb, h.hmb, by omega, by omega, h.n3, fun g hg => ⟨by have := (h.row.own_lt hg).2; omega, h.n4 g hg⟩⟩ <;> go_simp
structure OkC (lim : Int) (l : List Wd) (acc : List Th) (ms : List (Int × Int)) : Prop where
  lo : 50 ≤ lim
  hi : lim ≤ 60000
  room : (l.length : Int) ≤ lim
  chain : Chain l acc l.length
  moved : mvAll l (plOf acc) acc.reverse [] = some ms
  vals : acc.all (thB l (plOf acc)) = true
def BadC (lim : Int) (l : List Wd) : Prop :=
  ¬ (50 ≤ lim ∧ lim ≤ 60000 ∧ (l.length : Int) ≤ lim) ∨ (∃ acc i, Chain l acc i ∧ i < l.length ∧ tAt l i = none) ∨ (∃ acc, Chain l acc l.length ∧ (mvAll l (plOf acc) acc.reverse [] = none ∨ acc.all (thB l (plOf acc)) = false))
theorem Chain.inL {l : List Wd} {acc : List Th} {a : Nat} (h : Chain l acc a) : ∀ i (h : i < acc.length), acc[i].h < l.length ∧ acc[i].h < acc[i].f ∧ acc[i].f ≤ acc[i].e ∧ acc[i].e ≤ l.length := by
  induction h with
  | nil => intro i h; simp at h
  | snoc h1 h2 h3 ih =>
    intro i hi
    rename_i acc a f e
    by_cases hlt : i < acc.length
    · rw [List.getElem_append_left hlt]; exact ih i hlt
    · have : i = acc.length := by simp at hi; omega
      subst this
      rw [List.getElem_append_right (Nat.le_refl _)]
      simp only [Nat.sub_self, List.getElem_cons_zero]
      have := tAt_le h3
      omega
theorem Chain.has {l : List Wd} {acc : List Th} {a : Nat} (h : Chain l acc a) (n : Int) : hasI (plOf acc) n = true ↔ ∃ i, ∃ h : i < acc.length, (acc[i].h : Int) = n := by
  induction h with
  | nil => simp [plOf, hasI]
  | snoc h1 h2 h3 ih =>
    rename_i acc a f e
    rw [plOf_snoc]
    unfold hasI
    rw [Bool.or_eq_true, ih]
    constructor
    · rintro (h | ⟨i, hi, h⟩)
      · exact ⟨acc.length, by simp, by rw [List.getElem_append_right (Nat.le_refl _)]; simpa using h⟩
      · exact ⟨i, by simp; omega, by rw [List.getElem_append_left hi]; exact h⟩
    · rintro ⟨i, hi, h⟩
      by_cases hlt : i < acc.length
      · rw [List.getElem_append_left hlt] at h; exact Or.inr ⟨i, hlt, h⟩
      · have : i = acc.length := by simp at hi; omega
        subst this
        rw [List.getElem_append_right (Nat.le_refl _)] at h
        exact Or.inl (by simpa using h)
theorem Chain.within {l : List Wd} {acc : List Th} {a : Nat} (h : Chain l acc a) (n : Int) (hn : hasI (plOf acc) n = true) : 0 ≤ n ∧ n < l.length := by
  obtain ⟨i, hi, e⟩ := (h.has n).1 hn
  have := (h.inL i hi).1
  omega
theorem run_makeMap_hint (x : Int) (w : World) : (Instr.makeMap 56 (some (.int .i64 x))).run Try.prog w = .ok (.map (some w.heap.size)) (w.alloc (.map #[] 0)) := by
  simp [Instr.makeMap, run_underlying Try.underlying56, asInt, asIntOf, Result.andThen]
theorem ownsI_born {w : World} {b : Nat} (h : w.heap[b]? = some (.map #[] 0)) : OwnsI w b [] := by
  obtain ⟨es, c, e1, e2⟩ := World.ownsMap_made (H := Unit) w Try.prog 3 (plainElem Try.prog 3)
  rw [(MapKept.heap_alloc w _).1] at e1
  injection e1 with e1
  injection e1 with e1 e3
  subst e1 e3
  exact ⟨_, _, h, e2⟩
theorem chart_born {w W : World} {B cb pb mb : Nat} {a : Option Addr} {len cap : Nat} {l : List Wd} {t : TypeId} (hW : Wds w B a l) (hB : B ≤ w.heap.size) (hb : Below w.heap.size w W) (h1 : W.heap[cb]? = some (.cells #[.slice a len cap, .slice none 0 0, .map (some pb), .map (some mb)] t (0, 0))) (h2 : W.heap[pb]? = some (.map #[] 0)) (h3 : W.heap[mb]? = some (.map #[] 0))
    (k1 : w.heap.size + 2 ≤ cb) (k2 : w.heap.size + 2 ≤ pb) (k3 : w.heap.size + 2 ≤ mb) (n1 : ¬ cb = pb) (n2 : ¬ cb = mb) (n3 : ¬ pb = mb) : Chart W (w.heap.size + 2) cb a len cap l (.slice none 0 0) [] pb mb [] :=
  ⟨(hW.below (hb.mono hB)).mono (by omega), by simp [World.cell?, h1], by simp [World.cell?, h1], by simp [World.cell?, h1], by simp [World.cell?, h1], by simp [World.frozen?, h1], ThL.nil _ _, ownsI_born h2, ownsI_born h3, k1, k2, k3, n1, n2, n3, fun g hg => by simp [Value.ownBlock] at hg⟩
/-- What lies there when the chart has been laid out. -/
structure Born (w W : World) (cb pb mb : Nat) (a : Option Addr) (len cap : Nat) (l : List Wd) : Prop where
  chart : Chart W (w.heap.size + 2) cb a len cap l (.slice none 0 0) [] pb mb []
  bel : Below w.heap.size w W
  r0 : W.cell? ⟨w.heap.size + 1, 0, none⟩ = some (.slice none 0 0)
  r1 : W.cell? ⟨w.heap.size + 1, 1, none⟩ = some (.slice none 0 0)
  r2 : W.cell? ⟨w.heap.size + 1, 2, none⟩ = some (.map none)
  r3 : W.cell? ⟨w.heap.size + 1, 3, none⟩ = some (.map none)
  f0 : W.frozen? ⟨w.heap.size + 1, 0, none⟩ = false
  f1 : W.frozen? ⟨w.heap.size + 1, 1, none⟩ = false
  f2 : W.frozen? ⟨w.heap.size + 1, 2, none⟩ = false
  f3 : W.frozen? ⟨w.heap.size + 1, 3, none⟩ = false
  size : w.heap.size + 2 ≤ W.heap.size
theorem born_of {w W : World} {B cb pb mb : Nat} {a : Option Addr} {len cap : Nat} {l : List Wd} {t t' : TypeId} (hW : Wds w B a l) (hB : B ≤ w.heap.size) (hb : Below w.heap.size w W) (h1 : W.heap[cb]? = some (.cells #[.slice a len cap, .slice none 0 0, .map (some pb), .map (some mb)] t (0, 0))) (h2 : W.heap[pb]? = some (.map #[] 0)) (h3 : W.heap[mb]? = some (.map #[] 0))
    (hr : W.heap[w.heap.size + 1]? = some (.cells #[.slice none 0 0, .slice none 0 0, .map none, .map none] t' (0, 0))) (k1 : w.heap.size + 2 ≤ cb) (k2 : w.heap.size + 2 ≤ pb) (k3 : w.heap.size + 2 ≤ mb) (n1 : ¬ cb = pb) (n2 : ¬ cb = mb) (n3 : ¬ pb = mb) : Born w W cb pb mb a len cap l :=
  ⟨chart_born hW hB hb h1 h2 h3 k1 k2 k3 n1 n2 n3, hb, by simp [World.cell?, hr], by simp [World.cell?, hr], by simp [World.cell?, hr], by simp [World.cell?, hr], by simp [World.frozen?, hr], by simp [World.frozen?, hr], by simp [World.frozen?, hr], by simp [World.frozen?, hr], by have := (Array.getElem?_eq_some_iff.1 hr).1; omega⟩
theorem new_at (w : World) (o : Obj) (k : Nat) (h : w.heap.size = k) : (w.alloc o).heap[k]? = some o := by subst h; exact World.alloc_heap_new w o
theorem heap5 (w : World) (o1 o2 o3 o4 o5 : Obj) : (((((w.alloc o1).alloc o2).alloc o3).alloc o4).alloc o5).drew.heap[w.heap.size + 1]? = some o2 ∧ (((((w.alloc o1).alloc o2).alloc o3).alloc o4).alloc o5).drew.heap[w.heap.size + 1 + 1]? = some o3 ∧ (((((w.alloc o1).alloc o2).alloc o3).alloc o4).alloc o5).drew.heap[w.heap.size + 1 + 1 + 1]? = some o4 ∧ (((((w.alloc o1).alloc o2).alloc o3).alloc o4).alloc o5).drew.heap[w.heap.size + 1 + 1 + 1 + 1]? = some o5 := by
  have n2 := new_at (w.alloc o1) o2 (w.heap.size + 1) (by simp)
  have n3 := new_at ((w.alloc o1).alloc o2) o3 (w.heap.size + 1 + 1) (by simp)
  have n4 := new_at (((w.alloc o1).alloc o2).alloc o3) o4 (w.heap.size + 1 + 1 + 1) (by simp)
  have n5 := new_at ((((w.alloc o1).alloc o2).alloc o3).alloc o4) o5 (w.heap.size + 1 + 1 + 1 + 1) (by simp)
  exact ⟨(Below.heap_alloc _ o5 _ (by simp <;> omega)).trans ((Below.heap_alloc _ o4 _ (by simp <;> omega)).trans ((Below.heap_alloc _ o3 _ (by simp <;> omega)).trans n2)), (Below.heap_alloc _ o5 _ (by simp <;> omega)).trans ((Below.heap_alloc _ o4 _ (by simp <;> omega)).trans n3), (Below.heap_alloc _ o5 _ (by simp <;> omega)).trans n4, n5⟩
theorem below5 (w : World) (o1 o2 o3 o4 o5 : Obj) : Below w.heap.size w (((((w.alloc o1).alloc o2).alloc o3).alloc o4).alloc o5).drew :=
  bdrew ((((((Below.refl _ _).alloc (Nat.le_refl _) _).alloc (by simp) _).alloc (by simp; omega) _).alloc (by simp; omega) _).alloc (by simp; omega) _) 1
theorem heap_set4 {g k : Nat} (w : World) (hk : ¬ k = g) {x0 x1 x2 x3 : Value} : ((((w.setCell ⟨g, 0, none⟩ x0).setCell ⟨g, 1, none⟩ x1).setCell ⟨g, 2, none⟩ x2).setCell ⟨g, 3, none⟩ x3).heap[k]? = w.heap[k]? := by
  rw [Below.heap_setCell _ _ _ _ hk, Below.heap_setCell _ _ _ _ hk, Below.heap_setCell _ _ _ _ hk, Below.heap_setCell _ _ _ _ hk]
theorem below_set4s {B g : Nat} {a w : World} (h : Below B a w) (hg : B ≤ g) {x0 x1 x2 x3 : Value} : Below B a ((((w.setCell ⟨g, 0, none⟩ x0).setCell ⟨g, 1, none⟩ x1).setCell ⟨g, 2, none⟩ x2).setCell ⟨g, 3, none⟩ x3) :=
  (((h.setCell (p := ⟨g, 0, none⟩) hg _).setCell (p := ⟨g, 1, none⟩) hg _).setCell (p := ⟨g, 2, none⟩) hg _).setCell (p := ⟨g, 3, none⟩) hg _
set_option maxHeartbeats 4000000 in
theorem newChart_any (w : World) (B : Nat) (a : Option Addr) (len cap : Nat) (l : List Wd) (lim : Int) (hW : Wds w B a l) (hB : B ≤ w.heap.size) (hlen : len = l.length) (hcap : len ≤ cap) (hl : len ≤ 9223372036854775807) (hwf : wfL l) :
    Calls Try.prog 33 #[.agg #[.slice a len cap, .int .i64 lim]] w fun e w' => Below w.heap.size w w' ∧
      ((∃ v acc pb mb ms, e = .returned (.tuple #[.agg #[.slice a len cap, v, .map (some pb), .map (some mb)], .int .i64 0]) ∧ OkC lim l acc ms ∧ ChartV w' w.heap.size a l v acc pb mb ms) ∨
       (e = .returned (.tuple #[.agg #[.slice none 0 0, .slice none 0 0, .map none, .map none], .int .i64 9]) ∧ BadC lim l)) := by
  have hL := hid hlen
  clear hlen
  have hmm := @run_makeMap Try.prog
  have hmh := run_makeMap_hint
  by_cases hlims : 50 ≤ lim ∧ lim ≤ 60000 ∧ (len : Int) ≤ lim
  · obtain ⟨h1, h2, h3⟩ := hlims
    have n1 : ¬ lim < 50 := by omega
    have n2 : ¬ 60000 < lim := by omega
    have n3 : ¬ lim < len := by omega
    go_enter Try.func33, Try.ntmps33
    go_wp2_with fail
    refine Code.wp_mono (Q := fun e a' w' => e = .normal ∧ ∃ cb pb mb, Born w w' cb pb mb a len cap l ∧ a' = { tmps := #[.agg #[.slice a len cap, .int .i64 lim], .pointer (some ⟨w.heap.size, 0, none⟩), .pointer (some ⟨w.heap.size + 1, 0, none⟩), .int .i64 0, .pointer (some ⟨cb, 0, none⟩), .pointer (some ⟨w.heap.size, 1, none⟩), .int .i64 lim, .bool false, .bool false, .pointer (some ⟨w.heap.size, 1, none⟩), .int .i64 lim, .bool false, .bool false, .bool false, .pointer (some ⟨w.heap.size, 0, none⟩), .slice a len cap, .int .i64 (len : Int), .pointer (some ⟨w.heap.size, 1, none⟩), .int .i64 lim, .bool false, .bool false, undef, .pointer (some ⟨w.heap.size, 0, none⟩), .slice a len cap, .pointer (some ⟨w.heap.size, 0, none⟩), .slice a len cap, .int .i64 (len : Int), .int .i64 ((len : Int) / 3), .map (some pb), .map (some mb), .agg #[.slice a len cap, .slice none 0 0, .map (some pb), .map (some mb)], undef, undef, undef, undef, undef, undef, undef, undef, undef, undef, undef, undef], defers := [] }) ?rest ?reg
    case reg =>
      go_region
      all_goals
        refine ⟨rfl, _, _, _, born_of (t := 58) (t' := 58) hW hB (below5 _ _ _ _ _ _) ?_ ?_ ?_ ?_ ?_ ?_ ?_ ?_ ?_ ?_, rfl⟩
      all_goals first
        | omega
        | exact (heap5 _ _ _ _ _ _).1
        | exact (heap5 _ _ _ _ _ _).2.1
        | exact (heap5 _ _ _ _ _ _).2.2.1
        | exact (heap5 _ _ _ _ _ _).2.2.2
    case rest =>
      rintro e a' w3 ⟨rfl, cb, pb, mb, hBo, rfl⟩
      have HBo := hid hBo
      have hs3 := hBo.size
      clear hmm hmh
      go_wp2_with fail
      have hcall := addThings_any w3 (w.heap.size + 2) cb a len cap l pb mb [] _ hBo.chart hL.out (by omega)
      go_fit hcall
      clear hcall
      rintro e w4 ⟨hB4, ⟨rfl, v, acc, hch, C4⟩ | ⟨rfl, acc, i, hch, hi, hno⟩⟩
      · have hB04 := hid (hBo.bel.trans (hB4.mono (by omega)))
        have r0 := (hB4.cell (p := ⟨w.heap.size + 1, 0, none⟩) (by dsimp only; omega)).trans hBo.r0
        have r1 := (hB4.cell (p := ⟨w.heap.size + 1, 1, none⟩) (by dsimp only; omega)).trans hBo.r1
        have r2 := (hB4.cell (p := ⟨w.heap.size + 1, 2, none⟩) (by dsimp only; omega)).trans hBo.r2
        have r3 := (hB4.cell (p := ⟨w.heap.size + 1, 3, none⟩) (by dsimp only; omega)).trans hBo.r3
        have f0 := (hB4.frozen (p := ⟨w.heap.size + 1, 0, none⟩) (by dsimp only; omega)).trans hBo.f0
        have f1 := (hB4.frozen (p := ⟨w.heap.size + 1, 1, none⟩) (by dsimp only; omega)).trans hBo.f1
        have f2 := (hB4.frozen (p := ⟨w.heap.size + 1, 2, none⟩) (by dsimp only; omega)).trans hBo.f2
        have f3 := (hB4.frozen (p := ⟨w.heap.size + 1, 3, none⟩) (by dsimp only; omega)).trans hBo.f3
        clear hBo
        have hin := hch.inL
        have hac := hch.le
        have hs4 : w.heap.size + 2 ≤ w4.heap.size := by have := hB4.size; omega
        rw [← hL.out] at hin hac
        go_wp2_with fail
        have hcall := addMoved_any w4 (w.heap.size + 2) cb a len cap l v acc pb mb C4 hL.out (by omega) (fun i h => (hin i h).1) (by omega) hwf hch.within
        go_fit hcall
        clear hcall
        rintro e w5 ⟨hB5, ⟨rfl, ms, hmv, C5⟩ | ⟨rfl, hmv⟩⟩
        · have hB05 := hid (hB04.out.trans (hB5.mono (by omega)))
          have q0 := (hB5.cell (p := ⟨w.heap.size + 1, 0, none⟩) (by dsimp only; omega)).trans r0
          have q1 := (hB5.cell (p := ⟨w.heap.size + 1, 1, none⟩) (by dsimp only; omega)).trans r1
          have q2 := (hB5.cell (p := ⟨w.heap.size + 1, 2, none⟩) (by dsimp only; omega)).trans r2
          have q3 := (hB5.cell (p := ⟨w.heap.size + 1, 3, none⟩) (by dsimp only; omega)).trans r3
          have g0 := (hB5.frozen (p := ⟨w.heap.size + 1, 0, none⟩) (by dsimp only; omega)).trans f0
          have g1 := (hB5.frozen (p := ⟨w.heap.size + 1, 1, none⟩) (by dsimp only; omega)).trans f1
          have g2 := (hB5.frozen (p := ⟨w.heap.size + 1, 2, none⟩) (by dsimp only; omega)).trans f2
          have g3 := (hB5.frozen (p := ⟨w.heap.size + 1, 3, none⟩) (by dsimp only; omega)).trans f3
          clear r0 r1 r2 r3 f0 f1 f2 f3
          have hs5 : w.heap.size + 2 ≤ w5.heap.size := by have := hB5.size; omega
          go_wp2_with fail
          have hcall := hasValues_any w5 (w.heap.size + 2) cb a len cap l v acc pb mb ms C5 hL.out (by omega) hcap hin (by omega) hwf
          go_fit hcall
          clear hcall
          rintro e w6 ⟨rfl, hB6⟩
          have hB06 := hid (hB05.out.trans (hB6.mono (by omega)))
          have r0 := (hB6.cell (p := ⟨w.heap.size + 1, 0, none⟩) (by dsimp only; omega)).trans q0
          have r1 := (hB6.cell (p := ⟨w.heap.size + 1, 1, none⟩) (by dsimp only; omega)).trans q1
          have r2 := (hB6.cell (p := ⟨w.heap.size + 1, 2, none⟩) (by dsimp only; omega)).trans q2
          have r3 := (hB6.cell (p := ⟨w.heap.size + 1, 3, none⟩) (by dsimp only; omega)).trans q3
          have f0 := (hB6.frozen (p := ⟨w.heap.size + 1, 0, none⟩) (by dsimp only; omega)).trans g0
          have f1 := (hB6.frozen (p := ⟨w.heap.size + 1, 1, none⟩) (by dsimp only; omega)).trans g1
          have f2 := (hB6.frozen (p := ⟨w.heap.size + 1, 2, none⟩) (by dsimp only; omega)).trans g2
          have f3 := (hB6.frozen (p := ⟨w.heap.size + 1, 3, none⟩) (by dsimp only; omega)).trans g3
          have C6 := C5.below hB6
          clear q0 q1 q2 q3 g0 g1 g2 g3
          cases hall : acc.all (thB l (plOf acc))
          · have HW := hid (show BadC lim l from Or.inr (Or.inr ⟨acc, hch, Or.inr hall⟩))
            go_wp2_with fail
            refine bodyPost_ret (v := .tuple #[.agg #[.slice none 0 0, .slice none 0 0, .map none, .map none], .int .i64 9]) (by simp [results, Try.results33, go_sem, r0, r1, r2, r3]) rfl ⟨?_, Or.inr ⟨rfl, HW.out⟩⟩
            exact below_set4s hB06.out (by omega)
          · have HW := hid (show OkC lim l acc ms from ⟨h1, h2, by rw [← hL.out]; exact h3, hch, hmv, hall⟩)
            have c0 := C6.c0
            have c1 := C6.c1
            have c2 := C6.c2
            have c3 := C6.c3
            obtain ⟨av, capv, hv, _, _⟩ := C6.row.cells
            rw [hv] at c1
            go_wp2_with fail
            refine bodyPost_ret (v := .tuple #[.agg #[.slice a len cap, .slice av acc.length capv, .map (some pb), .map (some mb)], .int .i64 0]) (by simp [results, Try.results33, go_sem, r0, r1, r2, r3]) rfl ⟨below_set4s hB06.out (by omega), Or.inl ⟨_, acc, pb, mb, ms, rfl, HW.out, ?_⟩⟩
            rw [← hv]
            have hb := below_set4s (g := w.heap.size + 1) (Below.refl (w.heap.size + 1) w6) (Nat.le_refl _) (x0 := .slice a len cap) (x1 := .slice av acc.length capv) (x2 := .map (some pb)) (x3 := .map (some mb))
            have hV := C6.toV
            refine ChartV.mono (B := w.heap.size + 2) ⟨?_, hV.row.keep (fun b hb' => heap_set4 w6 (by have := (hV.row.own_lt hb').1; omega)), hV.pl.keep (heap_set4 w6 (by have := hV.hpb; omega)), hV.mv.keep (heap_set4 w6 (by have := hV.hmb; omega)), hV.hpb, hV.hmb, hV.n3, hV.n4⟩ (by omega) ((hW.mono hB).below ((below_set4s hB06.out (by omega)).mono (Nat.le_refl _)))
            exact ((hW.mono hB).below (below_set4s hB06.out (by omega))).mono (by omega)
        · have HW := hid (show BadC lim l from Or.inr (Or.inr ⟨acc, hch, Or.inl hmv⟩))
          have hB05 := hid (hB04.out.trans (hB5.mono (by omega)))
          have q0 := (hB5.cell (p := ⟨w.heap.size + 1, 0, none⟩) (by dsimp only; omega)).trans r0
          have q1 := (hB5.cell (p := ⟨w.heap.size + 1, 1, none⟩) (by dsimp only; omega)).trans r1
          have q2 := (hB5.cell (p := ⟨w.heap.size + 1, 2, none⟩) (by dsimp only; omega)).trans r2
          have q3 := (hB5.cell (p := ⟨w.heap.size + 1, 3, none⟩) (by dsimp only; omega)).trans r3
          have g0 := (hB5.frozen (p := ⟨w.heap.size + 1, 0, none⟩) (by dsimp only; omega)).trans f0
          have g1 := (hB5.frozen (p := ⟨w.heap.size + 1, 1, none⟩) (by dsimp only; omega)).trans f1
          have g2 := (hB5.frozen (p := ⟨w.heap.size + 1, 2, none⟩) (by dsimp only; omega)).trans f2
          have g3 := (hB5.frozen (p := ⟨w.heap.size + 1, 3, none⟩) (by dsimp only; omega)).trans f3
          clear r0 r1 r2 r3 f0 f1 f2 f3
          go_wp2_with fail
          refine bodyPost_ret (v := .tuple #[.agg #[.slice none 0 0, .slice none 0 0, .map none, .map none], .int .i64 9]) (by simp [results, Try.results33, go_sem, q0, q1, q2, q3]) rfl ⟨?_, Or.inr ⟨rfl, HW.out⟩⟩
          exact below_set4s hB05.out (by omega)
      · have HW := hid (show BadC lim l from Or.inr (Or.inl ⟨acc, i, hch, hi, hno⟩))
        have hB04 := hid (hBo.bel.trans (hB4.mono (by omega)))
        have r0 := (hB4.cell (p := ⟨w.heap.size + 1, 0, none⟩) (by dsimp only; omega)).trans hBo.r0
        have r1 := (hB4.cell (p := ⟨w.heap.size + 1, 1, none⟩) (by dsimp only; omega)).trans hBo.r1
        have r2 := (hB4.cell (p := ⟨w.heap.size + 1, 2, none⟩) (by dsimp only; omega)).trans hBo.r2
        have r3 := (hB4.cell (p := ⟨w.heap.size + 1, 3, none⟩) (by dsimp only; omega)).trans hBo.r3
        have f0 := (hB4.frozen (p := ⟨w.heap.size + 1, 0, none⟩) (by dsimp only; omega)).trans hBo.f0
        have f1 := (hB4.frozen (p := ⟨w.heap.size + 1, 1, none⟩) (by dsimp only; omega)).trans hBo.f1
        have f2 := (hB4.frozen (p := ⟨w.heap.size + 1, 2, none⟩) (by dsimp only; omega)).trans hBo.f2
        have f3 := (hB4.frozen (p := ⟨w.heap.size + 1, 3, none⟩) (by dsimp only; omega)).trans hBo.f3
        clear hBo
        go_wp2_with fail
        refine bodyPost_ret (v := .tuple #[.agg #[.slice none 0 0, .slice none 0 0, .map none, .map none], .int .i64 9]) (by simp [results, Try.results33, go_sem, r0, r1, r2, r3]) rfl ⟨?_, Or.inr ⟨rfl, HW.out⟩⟩
        exact below_set4s hB04.out (by omega)
  · have HW := hid (show BadC lim l from Or.inl (by rw [← hL.out]; exact hlims))
    clear hmm hmh
    go_enter Try.func33, Try.ntmps33
    go_wp2_with fail
    all_goals first
      | (exfalso; omega)
      | (refine bodyPost_ret (v := .tuple #[.agg #[.slice none 0 0, .slice none 0 0, .map none, .map none], .int .i64 9]) (by simp [results, Try.results33, go_sem]) rfl ⟨?_, Or.inr ⟨rfl, HW.out⟩⟩
         exact ((Below.refl _ _).alloc (Nat.le_refl _) _).alloc (by simp) _)
end Go.Proofs.Ytfjfobpdlmdddaa

/- One thing more behind all words: heap's mayGrow. -/
import Derived.Test.YtfjfobpdlmdddaaHGrowP
import Derived.Test.YtfjfobpdlmdddaaHMoveP
namespace Go.Proofs.Ytfjfobpdlmdddaa
set_option maxRecDepth 100000
open Go.RowKit Go.Maps
theorem Chart.other {w : World} {B cb : Nat} {a : Option Addr} {len cap : Nat} {l : List Wd} {v : Value} {acc : List Th} {pb mb : Nat} {ms : List (Int × Int)} (h : Chart w B cb a len cap l v acc pb mb ms) (a2 : Option Addr) (len2 cap2 : Nat) :
    Chart (w.setCell ⟨cb, 0, none⟩ (.slice a2 len2 cap2)) B cb a2 len2 cap2 [] v acc pb mb ms := by
  have hk : ∀ b, ¬ b = cb → (w.setCell ⟨cb, 0, none⟩ (.slice a2 len2 cap2)).heap[b]? = w.heap[b]? := fun b hb => Below.heap_setCell _ _ _ _ (by dsimp only; omega)
  refine ⟨fun i hi => absurd hi (by simp), World.cell?_setCell_same _ _ _ h.c0, ?_, ?_, ?_, by simpa using h.f1, h.row.keep (fun b hb => hk b (h.n4 b hb).1), h.pl.keep (hk pb (fun e => h.n1 e.symm)), h.mv.keep (hk mb (fun e => h.n2 e.symm)), h.hcb, h.hpb, h.hmb, h.n1, h.n2, h.n3, h.n4⟩
  · exact (World.cell?_setCell_other _ _ _ _ (by intro e; injection e with _ e; omega)).trans h.c1
  · exact (World.cell?_setCell_other _ _ _ _ (by intro e; injection e with _ e; omega)).trans h.c2
  · exact (World.cell?_setCell_other _ _ _ _ (by intro e; injection e with _ e; omega)).trans h.c3
/-- What mayGrow leaves. -/
structure GrO (w w' : World) (B cb pb : Nat) (v : Value) : Prop where
  bel : Below B w w'
  oth : ∀ b, b < w.heap.size → ¬ b = cb → ¬ b = pb → ¬ v.ownBlock = some b → w'.heap[b]? = w.heap[b]?
theorem GrO.of {w w' : World} {B cb pb : Nat} {v : Value} (h : Below w.heap.size w w') (hB : B ≤ w.heap.size) : GrO w w' B cb pb v := ⟨h.mono hB, fun b hb _ _ _ => h.block b hb⟩
set_option maxHeartbeats 4000000 in
theorem mayGrow_any (w : World) (B cb : Nat) (a : Option Addr) (len cap : Nat) (l : List Wd) (lim : Int) (v : Value) (acc : List Th) (pb mb : Nat) (ms : List (Int × Int)) (hC : Chart w B cb a len cap l v acc pb mb ms) (hok : OkC lim l acc ms) (hlen : len = l.length) (hf0 : w.frozen? ⟨cb, 0, none⟩ = false)
    (a2 : Option Addr) (len2 cap2 : Nat) (x : List Wd) (hW2 : Wds w w.heap.size a2 (l ++ x)) (hlen2 : len2 = (l ++ x).length) (hcap2 : len2 ≤ cap2) (hl2 : len2 ≤ 60000) (hwf : wfL (l ++ x)) (hx : 0 < x.length) (hfar : ∀ A, a2 = some A → ¬ A.block = cb ∧ ¬ A.block = pb ∧ ¬ v.ownBlock = some A.block) :
    Calls Try.prog 35 #[.pointer (some ⟨cb, 0, none⟩), .slice a2 len2 cap2] w fun e w' => e = .returned (.bool (grB l x acc)) ∧ GrO w w' B cb pb v := by
  have HL := hid hlen
  have HL2 := hid hlen2
  have hcl := hC.lt
  have hBs : B ≤ w.heap.size := by have := hC.hcb; omega
  have hlt : len < len2 := by rw [hlen, hlen2, List.length_append]; omega
  have hacc : acc.length ≤ 60000 := by have := hok.chain.le; have := hok.hi; have := hok.room; omega
  have HC := hid (thingAt_any w w.heap.size a2 (l ++ x) len2 cap2 len hlen2 hl2 hlt (Nat.le_refl _) hW2)
  have HCh := hid hC
  have q0 := hC.c0
  have HG := hid (show grB l x acc = (match tAt (l ++ x) len with
    | none => false
    | some p => decide (p.2 = len2) && !decide (kindAt (l ++ x) (len : Nat) = 10) && allB (plOf (acc ++ [⟨len, p.1, p.2⟩])) (sub (l ++ x) p.1 p.2)) by rw [hlen, hlen2]; rfl)
  clear hlen hlen2 hok hC
  go_enter Try.func35, Try.ntmps35
  go_wp2_with fail
  have hcall := HC.out
  cases ht : tAt (l ++ x) len with
  | none =>
    rw [ht] at hcall
    dsimp only [thR] at hcall
    have HR := hid (show grB l x acc = false by rw [HG.out, ht])
    clear ht
    go_fit hcall
    clear hcall
    rintro e w1 ⟨rfl, hb1⟩
    have HB1 := hid hb1
    have hz1 := hb1.size
    clear hb1
    go_wp2_with fail
    go_ret
    exact ⟨ret_bool HR.out.symm, GrO.of (HB1.out.alloc hz1 _) hBs⟩
  | some p =>
    obtain ⟨f, e⟩ := p
    rw [ht] at hcall
    dsimp only [thR] at hcall
    have HGr := HG.out
    rw [ht] at HGr
    dsimp only at HGr
    have HR := hid HGr
    have htl := tAt_le ht
    have hel : e ≤ len2 := by rw [HL2.out]; exact htl.2.2
    clear ht HGr
    go_fit hcall
    clear hcall
    rintro e' w1 ⟨rfl, hb1⟩
    have hz1 := hb1.size
    obtain ⟨w2, hw2⟩ : ∃ w2, w2 = w1.alloc (.cells #[.int .i64 (len : Int), .int .i64 (f : Int), .int .i64 (e : Int)] 81) := ⟨_, rfl⟩
    obtain ⟨⟨t0, t1, t2⟩, _, hz2, hb2⟩ := box3 w1 _ _ _ _ w2 hw2
    have hb12 := hb1.trans (hb2.mono hz1)
    have HB12 := hid hb12
    have hW22 := hW2.below hb12
    have hq1 : len < (l ++ x).length := by rw [← HL2.out]; exact hlt
    obtain ⟨bb, o, rfl, hbb, c0, _, _⟩ := hW22 len hq1
    have HK := hid (kindAt_nat hq1)
    generalize (l ++ x)[len].k = kk at c0 HK
    have H2 := hid hw2
    have hlt2 : (len : Int) < len2 := by omega
    have C2 := HCh.out.below hb12
    have g0 : w2.frozen? ⟨cb, 0, none⟩ = false := (hb12.frozen (p := ⟨cb, 0, none⟩) hcl).trans hf0
    have q2 := C2.c0
    have hz12 := hb12.size
    clear hw2 hb2 hb1 hb12 q0
    by_cases he : e < len2
    · have he2 : (e : Int) < len2 := by omega
      have HR2 := hid (show grB l x acc = false by rw [HR.out, decide_eq_false (by omega)]; rfl)
      go_upto_region 2 with fail
      rw [← H2.out]
      go_wp2_with fail
      go_ret
      exact ⟨ret_bool HR2.out.symm, GrO.of HB12.out hBs⟩
    · have he2 : ¬ (e : Int) < len2 := by omega
      have hee : e = len2 := by omega
      by_cases h10 : kk = 10
      · have HR2 := hid (show grB l x acc = false by rw [HR.out, HK.out, decide_eq_true (p := kk = 10) h10]; simp)
        subst h10
        have hE := hid hee
        clear hee
        go_upto_region 2 with fail
        rw [← H2.out]
        go_wp2_with fail
        go_ret
        exact ⟨ret_bool HR2.out.symm, GrO.of HB12.out hBs⟩
      · have hk10 : (kk == 10) = false := by simp [h10]
        have HR2 := hid (show grB l x acc = allB (plOf (acc ++ [⟨len, f, e⟩])) (sub (l ++ x) f e) by rw [HR.out, HK.out, decide_eq_false (p := kk = 10) h10, decide_eq_true hee]; rfl)
        have hE := hid hee
        clear hee
        obtain ⟨w3, hw3⟩ : ∃ w3, w3 = w2.setCell ⟨cb, 0, none⟩ (.slice (some ⟨bb, o, none⟩) len2 cap2) := ⟨_, rfl⟩
        have C3 := C2.other (some ⟨bb, o, none⟩) len2 cap2
        rw [← hw3] at C3
        have hz3 : w3.heap.size = w2.heap.size := by rw [hw3]; simp
        have ho3 : ∀ b, ¬ b = cb → w3.heap[b]? = w2.heap[b]? := fun b hb => by rw [hw3]; exact Below.heap_setCell _ _ _ _ (by dsimp only; omega)
        have hbw3 : Below cb w2 w3 := by rw [hw3]; exact (Below.refl _ _).setCell (p := ⟨cb, 0, none⟩) (Nat.le_refl _) _
        have hn1 : ¬ w1.heap.size = cb := by omega
        have s0 : w3.cell? ⟨w1.heap.size, 0, none⟩ = some (.int .i64 len) := (World.cell?_of_block (w := w2) (ho3 _ hn1)).trans t0
        have s1 : w3.cell? ⟨w1.heap.size, 1, none⟩ = some (.int .i64 f) := (World.cell?_of_block (w := w2) (ho3 _ hn1)).trans t1
        have s2 : w3.cell? ⟨w1.heap.size, 2, none⟩ = some (.int .i64 e) := (World.cell?_of_block (w := w2) (ho3 _ hn1)).trans t2
        have HA := hid (add_any w3 B cb _ len2 cap2 [] v acc pb mb ms ⟨len, f, e⟩ C3 hacc (by dsimp only; omega))
        have H3 := hid hw3
        obtain ⟨hfa, hfb, hfc⟩ := hfar _ rfl
        dsimp only at hfa hfb hfc
        have hcl2 : cb < w2.heap.size := by omega
        have HT12 := hid (And.intro hz2 hz12)
        have hvlt := fun b (hb : v.ownBlock = some b) => (HCh.out.row.own_lt hb).2
        have hpl := HCh.out.pl.lt
        clear hw3 C3 C2 hz2
        go_upto_region 2 with fail
        rw [← H2.out]
        go_upto_region 5 with fail
        rw [← H3.out]
        clear t0 t1 t2 c0 q2 g0
        go_wp2_with fail
        have hcall := HA.out
        go_fit hcall
        clear hcall
        rintro e' w4 ⟨rfl, hb4, ⟨v', C4⟩, ho4⟩
        have hz12' := HT12.out
        have hsz4 := hb4.size
        have hfr : ∀ b, b < w3.heap.size → ¬ b = cb → ¬ b = pb → ¬ v.ownBlock = some b → w4.heap[b]? = w2.heap[b]? := fun b h1 h2 h3 h4 => (ho4 b h1 h2 h3 h4).trans (ho3 b h2)
        have hbk : w4.heap[bb]? = w2.heap[bb]? := hfr bb (by omega) hfa hfb hfc
        have hW4 : Wds w4 w4.heap.size (some ⟨bb, o, none⟩) (l ++ x) := hW22.kept (by omega) (fun A hA => by injection hA with hA; subst hA; exact hbk)
        have htk : w4.heap[w1.heap.size]? = w3.heap[w1.heap.size]? := ho4 _ (by omega) hn1 (by omega) (fun h => by have := hvlt _ h; omega)
        have p1 : w4.cell? ⟨w1.heap.size, 1, none⟩ = some (.int .i64 f) := (World.cell?_of_block (w := w3) htk).trans s1
        have p2 : w4.cell? ⟨w1.heap.size, 2, none⟩ = some (.int .i64 e) := (World.cell?_of_block (w := w3) htk).trans s2
        have hte : e ≤ (l ++ x).length := htl.2.2
        obtain ⟨A, hA⟩ : ∃ A, (if cap2 = f then (some ⟨bb, o, none⟩ : Option Addr) else some ⟨bb, o + f * 3, none⟩) = some A := by split <;> exact ⟨_, rfl⟩
        have hWs := wds_sub (f := f) (cap := cap2) hW4 hte (by omega)
        rw [hA] at hWs
        have HCv := hid (areValues_any w4 B cb _ len2 cap2 [] v' (acc ++ [⟨len, f, e⟩]) pb mb ms C4 w4.heap.size (some A) (e - f) (cap2 - f) (sub (l ++ x) f e) hWs (Nat.le_refl _) (sub_length hte).symm (by omega) (wfL_sub hwf hte))
        have HO4 := hid (⟨(HB12.out.mono hBs).trans ((hbw3.mono HCh.out.hcb).trans hb4), fun b h1 h2 h3 h4 => (hfr b (by omega) h2 h3 h4).trans (HB12.out.block b h1)⟩ : GrO w w4 B cb pb v)
        have j2 : (f : Int) ≤ e := by omega
        have j3 : (e : Int) ≤ cap2 := by omega
        have hwz : w.heap.size ≤ w4.heap.size := by omega
        have hcb4 := HCh.out.hcb
        clear hb4 C4 ho4 hfr hbk hW4 htk hWs s0 s1 s2 hz12' hbw3 ho3
        generalize allB (plOf (acc ++ [⟨len, f, e⟩])) (sub (l ++ x) f e) = ab at HCv HR2
        go_wp2_with fail
        have hcall := HCv.out
        go_fit hcall
        clear hcall
        rintro e' w5 ⟨rfl, hb5⟩
        have HO5 := hid (⟨HO4.out.bel.trans (hb5.mono (by omega)), fun b h1 h2 h3 h4 => (hb5.block b (by omega)).trans (HO4.out.oth b h1 h2 h3 h4)⟩ : GrO w w5 B cb pb v)
        clear hb5
        go_wp2_with fail
        go_ret
        exact ⟨ret_bool HR2.out.symm, HO5.out⟩
end Go.Proofs.Ytfjfobpdlmdddaa

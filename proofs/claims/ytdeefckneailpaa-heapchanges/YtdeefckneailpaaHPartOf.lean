/- The document's PartOf. -/
import Derived.Test.YtdeefckneailpaaHPart2
import Derived.Test.YtdeefckneailpaaHFound
namespace Go.Proofs.Ytdeefckneailpaa
set_option maxRecDepth 100000
open Go.RowKit Go.Maps
set_option maxHeartbeats 2000000 in
theorem PartOf_any (w : World) (B : Nat) (a : Option Addr) (len cap : Nat) (l : List Wd) (lim : Int) (k n : Int) (s : ByteArray) (i : Int) (hW : Wds w B a l) (hB : B ≤ w.heap.size) (hlen : len = l.length) (hl : len ≤ 9223372036854775807) (k' n' : Int) (s' : ByteArray) (r : Int) (hd : PtI lim l k n s i k' n' s' r) :
    Calls Try.prog 16 #[.agg #[.slice a len cap, .int .i64 lim], .agg #[.int .i64 k, .int .i64 n, .string s], .int .i64 i] w fun e w' => e = .returned (.tuple #[.agg #[.int .i64 k', .int .i64 n', .string s'], .int .i64 r]) ∧ Below w.heap.size w w' := by
  have HL := hid hlen
  clear hlen
  obtain ⟨w2, hw2⟩ : ∃ w2, w2 = ((w.alloc (.cells #[.slice a len cap, .int .i64 lim] 24)).alloc (.cells #[.int .i64 k, .int .i64 n, .string s] 30)).alloc (.cells #[.int .i64 0, .int .i64 0, .string ⟨#[]⟩] 30) := ⟨_, rfl⟩
  obtain ⟨⟨y0, y1⟩, ⟨t0, t1, t2⟩, ⟨r0, r1, r2⟩, ⟨f0, f1, f2⟩, hz2, hb2⟩ := boxes233 w _ _ _ _ _ _ _ _ _ _ _ w2 hw2
  have H2 := hid hw2
  have HB2 := hid hb2
  have HK := hid (fun w4 (hb4 : Below w2.heap.size w2 w4) => (⟨(hb4.cell (p := ⟨w.heap.size, 0, none⟩) (by dsimp only; omega)).trans y0,
    ⟨(hb4.cell (p := ⟨w.heap.size + 2, 0, none⟩) (by dsimp only; omega)).trans r0, (hb4.cell (p := ⟨w.heap.size + 2, 1, none⟩) (by dsimp only; omega)).trans r1, (hb4.cell (p := ⟨w.heap.size + 2, 2, none⟩) (by dsimp only; omega)).trans r2⟩,
    (hb4.frozen (p := ⟨w.heap.size + 2, 0, none⟩) (by dsimp only; omega)).trans f0, (hb4.frozen (p := ⟨w.heap.size + 2, 1, none⟩) (by dsimp only; omega)).trans f1, (hb4.frozen (p := ⟨w.heap.size + 2, 2, none⟩) (by dsimp only; omega)).trans f2⟩ :
    w4.cell? ⟨w.heap.size, 0, none⟩ = some (.slice a len cap) ∧
    (w4.cell? ⟨w.heap.size + 2, 0, none⟩ = some (.int .i64 0) ∧ w4.cell? ⟨w.heap.size + 2, 1, none⟩ = some (.int .i64 0) ∧ w4.cell? ⟨w.heap.size + 2, 2, none⟩ = some (.string ⟨#[]⟩)) ∧
    w4.frozen? ⟨w.heap.size + 2, 0, none⟩ = false ∧ w4.frozen? ⟨w.heap.size + 2, 1, none⟩ = false ∧ w4.frozen? ⟨w.heap.size + 2, 2, none⟩ = false))
  have hW2 := hW.below (hb2.mono hB)
  clear hw2 hb2 y1
  go_enter Try.func16, Try.ntmps16
  go_wp2_with fail
  rw [← H2.out]
  rcases hd with ⟨acc, ms, hok, hv, hpt⟩ | ⟨⟨rfl, rfl, rfl⟩, hno⟩
  · have hcall := FoundOf_any w2 B a len cap l lim k n s hW2 (by omega) HL.out hl k (atI ms k n) s 0 (Or.inl ⟨acc, ms, hok, hv, rfl, rfl, rfl, rfl⟩)
    have hl6 : len ≤ 60000 := by have := hok.hi; have := hok.room; have := HL.out; omega
    clear hok hv
    go_fit hcall
    clear hcall
    rintro e w4 ⟨rfl, hb4⟩
    have hB4 := hid (HB2.out.trans (hb4.mono (by omega)))
    have hz4 := hb4.size
    obtain ⟨x0, ⟨q0, q1, q2⟩, g0, g1, g2⟩ := HK.out w4 hb4
    have hl0 : w.heap.size < w4.heap.size := by omega
    have hl2 : w.heap.size + 2 < w4.heap.size := by omega
    clear hb4 y0 t0 t1 t2 r0 r1 r2 f0 f1 f2
    obtain ⟨x, hpr, hres⟩ := hpt
    by_cases h5 : k = 5
    · subst h5
      rcases hpr with ⟨h, _⟩ | ⟨_, m, f, e, hm, hml, htr, hcase⟩
      · exact absurd rfl h
      · have hat : atI ms 5 n = m := by unfold atI; rw [if_pos rfl]; exact hm
        rw [hat]
        have hle := tRef_le htr
        obtain ⟨E, hE⟩ : ∃ E : Nat, e = m + E := ⟨e - m, by omega⟩
        obtain ⟨F, hF⟩ : ∃ F : Nat, f = m + F := ⟨f - m, by omega⟩
        have hE1 : (e : Int) - m = E := by omega
        have hF1 : (f : Int) - m = F := by omega
        have hl7 : l.length ≤ 60000 := by have := HL.out; omega
        have hE6 : (E : Int) ≤ 60000 := by omega
        have hF6 : (F : Int) ≤ E := by omega
        obtain ⟨w5, hw5⟩ : ∃ w5, w5 = w4.alloc (.cells #[.int .i64 5, .int .i64 (m : Int), .string s] 30) := ⟨_, rfl⟩
        obtain ⟨⟨v0, v1, v2⟩, _, hz5, hb5⟩ := box3 w4 _ _ _ _ w5 hw5
        have H5 := hid hw5
        have hB5 := hid (hB4.out.trans (hb5.mono (by omega)))
        have xx0 := (hb5.cell (p := ⟨w.heap.size, 0, none⟩) hl0).trans x0
        have qq0 := (hb5.cell (p := ⟨w.heap.size + 2, 0, none⟩) hl2).trans q0
        have qq1 := (hb5.cell (p := ⟨w.heap.size + 2, 1, none⟩) hl2).trans q1
        have qq2 := (hb5.cell (p := ⟨w.heap.size + 2, 2, none⟩) hl2).trans q2
        have gg0 := (hb5.frozen (p := ⟨w.heap.size + 2, 0, none⟩) hl2).trans g0
        have gg1 := (hb5.frozen (p := ⟨w.heap.size + 2, 1, none⟩) hl2).trans g1
        have gg2 := (hb5.frozen (p := ⟨w.heap.size + 2, 2, none⟩) hl2).trans g2
        have hcall := thing_any w5 B a l len cap m HL.out hl6 (by have := HL.out; omega) (by omega) (hW.below (hB5.out.mono hB))
        rw [htr] at hcall
        dsimp only [thV] at hcall
        rw [hE1, hF1] at hcall
        have HCl := hid hcall
        have HZ5 := hid hz5
        have HHE := hid hE
        have HHF := hid hF
        clear hcall hw5 hb5 hz5 hE hF hE1 hF1 hat
        go_wp2_with fail
        rw [← H5.out]
        have hcall := HCl.out
        go_fit hcall
        clear hcall
        rintro e' w6 ⟨rfl, hb6⟩
        clear x0 q0 q1 q2 g0 g1 g2
        have hB6 := hid (hB5.out.trans (hb6.mono (by have := HZ5.out; omega)))
        have x0 := (hb6.cell (p := ⟨w.heap.size, 0, none⟩) (by have := HZ5.out; dsimp only; omega)).trans xx0
        have u1 := (hb6.cell (p := ⟨w4.heap.size, 1, none⟩) (by have := HZ5.out; dsimp only; omega)).trans v1
        have q0 := (hb6.cell (p := ⟨w.heap.size + 2, 0, none⟩) (by have := HZ5.out; dsimp only; omega)).trans qq0
        have q1 := (hb6.cell (p := ⟨w.heap.size + 2, 1, none⟩) (by have := HZ5.out; dsimp only; omega)).trans qq1
        have q2 := (hb6.cell (p := ⟨w.heap.size + 2, 2, none⟩) (by have := HZ5.out; dsimp only; omega)).trans qq2
        have g0 := (hb6.frozen (p := ⟨w.heap.size + 2, 0, none⟩) (by have := HZ5.out; dsimp only; omega)).trans gg0
        have g1 := (hb6.frozen (p := ⟨w.heap.size + 2, 1, none⟩) (by have := HZ5.out; dsimp only; omega)).trans gg1
        have g2 := (hb6.frozen (p := ⟨w.heap.size + 2, 2, none⟩) (by have := HZ5.out; dsimp only; omega)).trans gg2
        have HI := hid (In_any i 0 ((E : Int) - F - 1) w6)
        clear hb6 xx0 v0 v1 v2 qq0 qq1 qq2 gg0 gg1 gg2
        rcases hcase with ⟨c1, c2, rfl, rfl⟩ | ⟨c1, rfl, rfl⟩
        · have hin : inB i 0 ((E : Int) - F - 1) = true := by have := HHE.out; have := HHF.out; unfold inB; simp; omega
          rw [hin] at HI
          rcases hres with ⟨h, _⟩ | ⟨_, q, hq, hxq, rfl, rfl, rfl⟩
          · exact absurd rfl h
          · obtain ⟨bb, o, rfl, hbb, d0, d1, d2⟩ := hW.below (hB6.out.mono hB) q hq
            have hq2 : (q : Int) < len := by have := HL.out; omega
            have hqi : (m : Int) + F + i = q := by have := HHF.out; omega
            have hbl : ¬ bb = w.heap.size + 2 := by omega
            generalize hkk : l[q].k = kk at d0
            generalize hnn : l[q].n = nn at d1
            generalize hss : l[q].s = ss at d2
            have HKK := hid hkk
            have HNN := hid hnn
            have HSS := hid hss
            clear hkk hnn hss
            clear hxq hin
            go_wp2_with (go_at_call 22; refine HI.out.mono ?_; rintro e w' ⟨rfl, rfl⟩)
            refine bodyPost_ret (v := .tuple #[.agg #[.int .i64 kk, .int .i64 nn, .string ss], .int .i64 0]) (by simp [results, Try.results16, go_sem, q0, q1, q2]) rfl ⟨by rw [HKK.out, HNN.out, HSS.out], below_set3s hB6.out (by omega)⟩
        · have hin : inB i 0 ((E : Int) - F - 1) = false := by have := HHE.out; have := HHF.out; rw [Bool.eq_false_iff]; intro h; unfold inB at h; simp at h; omega
          rw [hin] at HI
          rcases hres with ⟨_, rfl, rfl, rfl⟩ | ⟨h, _⟩
          · clear hin
            go_wp2_with (go_at_call 22; refine HI.out.mono ?_; rintro e w' ⟨rfl, rfl⟩)
            refine bodyPost_ret (v := .tuple #[.agg #[.int .i64 0, .int .i64 0, .string ⟨#[]⟩], .int .i64 2]) (by simp [results, Try.results16, go_sem, q0, q1, q2]) rfl ⟨rfl, below_set3s hB6.out (by omega)⟩
          · cases h
    · have h5b : (k != 5) = true := by simp [h5]
      rcases hpr with ⟨_, rfl, rfl⟩ | ⟨h, _⟩
      · rcases hres with ⟨_, rfl, rfl, rfl⟩ | ⟨h, _⟩
        · generalize atI ms k n = nn
          go_wp2_with fail
          refine bodyPost_ret (v := .tuple #[.agg #[.int .i64 0, .int .i64 0, .string ⟨#[]⟩], .int .i64 3]) (by simp [results, Try.results16, go_sem, hl2, q0, q1, q2]) rfl ⟨rfl, (below_set3s (g := w.heap.size + 2) hB4.out (by omega)).alloc (by simp; omega) _⟩
        · cases h
      · exact absurd h h5
  · have hcall := FoundOf_any w2 B a len cap l lim k n s hW2 (by omega) HL.out hl 0 0 ⟨#[]⟩ r (Or.inr ⟨⟨rfl, rfl, rfl⟩, hno⟩)
    have hr : ¬ r = 0 := by rcases hno with ⟨rfl, _⟩ | ⟨rfl, _⟩ <;> omega
    have hrb : (r != 0) = true := by simp [hr]
    clear hno
    go_fit hcall
    clear hcall
    rintro e w4 ⟨rfl, hb4⟩
    have hB4 := hid (HB2.out.trans (hb4.mono (by omega)))
    have hz4 := hb4.size
    obtain ⟨x0, ⟨q0, q1, q2⟩, g0, g1, g2⟩ := HK.out w4 hb4
    have hl2 : w.heap.size + 2 < w4.heap.size := by omega
    clear hb4 y0 t0 t1 t2 r0 r1 r2 f0 f1 f2
    go_wp2_with fail
    refine bodyPost_ret (v := .tuple #[.agg #[.int .i64 0, .int .i64 0, .string ⟨#[]⟩], .int .i64 r]) (by simp [results, Try.results16, go_sem, hl2, q0, q1, q2]) rfl ⟨rfl, (below_set3s (g := w.heap.size + 2) hB4.out (by omega)).alloc (by simp; omega) _⟩
end Go.Proofs.Ytdeefckneailpaa

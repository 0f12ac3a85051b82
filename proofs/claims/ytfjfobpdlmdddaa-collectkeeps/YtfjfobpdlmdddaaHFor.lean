/- The chart of a heap for some values: heap's chartFor. -/
import Derived.Test.YtfjfobpdlmdddaaHNew
namespace Go.Proofs.Ytfjfobpdlmdddaa
set_option maxRecDepth 100000
open Go.RowKit Go.Maps
theorem boxes24 {w w1 : World} {v0 v1 u0 u1 u2 u3 : Value} {t t' : TypeId} (hb : Below (w.heap.size + 2) ((w.alloc (.cells #[v0, v1] t)).alloc (.cells #[u0, u1, u2, u3] t')) w1) :
    (w1.cell? ⟨w.heap.size + 1, 0, none⟩ = some u0 ∧ w1.cell? ⟨w.heap.size + 1, 1, none⟩ = some u1 ∧ w1.cell? ⟨w.heap.size + 1, 2, none⟩ = some u2 ∧ w1.cell? ⟨w.heap.size + 1, 3, none⟩ = some u3) ∧
    (w1.frozen? ⟨w.heap.size + 1, 0, none⟩ = false ∧ w1.frozen? ⟨w.heap.size + 1, 1, none⟩ = false ∧ w1.frozen? ⟨w.heap.size + 1, 2, none⟩ = false ∧ w1.frozen? ⟨w.heap.size + 1, 3, none⟩ = false) := by
  have h : w.heap.size + 1 < w.heap.size + 2 := by omega
  refine ⟨⟨?_, ?_, ?_, ?_⟩, ?_, ?_, ?_, ?_⟩
  · rw [hb.cell (p := ⟨w.heap.size + 1, 0, none⟩) h]; go_simp
  · rw [hb.cell (p := ⟨w.heap.size + 1, 1, none⟩) h]; go_simp
  · rw [hb.cell (p := ⟨w.heap.size + 1, 2, none⟩) h]; go_simp
  · rw [hb.cell (p := ⟨w.heap.size + 1, 3, none⟩) h]; go_simp
  · rw [hb.frozen (p := ⟨w.heap.size + 1, 0, none⟩) h]; go_simp
  · rw [hb.frozen (p := ⟨w.heap.size + 1, 1, none⟩) h]; go_simp
  · rw [hb.frozen (p := ⟨w.heap.size + 1, 2, none⟩) h]; go_simp
  · rw [hb.frozen (p := ⟨w.heap.size + 1, 3, none⟩) h]; go_simp
theorem below_2 (w : World) (o o' : Obj) : Below w.heap.size w ((w.alloc o).alloc o') := ((Below.refl _ _).alloc (Nat.le_refl _) _).alloc (by simp) _
set_option maxHeartbeats 4000000 in
theorem chartFor_any (w : World) (B : Nat) (a : Option Addr) (len cap : Nat) (l : List Wd) (lim : Int) (hW : Wds w B a l) (hB : B ≤ w.heap.size) (hlen : len = l.length) (hcap : len ≤ cap) (hl : len ≤ 9223372036854775807) (hwf : wfL l)
    (a2 : Option Addr) (len2 cap2 : Nat) (l2 : List Wd) (hW2 : Wds w B a2 l2) (hlen2 : len2 = l2.length) (hl2 : len2 ≤ 9223372036854775807) (hwf2 : wfL l2) :
    Calls Try.prog 25 #[.agg #[.slice a len cap, .int .i64 lim], .slice a2 len2 cap2] w fun e w' => Below w.heap.size w w' ∧
      ((∃ v acc pb mb ms, e = .returned (.tuple #[.agg #[.slice a len cap, v, .map (some pb), .map (some mb)], .int .i64 0]) ∧ OkC lim l acc ms ∧ allB (plOf acc) l2 = true ∧ ChartV w' w.heap.size a l v acc pb mb ms) ∨
       (e = .returned (.tuple #[.agg #[.slice none 0 0, .slice none 0 0, .map none, .map none], .int .i64 3]) ∧ ∃ acc ms, OkC lim l acc ms ∧ allB (plOf acc) l2 = false) ∨
       (e = .returned (.tuple #[.agg #[.slice none 0 0, .slice none 0 0, .map none, .map none], .int .i64 9]) ∧ BadC lim l)) := by
  have hb0 := hid (below_2 w (.cells #[.slice a len cap, .int .i64 lim] 24) (.cells #[.slice none 0 0, .slice none 0 0, .map none, .map none] 58))
  have HL := hid hlen
  have HL2 := hid hlen2
  clear hlen hlen2
  go_enter Try.func25, Try.ntmps25
  go_wp2_with fail
  have hcall := newChart_any _ B a len cap l lim (hW.below (hb0.out.mono hB)) (by simp; omega) HL.out hcap hl hwf
  go_fit hcall
  clear hcall
  rintro e w3 ⟨hb3, ⟨v, acc, pb, mb, ms, rfl, hok, hV⟩ | ⟨rfl, hbad⟩⟩
  · have hb3' := hb3.mono (show w.heap.size + 2 ≤ _ by simp)
    clear hb3
    have hz3 : w.heap.size + 2 ≤ w3.heap.size := by have := hb3'.size; simpa using this
    obtain ⟨⟨r0, r1, r2, r3⟩, f0, f1, f2, f3⟩ := boxes24 hb3'
    have hB3 := hid (hb0.out.trans (hb3'.mono (by omega)))
    obtain ⟨av, capv, hv, _, _⟩ := hV.row.cells
    subst hv
    have hrl : w.heap.size + 1 < w3.heap.size := by omega
    go_wp2_with fail
    have CB := ChartV.box (len := len) (cap := cap) hV 58
    obtain ⟨w4, hw4⟩ : ∃ w4, w4 = w3.alloc (.cells #[.slice a len cap, .slice av acc.length capv, .map (some pb), .map (some mb)] 58) := ⟨_, rfl⟩
    rw [← hw4] at CB
    have hb4 : Below w3.heap.size w3 w4 := by rw [hw4]; exact (Below.refl _ _).alloc (Nat.le_refl _) _
    rw [← hw4]
    clear hw4
    have hB4 := hid (hB3.out.trans (hb4.mono (by omega)))
    have hcall := areValues_any w4 _ w3.heap.size a len cap l _ acc pb mb ms CB B a2 len2 cap2 l2 (hW2.below (hB4.out.mono hB)) (by have := hb4.size; omega) HL2.out hl2 hwf2
    go_fit hcall
    clear hcall
    rintro e w5 ⟨rfl, hb5⟩
    have hz4 := hb4.size
    have C5 := CB.below hb5
    have hB5 := hid (hB4.out.trans (hb5.mono (by omega)))
    have q0 := (hb5.cell (p := ⟨w.heap.size + 1, 0, none⟩) (by dsimp only; omega)).trans ((hb4.cell (p := ⟨w.heap.size + 1, 0, none⟩) (by dsimp only; omega)).trans r0)
    have q1 := (hb5.cell (p := ⟨w.heap.size + 1, 1, none⟩) (by dsimp only; omega)).trans ((hb4.cell (p := ⟨w.heap.size + 1, 1, none⟩) (by dsimp only; omega)).trans r1)
    have q2 := (hb5.cell (p := ⟨w.heap.size + 1, 2, none⟩) (by dsimp only; omega)).trans ((hb4.cell (p := ⟨w.heap.size + 1, 2, none⟩) (by dsimp only; omega)).trans r2)
    have q3 := (hb5.cell (p := ⟨w.heap.size + 1, 3, none⟩) (by dsimp only; omega)).trans ((hb4.cell (p := ⟨w.heap.size + 1, 3, none⟩) (by dsimp only; omega)).trans r3)
    have g0 := (hb5.frozen (p := ⟨w.heap.size + 1, 0, none⟩) (by dsimp only; omega)).trans ((hb4.frozen (p := ⟨w.heap.size + 1, 0, none⟩) (by dsimp only; omega)).trans f0)
    have g1 := (hb5.frozen (p := ⟨w.heap.size + 1, 1, none⟩) (by dsimp only; omega)).trans ((hb4.frozen (p := ⟨w.heap.size + 1, 1, none⟩) (by dsimp only; omega)).trans f1)
    have g2 := (hb5.frozen (p := ⟨w.heap.size + 1, 2, none⟩) (by dsimp only; omega)).trans ((hb4.frozen (p := ⟨w.heap.size + 1, 2, none⟩) (by dsimp only; omega)).trans f2)
    have g3 := (hb5.frozen (p := ⟨w.heap.size + 1, 3, none⟩) (by dsimp only; omega)).trans ((hb4.frozen (p := ⟨w.heap.size + 1, 3, none⟩) (by dsimp only; omega)).trans f3)
    have c0 := C5.c0
    have c1 := C5.c1
    have c2 := C5.c2
    have c3 := C5.c3
    clear hb4 hb5 CB r0 r1 r2 r3 f0 f1 f2 f3
    cases hall : allB (plOf acc) l2
    · have HX := hid (show ∃ acc ms, OkC lim l acc ms ∧ allB (plOf acc) l2 = false from ⟨acc, ms, hok, hall⟩)
      go_wp2_with fail
      refine bodyPost_ret (v := .tuple #[.agg #[.slice none 0 0, .slice none 0 0, .map none, .map none], .int .i64 3]) (by simp [results, Try.results25, go_sem, q0, q1, q2, q3]) rfl ⟨below_set4s hB5.out (by omega), Or.inr (Or.inl ⟨rfl, HX.out⟩)⟩
    · have HV := hid C5.toV
      simp only [World.size_alloc] at HV
      go_wp2_with fail
      refine bodyPost_ret (v := .tuple #[.agg #[.slice a len cap, .slice av acc.length capv, .map (some pb), .map (some mb)], .int .i64 0]) (by simp [results, Try.results25, go_sem, q0, q1, q2, q3]) rfl ⟨below_set4s hB5.out (by omega), Or.inl ⟨_, acc, pb, mb, ms, rfl, hok, hall, ?_⟩⟩
      have hV := HV.out
      have hW' := ((hW.mono hB).below (below_set4s (g := w.heap.size + 1) hB5.out (by omega) (x0 := .slice a len cap) (x1 := .slice av acc.length capv) (x2 := .map (some pb)) (x3 := .map (some mb))))
      exact ChartV.mono (B := w.heap.size + 1 + 1) ⟨hW'.mono (by omega), hV.row.keep (fun b hb' => heap_set4 w5 (by have := (hV.row.own_lt hb').1; omega)), hV.pl.keep (heap_set4 w5 (by have := hV.hpb; omega)), hV.mv.keep (heap_set4 w5 (by have := hV.hmb; omega)), hV.hpb, hV.hmb, hV.n3, hV.n4⟩ (by omega) hW'
  · have hb3' := hb3.mono (show w.heap.size + 2 ≤ _ by simp)
    clear hb3
    have hz3 : w.heap.size + 2 ≤ w3.heap.size := by have := hb3'.size; simpa using this
    obtain ⟨⟨r0, r1, r2, r3⟩, f0, f1, f2, f3⟩ := boxes24 hb3'
    have hB3 := hid (hb0.out.trans (hb3'.mono (by omega)))
    have hrl : w.heap.size + 1 < w3.heap.size := by omega
    go_wp2_with fail
    refine bodyPost_ret (v := .tuple #[.agg #[.slice none 0 0, .slice none 0 0, .map none, .map none], .int .i64 9]) (by simp [results, Try.results25, go_sem, hrl, r0, r1, r2, r3]) rfl ⟨?_, Or.inr (Or.inr ⟨rfl, hbad⟩)⟩
    exact (below_set4s hB3.out (by omega)).alloc (by simp; omega) _
end Go.Proofs.Ytfjfobpdlmdddaa
